/-
  What the program's calls have to answer ('Face10': the calls of package text); concordlaw10.alive by contract.
-/
import Derived.Test.YtcdlchcmidfhiaaGreatDoorTpStmt
import Derived.Test.YtcdlchcmidfhiaaGreatDoorPgFace
import Derived.Test.YtcdlchcmidfhiaaGreatDoorTpWord
namespace Go.Proofs.YtcdlchcmidfhiaaGreatDoor
open Go.RowKit Go.Extern.Stop Go.Stop Go.Extern

/-- What Parse answers. -/
def ParseTo (w : World) (S : Str) (e : Ending) (w' : World) : Prop := Keeps (fun _ => False) w w' ∧
  ((∃ F v, parseT S = .inl F ∧ e = .returned (.tuple #[v, .nilIface]) ∧ SlOf w' v F) ∨
   (∃ k at_ ev, parseT S = .inr (k, at_) ∧ e = .returned (.tuple #[.slice none 0 0, ev]) ∧ ErrU w.heap.size w' ev k (at_ : Nat)))
/-- What Print answers. -/
def PrintTo (w : World) (F : Fo) (e : Ending) (w' : World) : Prop := Keeps (fun _ => False) w w' ∧
  (((right F K8).1 = 0 ∧ (textT F).length ≤ 20000 ∧ e = .returned (.tuple #[.string (mkB (textT F)), .nilIface])) ∨
   ((right F K8).1 = 0 ∧ 20000 < (textT F).length ∧ ∃ ev, e = .returned (.tuple #[.string (mkB []), ev]) ∧ ErrU w.heap.size w' ev 8 0) ∨
   ((right F K8).1 ≠ 0 ∧ ∃ ev, e = .returned (.tuple #[.string (mkB []), ev]) ∧ ErrU w.heap.size w' ev (right F K8).1 ((right F K8).2 : Nat)))
structure Face10 : Prop where
  parse_ : ∀ {w : World} (S : Str), GlobT w → S.length ≤ 20000 → Calls Tryz.prog 13 #[.string (mkB S)] w (ParseTo w S)
  print_ : ∀ {w : World} {v : Value} {F : Fo}, GlobT w → SlOf w v F → F.size ≤ 20000 → F.deep ≤ 20000 → Calls Tryz.prog 9 #[v] w (PrintTo w F)

/-! ### the example -/
def S0 : Str := [112, 117, 116, 32, 48, 32, 114, 49, 43, 49, 32, 45, 51, 10, 105, 102, 32, 114, 49, 32, 50, 32, 123, 10, 32, 32, 114, 101, 116, 114, 121, 10, 125, 10]
def S1 : Str := [105, 102, 32, 49, 32, 50, 32, 123, 10]
def F0 : Fo := .cons ⟨2, 0, 0, 1, 1, 0, -3⟩ .nil .nil (.cons ⟨11, 0, 0, 1, 0, 0, 2⟩ (.cons ⟨15, 0, 0, 0, 0, 0, 0⟩ .nil .nil .nil) .nil .nil)
theorem parse_S0 : parseT S0 = .inl F0 := by rfl
theorem parse_S1 : parseT S1 = .inr (9, 2) := by rfl
theorem text_F0 : textT F0 = S0 := by rfl
theorem right_F0 : right F0 K8 = (0, 0) := by rfl

set_option maxRecDepth 100000 in
set_option maxHeartbeats 1000000 in
theorem alive_any10 (F10 : Face10) {w : World} (hg : GlobT w) :
    Calls Tryz.prog 8 #[] w fun e w' => e = .returned (.bool true) ∧ Keeps (fun _ => False) w w' := by
  have C1 : Hid (∀ V : World, GlobT V → Calls Tryz.prog 13 #[.string (mkB S0)] V fun e w' => ∃ b o c, e = .returned (.tuple #[.slice (some ⟨b, o, none⟩) 2 c, .nilIface]) ∧ SlOf w' (.slice (some ⟨b, o, none⟩) 2 c) F0 ∧ ItemAt w' (⟨2, 0, 0, 1, 1, 0, -3⟩, .nil, .nil) b o ∧ Keeps (fun _ => False) V w') := Lib.hid fun V g => by
    refine (F10.parse_ S0 g (by decide)).mono ?_
    rintro e w' ⟨hK, h⟩
    rw [parse_S0] at h
    rcases h with ⟨F, v, e1, e2, hv⟩ | ⟨k, a, ev, e1, _⟩
    · injection e1 with e1
      subst e1
      obtain ⟨b, o, c, s, B, E, rfl, hx, hat⟩ := hv.item (i := 0) (by decide)
      have hx' : (⟨2, 0, 0, 1, 1, 0, -3⟩, .nil, .nil) = (s, B, E) := Option.some.inj hx
      rw [← hx', Nat.zero_mul, Nat.add_zero] at hat
      exact ⟨b, o, c, e2, hv, hat, hK⟩
    · cases e1
  have C2 : Hid (∀ (V : World) (v : Value), GlobT V → SlOf V v F0 → Calls Tryz.prog 9 #[v] V fun e w' => e = .returned (.tuple #[.string (mkB S0), .nilIface]) ∧ Keeps (fun _ => False) V w') := Lib.hid fun V v g hv => by
    refine (F10.print_ g hv (by decide) (by decide)).mono ?_
    rintro e w' ⟨hK, h⟩
    rw [right_F0, text_F0] at h
    rcases h with ⟨_, _, h⟩ | ⟨_, h, _⟩ | ⟨h, _⟩
    · exact ⟨h, hK⟩
    · exact absurd h (by decide)
    · exact absurd rfl h
  have C3 : Hid (∀ V : World, GlobT V → Calls Tryz.prog 13 #[.string (mkB S1)] V fun e w' => ∃ ev, e = .returned (.tuple #[.slice none 0 0, ev]) ∧ ErrU V.heap.size w' ev 9 2 ∧ Keeps (fun _ => False) V w') := Lib.hid fun V g => by
    refine (F10.parse_ S1 g (by decide)).mono ?_
    rintro e w' ⟨hK, h⟩
    rw [parse_S1] at h
    rcases h with ⟨F, v, e1, _⟩ | ⟨k, a, ev, e1, e2, he⟩
    · cases e1
    · injection e1 with e1
      injection e1 with e1 e3
      subst e1
      subst e3
      exact ⟨ev, e2, he, hK⟩
  have HG := Lib.hid hg
  have q0 : (mkB S0).toList = S0 := mkB_list S0
  clear hg
  go_enter Tryz.func8, Tryz.ntmps8
  go_wp2_with fail
  refine (C1.out _ HG.out).mono ?_
  rintro e w1 ⟨b, o, c, rfl, hv, hat, hK⟩
  have V1 := Lib.hid hv
  have T1 := Lib.hid hat
  have K1 := Lib.hid hK
  clear hv hat hK
  go_wp2_with fail
  refine (C2.out _ _ (HG.out.keeps K1.out id) V1.out).mono ?_
  rintro e w2 ⟨rfl, hK⟩
  have J2 := Lib.hid hK
  have K2 := Lib.hid (K1.out.trans hK fun _ _ => id)
  clear hK
  go_wp2_with fail
  refine (C3.out _ (HG.out.keeps K2.out id)).mono ?_
  rintro e w3 ⟨ev, rfl, hE, hK⟩
  have E3 := Lib.hid hE
  have J3 := Lib.hid (J2.out.trans hK fun _ _ => id)
  have K3 := Lib.hid (K2.out.trans hK fun _ _ => id)
  clear hE hK
  go_wp2_with fail
  refine (no_nil _).mono ?_
  rintro e w' ⟨rfl, rfl⟩
  go_wp2_with fail
  refine (no_nil _).mono ?_
  rintro e w' ⟨rfl, rfl⟩
  have T3 := T1.out.keeps J3.out fun _ _ => id
  have a0 := T3.1.ar
  have a1 := T3.1.an
  have a2 := T3.1.bn
  simp only at a0 a1 a2
  clear T3
  go_wp2_with fail
  refine (no_u E3.out).mono ?_
  rintro e w' ⟨rfl, rfl⟩
  go_wp2_with fail
  refine (place_u E3.out (HG.out.keeps K3.out id).g).mono ?_
  rintro e w4 ⟨rfl, hK⟩
  have K4 := Lib.hid (K3.out.trans hK fun _ _ => id)
  clear hK
  go_wp2_with fail
  go_ret
  exact ⟨rfl, K4.out⟩
end Go.Proofs.YtcdlchcmidfhiaaGreatDoor
