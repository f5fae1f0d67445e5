/-
  What the program's calls have to answer ('Face9': the calls of package prog); concordlaw09.alive by contract.
-/
import Derived.Test.YtpmbkeaimdeglaaDoorPgRef
import Derived.Test.YtpmbkeaimdeglaaDoorErPlace
namespace Go.Proofs.YtpmbkeaimdeglaaDoor
open Go.RowKit Go.Extern.Stop Go.Stop Go.Extern

structure Face9 : Prop where
  right_ : ∀ {w : World} {v : Value} {F : Fo} {ko : Option Addr} {kn kc : Nat} {K : List Int}, SlOf w v F → IntL w ko kn K → kn ≤ 20 → F.size ≤ 600 → F.deep ≤ 40 →
    Calls Tryd.prog 10 #[v, .slice ko kn kc] w fun e w' => ∃ ev, e = .returned ev ∧ ErrU w.heap.size w' ev (right F K).1 ((right F K).2 : Nat) ∧ Keeps (fun _ => False) w w'
  size_ : ∀ {w : World} {v : Value} {F : Fo}, SlOf w v F → F.size ≤ 600 → F.deep ≤ 40 →
    Calls Tryd.prog 14 #[v] w fun e w' => e = .returned (.int .i64 (F.size : Nat)) ∧ Keeps (fun _ => False) w w'
  deep_ : ∀ {w : World} {v : Value} {F : Fo}, SlOf w v F → F.size ≤ 600 → F.deep ≤ 40 →
    Calls Tryd.prog 16 #[v] w fun e w' => e = .returned (.int .i64 (F.deep : Nat)) ∧ Keeps (fun _ => False) w w'
  colls_ : ∀ {w : World} {v : Value} {F : Fo}, SlOf w v F → F.size ≤ 600 → F.deep ≤ 40 →
    Calls Tryd.prog 19 #[v] w fun e w' => ∃ u C, e = .returned u ∧ IRow w' u C ∧ Up C ∧ (∀ x, x ∈ C ↔ Named (lin F 1) x) ∧ Keeps (fun _ => False) w w'
  waits_ : ∀ {w : World} {v : Value} {F : Fo}, SlOf w v F → F.size ≤ 600 → F.deep ≤ 40 →
    Calls Tryd.prog 21 #[v] w fun e w' => e = .returned (.bool (waits F)) ∧ Keeps (fun _ => False) w w'

theorem IntL.none_ints (w : World) : IntL w none 0 [] := ⟨rfl, Nat.zero_le _, fun _ => rfl, fun h => absurd h (Nat.lt_irrefl _)⟩
/-- A slice of one statement that was laid. -/
theorem sl_lit {w : World} {g : Nat} {s : St7} {b e : Sl} {B E : Fo} (h : Whole w g 42 (stAgg s b e)) (hB : SlOf w (slv b) B) (hE : SlOf w (slv e) E) (hw : (Lit.int .i64 s.c).wf = true) : SlOf w (.slice (some ⟨g, 0, none⟩) 1 1) (.cons s B E .nil) :=
  ⟨some ⟨g, 0, none⟩, 1, rfl, ⟨Nat.le_refl 1, (by decide : 1 ≤ maxLen)⟩, (fun e => by cases e), fun _ => ⟨g, 0, rfl, ⟨h.at_ 0, h.at_ 1, h.at_ 2, h.at_ 3, h.at_ 4, h.at_ 5, h.at_ 6, hw⟩, ⟨_, h.at_ 7, hB⟩, ⟨_, h.at_ 8, hE⟩, trivial⟩⟩
theorem sl_none (w : World) : SlOf w (slv (none, 0, 0)) .nil := SlOf.nil_ w

theorem right_le (F : Fo) (K : List Int) : (right F K).1 = 0 ∨ (right F K).1 = 8 ∨ (right F K).1 = 9 ∨ (right F K).1 = 10 := by
  have key : ∀ (L : List Ln) (i : Nat), (rightL K L i).1 = 0 ∨ (rightL K L i).1 = 8 ∨ (rightL K L i).1 = 9 ∨ (rightL K L i).1 = 10 := fun L => by
    induction L with
    | nil => intro i; exact .inl rfl
    | cons l t ih =>
      intro i
      simp only [rightL]
      split
      · exact .inr (.inl rfl)
      · split
        · exact .inr (.inr (.inr rfl))
        · split
          · exact .inr (.inr (.inl rfl))
          · exact ih _
  exact key _ _

set_option maxRecDepth 100000 in
theorem alive_any9 (F9 : Face9) {w : World} (hg : Glob w) :
    Calls Tryd.prog 9 #[] w fun e w' => e = .returned (.bool true) ∧ Keeps (fun _ => False) w w' := by
  have r1 : right (.cons ⟨1, 0, 1, 0, 0, 0, 0⟩ .nil .nil .nil) [] = (9, 1) := rfl
  have r2 : right (.cons ⟨15, 0, 0, 0, 0, 0, 0⟩ .nil .nil .nil) [] = (0, 0) := rfl
  have C1 : Hid (∀ (V : World) (g : Nat), Whole V g 42 #[.int .i64 1, .int .i64 0, .int .i64 1, .int .i64 0, .int .i64 0, .int .i64 0, .int .i64 0, .slice none 0 0, .slice none 0 0] → Calls Tryd.prog 10 #[.slice (some ⟨g, 0, none⟩) 1 1, .slice none 0 0] V fun e w' => ∃ ev, e = .returned ev ∧ ErrU V.heap.size w' ev 9 1 ∧ Keeps (fun _ => False) V w') := Lib.hid fun V g h => by
    have := F9.right_ (kc := 0) (sl_lit (s := ⟨1, 0, 1, 0, 0, 0, 0⟩) (b := (none, 0, 0)) (e := (none, 0, 0)) h (sl_none V) (sl_none V) rfl) (IntL.none_ints V) (by omega) (by decide) (by decide)
    rw [r1] at this
    exact this
  have C2 : Hid (∀ (V : World) (g : Nat), Whole V g 42 #[.int .i64 15, .int .i64 0, .int .i64 0, .int .i64 0, .int .i64 0, .int .i64 0, .int .i64 0, .slice none 0 0, .slice none 0 0] → Calls Tryd.prog 10 #[.slice (some ⟨g, 0, none⟩) 1 1, .slice none 0 0] V fun e w' => ∃ ev, e = .returned ev ∧ ErrU V.heap.size w' ev 0 0 ∧ Keeps (fun _ => False) V w') := Lib.hid fun V g h => by
    have := F9.right_ (kc := 0) (sl_lit (s := ⟨15, 0, 0, 0, 0, 0, 0⟩) (b := (none, 0, 0)) (e := (none, 0, 0)) h (sl_none V) (sl_none V) rfl) (IntL.none_ints V) (by omega) (by decide) (by decide)
    rw [r2] at this
    exact this
  have C3 : Hid (∀ (V : World) (g g' : Nat), Whole V g' 42 #[.int .i64 0, .int .i64 0, .int .i64 0, .int .i64 0, .int .i64 0, .int .i64 0, .int .i64 0, .slice none 0 0, .slice none 0 0] → Whole V g 42 #[.int .i64 13, .int .i64 0, .int .i64 0, .int .i64 0, .int .i64 0, .int .i64 0, .int .i64 0, .slice (some ⟨g', 0, none⟩) 1 1, .slice none 0 0] → Calls Tryd.prog 14 #[.slice (some ⟨g, 0, none⟩) 1 1] V fun e w' => e = .returned (.int .i64 2) ∧ Keeps (fun _ => False) V w') := Lib.hid fun V g g' h h' =>
    F9.size_ (sl_lit (s := ⟨13, 0, 0, 0, 0, 0, 0⟩) (b := (some ⟨g', 0, none⟩, 1, 1)) (e := (none, 0, 0)) h' (sl_lit (s := ⟨0, 0, 0, 0, 0, 0, 0⟩) (b := (none, 0, 0)) (e := (none, 0, 0)) h (sl_none V) (sl_none V) rfl) (sl_none V) rfl) (by decide) (by decide)
  have HG := Lib.hid hg
  clear hg r1 r2
  go_enter Tryd.func9, Tryd.ntmps9
  go_wp2_with fail
  refine (C1.out _ _ (Whole.made _ _ _)).mono ?_
  rintro e w1 ⟨ev, rfl, hE, hK⟩
  have E1 := Lib.hid hE
  have K1 := Lib.hid ((((Keeps.refl (fun _ => False) w).alloc _).trans hK fun _ _ => id))
  clear hE hK
  go_wp2_with fail
  refine (C2.out _ _ (Whole.made _ _ _)).mono ?_
  rintro e w2 ⟨ev2, rfl, hE, hK⟩
  obtain rfl := hE.nil
  have K2 := Lib.hid ((K1.out.alloc _).trans hK fun _ _ => id)
  have E2 := Lib.hid (E1.out.same (((Keeps.refl _ w1).alloc _).trans hK fun _ _ => id))
  clear hE hK
  go_wp2_with fail
  refine (no_nil _).mono ?_
  rintro e w' ⟨rfl, rfl⟩
  go_wp2_with fail
  refine (no_u E2.out).mono ?_
  rintro e w' ⟨rfl, rfl⟩
  go_wp2_with fail
  refine (place_u E2.out (HG.out.keeps K2.out id)).mono ?_
  rintro e w3 ⟨rfl, hK⟩
  have K3 := Lib.hid (K2.out.trans hK fun _ _ => id)
  clear hK
  go_wp2_with fail
  refine (C3.out _ _ w3.heap.size ((Whole.made w3 _ _).alloc _) (by first | exact Whole.made _ _ _ | (have := Whole.made (w3.alloc (.cells #[.int .i64 0, .int .i64 0, .int .i64 0, .int .i64 0, .int .i64 0, .int .i64 0, .int .i64 0, .slice none 0 0, .slice none 0 0] 42)) 42 #[.int .i64 13, .int .i64 0, .int .i64 0, .int .i64 0, .int .i64 0, .int .i64 0, .int .i64 0, .slice (some ⟨w3.heap.size, 0, none⟩) 1 1, .slice none 0 0]; rw [World.size_alloc] at this; exact this))).mono ?_
  rintro e w4 ⟨rfl, hK⟩
  have K4 := Lib.hid (((K3.out.alloc _).alloc _).trans hK fun _ _ => id)
  clear hK
  go_wp2_with fail
  go_ret
  exact ⟨rfl, K4.out⟩

set_option maxRecDepth 100000 in
set_option maxHeartbeats 1000000 in
theorem judges_any9 (F9 : Face9) {w : World} {v : Value} {F : Fo} {ko : Option Addr} {kn kc : Nat} {K : List Int} (h : SlOf w v F) (hK : IntL w ko kn K) (hg : Glob w) :
    Calls Tryd.prog 3 #[v, .slice ko kn kc] w fun e w' => e = .returned (.bool true) ∧ Keeps (fun _ => False) w w' := by
  have cf := Lib.hid (few_any h)
  by_cases hf : wt F 0 ≤ 250
  · rw [decide_eq_true hf] at cf
    by_cases hk : kn ≤ 20
    · have b1 : ¬ (20 : Int) < (kn : Int) := by omega
      obtain ⟨f1, f2⟩ := few_says hf
      have C1 := Lib.hid (fun V (k : Keeps (fun _ => False) w V) => F9.right_ (kc := kc) (h.same k) (hK.same k) hk (by omega) (by omega))
      have C2 := Lib.hid (fun V (k : Keeps (fun _ => False) w V) => rright_any (kc := kc) (h.same k) (hK.same k) (by omega) (by omega))
      have HG := Lib.hid hg
      generalize right F K = r at *
      obtain ⟨r1, r2⟩ := r
      simp only at C1 C2
      clear h hK hg hf f1 f2 hk
      go_enter Tryd.func3, Tryd.ntmps3
      go_wp2_with fail
      refine cf.out.mono ?_
      rintro e w1 ⟨rfl, hK⟩
      have K1 := Lib.hid hK
      clear hK
      go_wp2_with fail
      refine (C1.out _ K1.out).mono ?_
      rintro e w2 ⟨ev, rfl, hE, hK⟩
      have E2 := Lib.hid hE
      have K2 := Lib.hid (K1.out.trans hK fun _ _ => id)
      clear hE hK
      go_wp2_with fail
      refine (C2.out _ K2.out).mono ?_
      rintro e w3 ⟨rfl, hK⟩
      have E3 := Lib.hid (E2.out.same hK)
      have K3 := Lib.hid (K2.out.trans hK fun _ _ => id)
      clear hK
      have q1 : ((r1 : Int) == (r1 : Int)) = true := by simp
      have q2 : ((r2 : Int) == (r2 : Int)) = true := by simp
      go_wp2_with fail
      refine (no_u E3.out).mono ?_
      rintro e w' ⟨rfl, rfl⟩
      go_wp2_with fail
      refine (place_u E3.out (HG.out.keeps K3.out id)).mono ?_
      rintro e w4 ⟨rfl, hK⟩
      have K4 := Lib.hid (K3.out.trans hK fun _ _ => id)
      clear hK
      go_wp2_with fail
      refine (alive_any9 F9 (HG.out.keeps K4.out id)).mono ?_
      rintro e w5 ⟨rfl, hK⟩
      have K5 := Lib.hid (K4.out.trans hK fun _ _ => id)
      clear hK
      go_wp2_with fail
      go_ret
      exact ⟨rfl, K5.out⟩
    · have b1 : (20 : Int) < (kn : Int) := by omega
      have HG := Lib.hid hg
      clear h hK hg hf hk
      go_enter Tryd.func3, Tryd.ntmps3
      go_wp2_with fail
      refine cf.out.mono ?_
      rintro e w1 ⟨rfl, hK⟩
      have K1 := Lib.hid hK
      clear hK
      go_wp2_with fail
      refine (alive_any9 F9 (HG.out.keeps K1.out id)).mono ?_
      rintro e w5 ⟨rfl, hK⟩
      have K5 := Lib.hid (K1.out.trans hK fun _ _ => id)
      clear hK
      go_wp2_with fail
      go_ret
      exact ⟨rfl, K5.out⟩
  · rw [decide_eq_false hf] at cf
    have HG := Lib.hid hg
    clear h hK hg hf
    go_enter Tryd.func3, Tryd.ntmps3
    go_wp2_with fail
    refine cf.out.mono ?_
    rintro e w1 ⟨rfl, hK⟩
    have K1 := Lib.hid hK
    clear hK
    go_wp2_with fail
    refine (alive_any9 F9 (HG.out.keeps K1.out id)).mono ?_
    rintro e w5 ⟨rfl, hK⟩
    have K5 := Lib.hid (K1.out.trans hK fun _ _ => id)
    clear hK
    go_wp2_with fail
    go_ret
    exact ⟨rfl, K5.out⟩
end Go.Proofs.YtpmbkeaimdeglaaDoor
