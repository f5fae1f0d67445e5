/-
  How many statements a text has; concordlaw10.TextAgain by contract.
-/
import Derived.Test.YtcdlchcmidfhiaaGreatDoorTxFace
import Derived.Test.YtcdlchcmidfhiaaGreatDoorPgSame
namespace Go.Proofs.YtcdlchcmidfhiaaGreatDoor
open Go.RowKit Go.Extern.Stop Go.Stop Go.Extern

/-! ### plainly -/
theorem deep_size : ∀ F : Fo, F.deep ≤ F.size
  | .nil => Nat.le_refl _
  | .cons s B E R => by
    have h1 := deep_size B
    have h2 := deep_size E
    have h3 := deep_size R
    simp only [Fo.deep, Fo.size]
    omega
def opW : List Opn → Nat
  | [] => 0
  | o :: t => 1 + o.B.size + o.E.size + opW t
def psW (st : PS) : Nat := st.p.size + opW st.op
theorem put_w (x : Fo) (st : PS) : psW (putT x st) = psW st + x.size := by
  obtain ⟨op, p⟩ := st
  cases op with
  | nil => simp [putT, psW, opW, Fo.size_app]
  | cons o t =>
    obtain ⟨s, B, E, el⟩ := o
    cases el <;> simp [putT, psW, opW, Fo.size_app] <;> omega
theorem one_w (s : St7) (B E : Fo) : (one1 s B E).size = 1 + B.size + E.size := by simp [one1, Fo.size]
theorem step_w {st st' : PS} {ws : List Str} (h : stepT st ws = some st') : psW st' ≤ psW st + 1 := by
  cases ws with
  | nil => simp only [stepT] at h; injection h with h; subst h; omega
  | cons w t =>
    obtain ⟨op, p⟩ := st
    simp only [stepT] at h
    split at h
    · cases op with
      | nil => cases h
      | cons o op =>
        simp only at h
        injection h with h
        subst h
        rw [put_w, one_w]
        simp [psW, opW]
        omega
    · split at h
      · cases op with
        | nil => cases h
        | cons o op =>
          simp only at h
          split at h
          · cases h
          · injection h with h
            subst h
            simp [psW, opW]
      · split at h
        · cases h
        · rename_i s _
          split at h
          · injection h with h
            subst h
            simp [psW, opW, Fo.size]
            omega
          · injection h with h
            subst h
            rw [put_w, one_w]
            simp [Fo.size]
theorem run_w : ∀ (L : List (List Str)) (i : Nat) (st st' : PS), runT L i st = .inl st' → psW st' ≤ psW st + L.length
  | [], i, st, st', h => by simp only [runT] at h; injection h with h; subst h; simp
  | l :: t, i, st, st', h => by
    simp only [runT] at h
    cases hs : stepT st l with
    | none => rw [hs] at h; cases h
    | some s2 =>
      rw [hs] at h
      have h1 := step_w hs
      have h2 := run_w t (i + 1) s2 st' h
      rw [List.length_cons]
      omega
theorem split_len {b : UInt8} : ∀ (s cur : Str), (splitAll b cur s).length ≤ s.length + 1
  | [], cur => by simp [splitAll]
  | x :: s, cur => by
    simp only [splitAll]
    split
    · have := split_len (b := b) s []; simp; omega
    · have := split_len (b := b) s (cur ++ [x]); simp; omega
theorem lines_len (S : Str) : (linesT S).length ≤ S.length + 1 := by
  have := split_len (b := 10) S []
  unfold linesT dropLast0
  split
  · rw [List.length_dropLast]; omega
  · exact this
theorem parse_size {S : Str} {F : Fo} (h : parseT S = .inl F) : F.size ≤ S.length + 1 ∧ F.deep ≤ S.length + 1 := by
  have key : F.size ≤ S.length + 1 := by
    unfold parseT at h
    split at h
    · cases h
    · cases hr : runT ((linesT S).map wordsT) 0 ⟨[], .nil⟩ with
      | inr n => rw [hr] at h; cases h
      | inl st =>
        rw [hr] at h
        simp only at h
        split at h
        · rename_i ho
          injection h with h
          have h1 := run_w _ 0 _ st hr
          have h2 := lines_len S
          rw [List.length_map] at h1
          have h3 : psW ⟨[], .nil⟩ = 0 := rfl
          rw [h3] at h1
          unfold psW at h1
          rw [h] at h1
          omega
        · cases h
  exact ⟨key, Nat.le_trans (deep_size F) key⟩
theorem parse_err {S : Str} {k a : Nat} (h : parseT S = .inr (k, a)) : k = 8 ∨ k = 9 := by
  unfold parseT at h
  split at h
  · injection h with h; injection h with h; exact .inl h.symm
  · split at h
    · injection h with h; injection h with h; exact .inr h.symm
    · split at h
      · cases h
      · injection h with h; injection h with h; exact .inr h.symm

set_option maxRecDepth 100000 in
set_option maxHeartbeats 2000000 in
theorem again_any10 (F10 : Face10) {w : World} (S : Str) (hg : GlobT w) :
    Calls Tryz.prog 4 #[.string (mkB S)] w fun e w' => e = .returned (.bool true) ∧ Keeps (fun _ => False) w w' := by
  have hz := mkB_size S
  have AL := Lib.hid (fun V (h : GlobT V) => alive_any10 F10 (w := V) h)
  have HG := Lib.hid hg
  have qe : (mkB []).toList = [] := mkB_list []
  by_cases hs : 6000 < S.length
  · have b1 : (6000 : Int) < ((mkB S).size : Int) := by omega
    clear hg hz hs
    go_enter Tryz.func4, Tryz.ntmps4
    go_wp2_with fail
    refine (AL.out _ HG.out).mono ?_
    rintro e w5 ⟨rfl, hK⟩
    have K5 := Lib.hid hK
    clear hK
    go_wp2_with fail
    go_ret
    exact ⟨rfl, K5.out⟩
  · have b1 : ¬ (6000 : Int) < ((mkB S).size : Int) := by omega
    have CP := Lib.hid (F10.parse_ (w := w) S HG.out (by omega))
    have hs6 : Hid (S.length ≤ 6000) := Lib.hid (by omega)
    clear hg hz hs
    go_enter Tryz.func4, Tryz.ntmps4
    go_wp2_with fail
    refine CP.out.mono ?_
    rintro e w1 ⟨hK, h⟩
    have K1 := Lib.hid hK
    clear hK CP
    rcases h with ⟨F, v, hp, rfl, hv⟩ | ⟨k, a, ev, hp, rfl, hE⟩
    · obtain ⟨z1, z2⟩ := parse_size hp
      have PR := Lib.hid (fun V (q : Keeps (fun _ => False) w1 V) => F10.print_ (w := V) (HG.out.keeps (K1.out.trans q fun _ _ => id) id) (hv.same q) (by have := hs6.out; omega) (by have := hs6.out; omega))
      have V1 := Lib.hid hv
      have Z1 : Hid (F.size ≤ 6001 ∧ F.deep ≤ 6001) := Lib.hid (by have := hs6.out; omega)
      clear hv hp z1 z2
      go_wp2_with fail
      refine (no_nil _).mono ?_
      rintro e w' ⟨rfl, rfl⟩
      go_wp2_with fail
      refine (PR.out _ (Keeps.refl _ _)).mono ?_
      rintro e w2 ⟨hK, h⟩
      have J2 := Lib.hid hK
      have K2 := Lib.hid (K1.out.trans hK fun _ _ => id)
      clear hK PR
      rcases h with ⟨hr, hl, rfl⟩ | ⟨hr, hl, ev, rfl, hE⟩ | ⟨hr, ev, rfl, hE⟩
      · have PT := Lib.hid (parse_text (ok_of_right hr) hl)
        have CP := Lib.hid (F10.parse_ (w := w2) (textT F) (HG.out.keeps K2.out id) hl)
        have TE := Lib.hid (show ((mkB (textT F)).toList == (mkB (textT F)).toList) = true by simp)
        have HR := Lib.hid hr
        have HL := Lib.hid hl
        generalize hT : textT F = T at *
        have HT := Lib.hid hT
        clear hr hl hT
        go_wp2_with fail
        refine (no_nil _).mono ?_
        rintro e w' ⟨rfl, rfl⟩
        go_wp2_with fail
        refine CP.out.mono ?_
        rintro e w3 ⟨hK, h⟩
        have J3 := Lib.hid (J2.out.trans hK fun _ _ => id)
        have K3 := Lib.hid (K2.out.trans hK fun _ _ => id)
        clear hK CP
        rcases h with ⟨G, u, hp, rfl, hu⟩ | ⟨k, a, ev, hp, rfl, hE⟩
        · rw [PT.out] at hp
          injection hp with hp
          subst hp
          have PR := Lib.hid (F10.print_ (w := w3) (HG.out.keeps K3.out id) hu (by have := Z1.out; omega) (by have := Z1.out; omega))
          have U3 := Lib.hid hu
          clear hu
          go_wp2_with fail
          refine PR.out.mono ?_
          rintro e w4 ⟨hK, h⟩
          have J4 := Lib.hid (J3.out.trans hK fun _ _ => id)
          have K4 := Lib.hid (K3.out.trans hK fun _ _ => id)
          have CS := Lib.hid (same_yes9 _ F (Nat.le_refl _) w4 v u (V1.out.same J4.out) (U3.out.same hK) (by have := Z1.out; omega))
          clear hK PR
          rcases h with ⟨_, _, rfl⟩ | ⟨_, hl, _⟩ | ⟨hr, _⟩
          · rw [HT.out]
            have te := TE.out
            go_wp2_with fail
            refine (no_nil _).mono ?_
            rintro e w' ⟨rfl, rfl⟩
            go_wp2_with fail
            refine (no_nil _).mono ?_
            rintro e w' ⟨rfl, rfl⟩
            go_wp2_with fail
            refine CS.out.mono ?_
            rintro e w5 ⟨rfl, hK⟩
            have K5 := Lib.hid (K4.out.trans hK fun _ _ => id)
            clear hK
            go_wp2_with fail
            refine (AL.out _ (HG.out.keeps K5.out id)).mono ?_
            rintro e w6 ⟨rfl, hK⟩
            have K6 := Lib.hid (K5.out.trans hK fun _ _ => id)
            clear hK
            go_wp2_with fail
            go_ret
            exact ⟨rfl, K6.out⟩
          · rw [HT.out] at hl
            exact absurd HL.out (Nat.not_le.2 hl)
          · exact absurd HR.out hr
        · rw [PT.out] at hp
          cases hp
      · have E2 := Lib.hid hE
        clear hr hl hE
        go_wp2_with fail
        refine (no_u E2.out).mono ?_
        rintro e w' ⟨rfl, rfl⟩
        go_wp2_with fail
        refine (AL.out _ (HG.out.keeps K2.out id)).mono ?_
        rintro e w6 ⟨rfl, hK⟩
        have K6 := Lib.hid (K2.out.trans hK fun _ _ => id)
        clear hK
        go_wp2_with fail
        go_ret
        exact ⟨rfl, K6.out⟩
      · have E2 := Lib.hid hE
        have b2 : (((right F K8).1 : Int) != 0) = true := by simp; exact hr
        generalize (right F K8).1 = rk at *
        clear hr hE
        go_wp2_with fail
        refine (no_u E2.out).mono ?_
        rintro e w' ⟨rfl, rfl⟩
        go_wp2_with fail
        refine (AL.out _ (HG.out.keeps K2.out id)).mono ?_
        rintro e w6 ⟨rfl, hK⟩
        have K6 := Lib.hid (K2.out.trans hK fun _ _ => id)
        clear hK
        go_wp2_with fail
        go_ret
        exact ⟨rfl, K6.out⟩
    · have E1 := Lib.hid hE
      have b2 : ((k : Int) != 0) = true := by have := parse_err hp; simp; omega
      clear hp hE
      go_wp2_with fail
      refine (no_u E1.out).mono ?_
      rintro e w' ⟨rfl, rfl⟩
      go_wp2_with fail
      refine (AL.out _ (HG.out.keeps K1.out id)).mono ?_
      rintro e w6 ⟨rfl, hK⟩
      have K6 := Lib.hid (K1.out.trans hK fun _ _ => id)
      clear hK
      go_wp2_with fail
      go_ret
      exact ⟨rfl, K6.out⟩
end Go.Proofs.YtcdlchcmidfhiaaGreatDoor
