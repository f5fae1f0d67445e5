/-
  slices.insertionSortOrdered at uint64 by contract: what it leaves in the row is the library's plain insertion sort.
-/
import Derived.Test.YtkolkimmhlmlgaaDoorStRow
namespace Go.Proofs.YtkolkimmhlmlgaaDoor
open Go.RowKit
open Go.Sort (swp insInner insOuter insertionSort)

theorem inn_go {a j : Nat} {d : Array Int} (h : a < j) (hl : ltI d[j]! d[j - 1]! = true) : insInner ltI a j d = insInner ltI a (j - 1) (swp d j (j - 1)) := by
  cases j with
  | zero => omega
  | succ k => rw [insInner]; simp only [Nat.add_sub_cancel] at hl ⊢; simp [h, hl]
theorem inn_stop {a j : Nat} {d : Array Int} (h : j ≤ a ∨ ltI d[j]! d[j - 1]! = false) : insInner ltI a j d = d := by
  cases j with
  | zero => rfl
  | succ k =>
    rw [insInner]
    simp only [Nat.add_sub_cancel] at h
    rcases h with h | h
    · simp [show ¬ k + 1 > a by omega]
    · simp [h]

set_option maxRecDepth 100000 in
theorem ins_u {w : World} {g o n cap : Nat} {d : Array Int} (h : URow w g o n cap d) (a b : Nat) (hab : a ≤ b) (hb : b ≤ n) (hn : n < 4611686018427387904) :
    Calls Tryd.prog 55 #[.slice (some ⟨g, o, none⟩) n cap, .int .i64 a, .int .i64 b] w fun e w' => e = .returned (.tuple #[]) ∧ Srt w w' g o n cap (insertionSort ltI d a b) := by
  have hs := Lib.hid (Srt.refl h)
  clear h
  go_enter Tryd.func55, Tryd.ntmps55
  go_wp2_with fail
  go_loopw [6] (fun iv wr => ∃ (i : Nat) (dk : Array Int), iv = .int .i64 i ∧ a < i ∧ i ≤ b + 1 ∧ Srt w wr g o n cap dk ∧ insOuter ltI a b i dk = insertionSort ltI d a b) (fun iv _ => b + 1 - (intOf iv).toNat)
  case atStart => exact ⟨a + 1, d, by go_num, by omega, by omega, hs.out, rfl⟩
  case round =>
    clear hs
    obtain ⟨i, dk, rfl, hai, hib, hS, hO⟩ := hrel
    have S1 := Lib.hid hS
    have O1 := Lib.hid hO
    clear hS hO
    by_cases hlt : i < b
    · obtain ⟨wo, rfl⟩ : ∃ wo : World, wo = wr := ⟨_, rfl⟩
      go_wp2_with fail
      go_loopw [7] (fun jv wr => ∃ (j : Nat) (dj : Array Int), jv = .int .i64 j ∧ a ≤ j ∧ j ≤ i ∧ Srt w wr g o n cap dj ∧ insInner ltI a j dj = insInner ltI a i dk) (fun jv _ => (intOf jv).toNat)
      case atStart => exact ⟨i, dk, rfl, by omega, by omega, S1.out, rfl⟩
      case round =>
        clear S1
        obtain ⟨j, dj, rfl, haj, hji, hS, hI⟩ := hrel
        obtain ⟨G, hG, c, f⟩ := hS.fam
        have S2 := Lib.hid hS
        have I2 := Lib.hid hI
        have G2 := Lib.hid hG
        have O2 : Hid ((j ≤ a ∨ ltI (G j) (G (j - 1)) = false) → insOuter ltI a b (i + 1) dj = insertionSort ltI d a b) := Lib.hid fun hx => by
          rw [← O1.out, insOuter.eq_def ltI a b i dk, if_pos hlt, ← I2.out, inn_stop (by rw [← hG, ← hG]; exact hx)]
        clear hS hI hG
        by_cases hja : a < j
        · have b1 : (j : Int) < (n : Int) := by omega
          have b2 : (j : Int) - 1 < (n : Int) := by omega
          have b3 : (0 : Int) ≤ (j : Int) - 1 := by omega
          have b4 : (1 : Int) ≤ (j : Int) := by omega
          go_wp2_with fail
          go_big_quiet ((go_at_call 61; exact Calls.quiet_of_same (less_u _ _ _)))
          go_wp2
          · have hl : ltI (G j) (G (j - 1)) = true := by assumption
            go_region
            all_goals go_wp2
            go_roundw
            case rel =>
              refine ⟨j - 1, swp dj j (j - 1), by congr 1; omega, by omega, by omega, ?_, by rw [← I2.out, inn_go hja (by rw [← G2.out, ← G2.out]; exact hl)]⟩
              rw [G2.out, G2.out]
              exact (S2.out.drewN _).swap j (j - 1) (by omega) (by omega)
            case measure => simp [intOf]; omega
          · have hl : ltI (G j) (G (j - 1)) = false := by assumption
            go_roundw
            case rel => exact ⟨i + 1, dj, by go_num, by omega, by omega, S2.out.drewN _, O2.out (.inr hl)⟩
            case measure => simp [intOf]; omega
        · go_wp2_with fail
          go_big_quiet (fail)
          go_wp2
          go_roundw
          case rel => exact ⟨i + 1, dj, by go_num, by omega, by omega, S2.out.drewN _, O2.out (.inl (by omega))⟩
          case measure => simp [intOf]; omega
    · have e0 := O1.out
      rw [insOuter, if_neg hlt] at e0
      have e1 := Lib.hid e0
      clear e0
      go_wp2_with fail
      go_end0
      exact ⟨rfl, e1.out ▸ S1.out⟩
end Go.Proofs.YtkolkimmhlmlgaaDoor
