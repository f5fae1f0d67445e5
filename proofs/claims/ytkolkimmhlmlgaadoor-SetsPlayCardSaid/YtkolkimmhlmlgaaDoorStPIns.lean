/-
  slices.partialInsertionSortOrdered at uint64 by contract: what it answers, and leaves in the row, is what the library's plain function says.
-/
import Derived.Test.YtkolkimmhlmlgaaDoorStBreak
import Derived.Sort.WalkA6
import Derived.Deep.CutRange
import Derived.Deep.CutBlock
namespace Go.Proofs.YtkolkimmhlmlgaaDoor
open Go.RowKit
open Go.Sort (swp scanSorted shiftDown shiftUp fixDown fixUp partialIns partialInsertionSort)

set_option maxRecDepth 100000 in
set_option maxHeartbeats 1000000 in
theorem pins_u {w : World} {g o n cap : Nat} {d : Array Int} (h : URow w g o n cap d) (a b : Nat) (hab : a < b) (hb : b ≤ n) (hn : n < 4611686018427387904) :
    Calls Tryd.prog 60 #[.slice (some ⟨g, o, none⟩) n cap, .int .i64 a, .int .i64 b] w fun e w' => ∃ c : Bool, e = .returned (.bool c) ∧ c = (partialInsertionSort ltI d a b).2 ∧ Srt w w' g o n cap (partialInsertionSort ltI d a b).1 := by
  have SX := Lib.hid (Srt.refl h)
  clear h
  have wl : IntKind.i64.wrap ((b : Int) - (a : Int)) = (b : Int) - (a : Int) := IntWalk.i64_in _ (by omega)
  go_enter Tryd.func60, Tryd.ntmps60
  go_wp2_with fail
  go_loopw [7, 8] (fun iv sv wx => ∃ (i s : Nat) (dk : Array Int), iv = .int .i64 i ∧ sv = .int .i64 s ∧ a < i ∧ i ≤ b ∧ s ≤ 5 ∧ Srt w wx g o n cap dk ∧ partialIns ltI a b (5 - s) i dk = partialInsertionSort ltI d a b) (fun _ sv _ => 5 - (intOf sv).toNat)
  case atStart => exact ⟨a + 1, 0, d, by go_num, rfl, by omega, by omega, by omega, SX.out, rfl⟩
  case round =>
    clear SX
    obtain ⟨i, s, dk, rfl, rfl, hai, hib, hs5, hS, hO⟩ := hrel
    have SX := Lib.hid hS
    have O1 := Lib.hid hO
    clear hS hO
    by_cases hs : s < 5
    · have bs : (s : Int) < 5 := by omega
      go_upto_block 2 with fail
      go_cut [7] from 13 to 132 (fun iv wx => ∃ k : Nat, iv = .int .i64 k ∧ k = scanSorted ltI dk b i ∧ i ≤ k ∧ k ≤ b ∧ Srt w wx g o n cap dk)
      case first =>
        go_wp2_with fail
        go_loopw [7] (fun iv wx => ∃ k : Nat, iv = .int .i64 k ∧ i ≤ k ∧ k ≤ b ∧ Srt w wx g o n cap dk ∧ scanSorted ltI dk b k = scanSorted ltI dk b i) (fun iv _ => b - (intOf iv).toNat)
        case atStart => exact ⟨i, rfl, by omega, by omega, SX.out, rfl⟩
        case round =>
          clear SX
          obtain ⟨k, rfl, hk1, hk2, hS, hE⟩ := hrel
          obtain ⟨G, hG, c, f⟩ := hS.fam
          have S1 := Lib.hid hS
          have E1 := Lib.hid hE
          have G1 := Lib.hid hG
          clear hS hE hG
          by_cases hk : k < b
          · have wj : IntKind.i64.wrap ((k : Int) - 1) = (k : Int) - 1 := IntWalk.i64_in _ (by omega)
            have b2 : (k : Int) - 1 < (n : Int) := by omega
            have b3 : (k : Int) < (n : Int) := by omega
            have b4 : (0 : Int) ≤ (k : Int) - 1 := by omega
            go_wp2_with fail
            go_big_quiet ((go_at_call 61; exact Calls.quiet_of_same (less_u _ _ _)))
            go_wp2
            · have hl : ltI (G k) (G (k - 1)) = false := by
                have : (!ltI (G k) (G (k - 1))) = true := by assumption
                simpa using this
              have e := Lib.hid (E1.out.symm.trans (scanSorted_go ltI dk b k hk (by rw [← G1.out, ← G1.out]; exact hl)))
              go_roundw
              case rel => exact ⟨k + 1, by go_num, by omega, by omega, S1.out.drewN _, e.out.symm⟩
              case measure => simp [intOf]; omega
            · have hl : ltI (G k) (G (k - 1)) = true := by
                have : (!ltI (G k) (G (k - 1))) = false := by assumption
                simpa using this
              have e := Lib.hid (E1.out.symm.trans (scanSorted_stop ltI dk b k (.inr (by rw [← G1.out, ← G1.out]; exact hl))))
              go_meet
              case rel => exact ⟨k, rfl, e.out.symm, by omega, by omega, S1.out.drewN _⟩
          · have hd : decide ((k : Int) < (b : Int)) = false := by simp; omega
            have e := Lib.hid (E1.out.symm.trans (scanSorted_stop ltI dk b k (.inl hk)))
            go_wp2_with fail
            go_big_quiet (fail)
            go_wp2
            go_meet
            case rel => exact ⟨k, rfl, e.out.symm, by omega, by omega, S1.out.drewN _⟩
      case rest =>
        obtain ⟨k, rfl, hk, hk1, hk2, hS⟩ := hcut
        have SX := Lib.hid hS
        have K1 := Lib.hid hk
        clear hS hk
        by_cases hkb : k = b
        · have e := Lib.hid (O1.out.symm.trans (pi_true ltI a b s i dk hs (K1.out.symm.trans hkb)))
          have t1 : ((k : Int) == (b : Int)) = true := by simp; omega
          go_wp2_with fail
          go_ret
          exact ⟨true, rfl, by rw [e.out], by rw [e.out]; exact SX.out⟩
        · have t1 : ((k : Int) == (b : Int)) = false := by simp; omega
          by_cases h50 : b - a < 50
          · have t2 : (b : Int) - (a : Int) < 50 := by omega
            have e := Lib.hid (O1.out.symm.trans (pi_short ltI a b s i dk hs (by rw [← K1.out]; exact hkb) h50))
            go_wp2_with fail
            go_ret
            exact ⟨false, rfl, by rw [e.out], by rw [e.out]; exact SX.out⟩
          · have t2 : ¬ (b : Int) - (a : Int) < 50 := by omega
            have O2 := Lib.hid (O1.out.symm.trans (pi_go ltI a b s i k dk hs K1.out.symm hkb h50))
            have wk : IntKind.i64.wrap ((k : Int) - 1) = (k : Int) - 1 := IntWalk.i64_in _ (by omega)
            have wka : IntKind.i64.wrap ((k : Int) - (a : Int)) = (k : Int) - (a : Int) := IntWalk.i64_in _ (by omega)
            have wbk : IntKind.i64.wrap ((b : Int) - (k : Int)) = (b : Int) - (k : Int) := IntWalk.i64_in _ (by omega)
            have b3 : (k : Int) < (n : Int) := by omega
            obtain ⟨dk1, hdk1⟩ : ∃ x, x = swp dk k (k - 1) := ⟨_, rfl⟩
            go_wp2_with fail
            go_cut [] from 13 to 132 (fun wx => Srt w wx g o n cap dk1)
            case first =>
              obtain ⟨G, hG, c, f⟩ := SX.out.fam
              have hw := (SX.out.drewN 1).swap k (k - 1) (by omega) (by omega)
              rw [← hG, ← hG, ← hdk1] at hw
              have hw' := Lib.hid hw
              have b2 : (k : Int) - 1 < (n : Int) := by omega
              have b4 : (0 : Int) ≤ (k : Int) - 1 := by omega
              clear hw hG SX
              go_region
              go_wp2
              go_meet
              case rel => exact hw'.out
            case rest =>
              have SX := Lib.hid hcut
              clear hcut
              go_upto_if 61 with fail
              go_cut [] from 13 to 132 (fun wx => Srt w wx g o n cap (fixDown ltI a k dk1))
              case first =>
                by_cases h2 : 2 ≤ k - a
                · have t3 : (2 : Int) ≤ (k : Int) - (a : Int) := by omega
                  have FIN : ∀ {dj : Array Int} {wx : World}, dj = shiftDown ltI (k - 1) dk1 → Srt w wx g o n cap dj → Srt w wx g o n cap (fixDown ltI a k dk1) := fun e hs => by
                    unfold fixDown
                    rw [if_pos (by omega), ← e]
                    exact hs
                  go_wp2_with fail
                  go_loopw [9] (fun jv wx => ∃ (j : Nat) (dj : Array Int), jv = .int .i64 j ∧ j ≤ k - 1 ∧ 0 ≤ j ∧ Srt w wx g o n cap dj ∧ shiftDown ltI j dj = shiftDown ltI (k - 1) dk1) (fun jv _ => (intOf jv).toNat)
                  case atStart => exact ⟨k - 1, dk1, by first | go_num | (congr 1; omega), by omega, by omega, SX.out, rfl⟩
                  case round =>
                    clear SX
                    obtain ⟨j, dj, rfl, hj1, hj2, hS, hE⟩ := hrel
                    obtain ⟨G, hG, c, f⟩ := hS.fam
                    have S1 := Lib.hid hS
                    have E1 := Lib.hid hE
                    have G1 := Lib.hid hG
                    clear hS hE hG
                    by_cases hjc : 1 ≤ j
                    · have b1 : (1 : Int) ≤ (j : Int) := by omega
                      have wj : IntKind.i64.wrap ((j : Int) - 1) = (j : Int) - 1 := IntWalk.i64_in _ (by omega)
                      have b2 : (j : Int) - 1 < (n : Int) := by omega
                      have b3 : (j : Int) < (n : Int) := by omega
                      have b4 : (0 : Int) ≤ (j : Int) - 1 := by omega
                      go_wp2_with fail
                      go_big_quiet ((go_at_call 61; exact Calls.quiet_of_same (less_u _ _ _)))
                      go_wp2
                      · have hl : ltI (G j) (G (j - 1)) = false := by
                          have : (!ltI (G j) (G (j - 1))) = true := by assumption
                          simpa using this
                        have e := Lib.hid (shiftDown_stop ltI j dj (.inr (by rw [← G1.out, ← G1.out]; exact hl)))
                        go_meet
                        case rel => exact FIN (e.out.symm.trans E1.out) (S1.out.drewN _)
                      · have hl : ltI (G j) (G (j - 1)) = true := by
                          have : (!ltI (G j) (G (j - 1))) = false := by assumption
                          simpa using this
                        have e := Lib.hid (E1.out.symm.trans (shiftDown_go ltI j dj hjc (by rw [← G1.out, ← G1.out]; exact hl)))
                        go_region
                        all_goals go_wp2
                        go_roundw
                        case rel =>
                          refine ⟨j - 1, swp dj j (j - 1), by congr 1; omega, by omega, by omega, ?_, e.out.symm⟩
                          rw [G1.out, G1.out]
                          exact (S1.out.drewN _).swap j (j - 1) (by omega) (by omega)
                        case measure => simp [intOf]; omega
                    · have b1 : ¬ (1 : Int) ≤ (j : Int) := by omega
                      have e := Lib.hid (shiftDown_stop ltI j dj (.inl (by omega)))
                      go_wp2_with fail
                      go_meet
                      case rel => exact FIN (e.out.symm.trans E1.out) S1.out
                · have t3 : ¬ (2 : Int) ≤ (k : Int) - (a : Int) := by omega
                  go_wp2_with fail
                  go_meet
                  case rel =>
                    unfold fixDown
                    rw [if_neg (by omega)]
                    exact SX.out
              case rest =>
                have SX := Lib.hid hcut
                clear hcut
                obtain ⟨dk2, hdk2⟩ : ∃ x, x = fixDown ltI a k dk1 := ⟨_, rfl⟩
                rw [← hdk2] at SX
                have O3 := Lib.hid (show partialIns ltI a b (5 - (s + 1)) k (fixUp ltI b k dk2) = partialInsertionSort ltI d a b by rw [hdk2, hdk1]; exact O2.out.symm)
                clear O2 hdk2 hdk1
                by_cases h2 : 2 ≤ b - k
                · have t3 : (2 : Int) ≤ (b : Int) - (k : Int) := by omega
                  have FIN : ∀ {dj : Array Int} {wx : World}, dj = shiftUp ltI b (k + 1) dk2 → Srt w wx g o n cap dj → Srt w wx g o n cap (fixUp ltI b k dk2) := fun e hs => by
                    unfold fixUp
                    rw [if_pos (by omega), ← e]
                    exact hs
                  go_wp2_with fail
                  go_loopw [10] (fun jv wx => ∃ (j : Nat) (dj : Array Int), jv = .int .i64 j ∧ k + 1 ≤ j ∧ j ≤ b ∧ Srt w wx g o n cap dj ∧ shiftUp ltI b j dj = shiftUp ltI b (k + 1) dk2) (fun jv _ => b - (intOf jv).toNat)
                  case atStart => exact ⟨k + 1, dk2, by first | go_num | (congr 1; omega), by omega, by omega, SX.out, rfl⟩
                  case round =>
                    clear SX
                    obtain ⟨j, dj, rfl, hj1, hj2, hS, hE⟩ := hrel
                    obtain ⟨G, hG, c, f⟩ := hS.fam
                    have S1 := Lib.hid hS
                    have E1 := Lib.hid hE
                    have G1 := Lib.hid hG
                    clear hS hE hG
                    by_cases hjc : j < b
                    · have b1 : (j : Int) < (b : Int) := by omega
                      have wj : IntKind.i64.wrap ((j : Int) - 1) = (j : Int) - 1 := IntWalk.i64_in _ (by omega)
                      have b2 : (j : Int) - 1 < (n : Int) := by omega
                      have b3 : (j : Int) < (n : Int) := by omega
                      have b4 : (0 : Int) ≤ (j : Int) - 1 := by omega
                      go_wp2_with fail
                      go_big_quiet ((go_at_call 61; exact Calls.quiet_of_same (less_u _ _ _)))
                      go_wp2
                      · have hl : ltI (G j) (G (j - 1)) = false := by
                          have : (!ltI (G j) (G (j - 1))) = true := by assumption
                          simpa using this
                        have e := Lib.hid (shiftUp_stop ltI b j dj (.inr (by rw [← G1.out, ← G1.out]; exact hl)))
                        go_wp2_with fail
                        go_roundw
                        case rel => exact ⟨k, s + 1, _, rfl, by go_num, by omega, by omega, by omega, FIN (e.out.symm.trans E1.out) (S1.out.drewN _), O3.out⟩
                        case measure => simp [intOf]; omega
                      · have hl : ltI (G j) (G (j - 1)) = true := by
                          have : (!ltI (G j) (G (j - 1))) = false := by assumption
                          simpa using this
                        have e := Lib.hid (E1.out.symm.trans (shiftUp_go ltI b j dj hjc (by rw [← G1.out, ← G1.out]; exact hl)))
                        go_region
                        all_goals go_wp2
                        go_roundw
                        case rel =>
                          refine ⟨j + 1, swp dj j (j - 1), by go_num, by omega, by omega, ?_, e.out.symm⟩
                          rw [G1.out, G1.out]
                          exact (S1.out.drewN _).swap j (j - 1) (by omega) (by omega)
                        case measure => simp [intOf]; omega
                    · have b1 : ¬ (j : Int) < (b : Int) := by omega
                      have e := Lib.hid (shiftUp_stop ltI b j dj (.inl (by omega)))
                      go_wp2_with fail
                      go_wp2_with fail
                      go_roundw
                      case rel => exact ⟨k, s + 1, _, rfl, by go_num, by omega, by omega, by omega, FIN (e.out.symm.trans E1.out) S1.out, O3.out⟩
                      case measure => simp [intOf]; omega
                · have t3 : ¬ (2 : Int) ≤ (b : Int) - (k : Int) := by omega
                  have SY := Lib.hid (show Srt w wc g o n cap (fixUp ltI b k dk2) by
                    unfold fixUp
                    rw [if_neg (by omega)]
                    exact SX.out)
                  go_wp2_with fail
                  go_roundw
                  case rel => exact ⟨k, s + 1, _, rfl, by go_num, by omega, by omega, by omega, SY.out, O3.out⟩
                  case measure => simp [intOf]; omega
    · obtain rfl : s = 5 := by omega
      have e := Lib.hid (O1.out.symm.trans (pi_end ltI a b i dk))
      go_wp2_with fail
      go_ret
      exact ⟨false, rfl, by rw [e.out], by rw [e.out]; exact SX.out⟩
end Go.Proofs.YtkolkimmhlmlgaaDoor
