/-
  slices.siftDownOrdered, slices.heapSortOrdered and slices.reverseRangeOrdered at uint64 by contract: what they leave in the row is what the library's plain functions say.
-/
import Derived.Test.YtkolkimmhlmlgaaDoorStIns
import Derived.Sort.WalkB3
namespace Go.Proofs.YtkolkimmhlmlgaaDoor
open Go.RowKit
open Go.Sort (swp siftDown heapBuild heapPop heapSort sd_end sd_right_stop sd_right_go sd_left_stop sd_left_go)

set_option maxRecDepth 100000 in
theorem sift_u {w : World} {g o n cap : Nat} {d : Array Int} (h : URow w g o n cap d) (lo hi F : Nat) (hlo : lo ≤ hi) (hb : F + hi ≤ n) (hn : n < 4611686018427387904) :
    Calls Tryd.prog 66 #[.slice (some ⟨g, o, none⟩) n cap, .int .i64 lo, .int .i64 hi, .int .i64 F] w fun e w' => e = .returned (.tuple #[]) ∧ Srt w w' g o n cap (siftDown ltI hi F lo d) := by
  have hs := Lib.hid (Srt.refl h)
  clear h
  go_enter Tryd.func66, Tryd.ntmps66
  go_wp2_with fail
  go_loopw [8] (fun rv wr => ∃ (r : Nat) (dk : Array Int), rv = .int .i64 r ∧ r ≤ hi ∧ Srt w wr g o n cap dk ∧ siftDown ltI hi F r dk = siftDown ltI hi F lo d) (fun rv _ => hi - (intOf rv).toNat)
  case atStart => exact ⟨lo, d, rfl, hlo, hs.out, rfl⟩
  case round =>
    clear hs
    obtain ⟨r, dk, rfl, hr, hS, hO⟩ := hrel
    obtain ⟨G, hG, c, f⟩ := hS.fam
    have S1 := Lib.hid hS
    have O1 := Lib.hid hO
    have G1 := Lib.hid hG
    clear hS hO hG
    have w1 : IntKind.i64.wrap ((F : Int) + (r : Int)) = (F : Int) + (r : Int) := IntWalk.i64_in _ (by omega)
    have w1 : IntKind.i64.wrap ((F : Int) + (r : Int)) = (F : Int) + (r : Int) := IntWalk.i64_in _ (by omega)
    have w1 : IntKind.i64.wrap ((F : Int) + (r : Int)) = (F : Int) + (r : Int) := IntWalk.i64_in _ (by omega)
    have w1 : IntKind.i64.wrap ((F : Int) + (r : Int)) = (F : Int) + (r : Int) := IntWalk.i64_in _ (by omega)
    by_cases c1 : 2 * r + 1 < hi
    · have w2 : IntKind.i64.wrap (2 * (r : Int) + 1 + 1) = 2 * (r : Int) + 1 + 1 := IntWalk.i64_in _ (by omega)
      by_cases c2 : 2 * r + 2 < hi
      · have b0 : ¬ (hi : Int) ≤ 2 * (r : Int) + 1 := by omega
        have b1 : 2 * (r : Int) + 1 + 1 < (hi : Int) := by omega
        go_wp2_with fail
        go_big_quiet ((go_at_call 61; exact Calls.quiet_of_same (less_u _ _ _)))
        go_wp2
        · have hl : ltI (G (F + 2 * r + 1)) (G (F + 2 * r + 2)) = true := by assumption
          have h2 : ltI dk[F + (2 * r + 1)]! dk[F + (2 * r + 2)]! = true := by rw [← G1.out, ← G1.out]; exact hl
          have h2' := Lib.hid h2
          clear h2
          obtain ⟨w2, hw2⟩ : ∃ w2, w2 = wr.drewN nq := ⟨_, rfl⟩
          have c2' : ∀ t, t < n → w2.cell? ⟨g, o + t, none⟩ = some (encU (G t)) := by rw [hw2]; exact c
          have f2' : ∀ t, t < n → w2.frozen? ⟨g, o + t, none⟩ = false := by rw [hw2]; exact f
          have S2 := Lib.hid (show Srt w w2 g o n cap dk by rw [hw2]; exact S1.out.drewN _)
          rw [← hw2]
          clear hw2 c f nq
          go_big_quiet ((go_at_call 61; exact Calls.quiet_of_same (less_u _ _ _)))
          go_wp2
          · have hk : ltI (G (F + r)) (G (F + 2 * r + 2)) = false := by
              have : (!ltI (G (F + r)) (G (F + 2 * r + 2))) = true := by assumption
              simpa using this
            have e := Lib.hid (O1.out.symm.trans (sd_right_stop ltI dk c2 (h2'.out) (by rw [← G1.out, ← G1.out]; exact hk)))
            (try simp only [Exit.inBlock, Exit.then])
            refine bodyPost_ret (results_none rfl _ _ _) rfl ?_
            exact ⟨rfl, e.out ▸ S2.out.drewN _⟩
          · have hk : ltI (G (F + r)) (G (F + 2 * r + 2)) = true := by
              have : (!ltI (G (F + r)) (G (F + 2 * r + 2))) = false := by assumption
              simpa using this
            have e := Lib.hid (O1.out.symm.trans (sd_right_go ltI dk c2 (h2'.out) (by rw [← G1.out, ← G1.out]; exact hk)))
            go_region
            all_goals go_wp2
            go_roundw
            case rel =>
              refine ⟨2 * r + 2, swp dk (F + r) (F + (2 * r + 2)), by go_num, by omega, ?_, e.out.symm⟩
              rw [G1.out, G1.out]
              exact (S2.out.drewN _).swap (F + r) (F + (2 * r + 2)) (by omega) (by omega)
            case measure => simp [intOf]; omega
        · have hl : ltI (G (F + 2 * r + 1)) (G (F + 2 * r + 2)) = false := by assumption
          have h2 : ltI dk[F + (2 * r + 1)]! dk[F + (2 * r + 2)]! = false := by rw [← G1.out, ← G1.out]; exact hl
          have h2' := Lib.hid h2
          clear h2
          obtain ⟨w2, hw2⟩ : ∃ w2, w2 = wr.drewN nq := ⟨_, rfl⟩
          have c2' : ∀ t, t < n → w2.cell? ⟨g, o + t, none⟩ = some (encU (G t)) := by rw [hw2]; exact c
          have f2' : ∀ t, t < n → w2.frozen? ⟨g, o + t, none⟩ = false := by rw [hw2]; exact f
          have S2 := Lib.hid (show Srt w w2 g o n cap dk by rw [hw2]; exact S1.out.drewN _)
          rw [← hw2]
          clear hw2 c f nq
          go_big_quiet ((go_at_call 61; exact Calls.quiet_of_same (less_u _ _ _)))
          go_wp2
          · have hk : ltI (G (F + r)) (G (F + 2 * r + 1)) = false := by
              have : (!ltI (G (F + r)) (G (F + 2 * r + 1))) = true := by assumption
              simpa using this
            have e := Lib.hid (O1.out.symm.trans (sd_left_stop ltI dk c1 (fun _ => h2'.out) (by rw [← G1.out, ← G1.out]; exact hk)))
            (try simp only [Exit.inBlock, Exit.then])
            refine bodyPost_ret (results_none rfl _ _ _) rfl ?_
            exact ⟨rfl, e.out ▸ S2.out.drewN _⟩
          · have hk : ltI (G (F + r)) (G (F + 2 * r + 1)) = true := by
              have : (!ltI (G (F + r)) (G (F + 2 * r + 1))) = false := by assumption
              simpa using this
            have e := Lib.hid (O1.out.symm.trans (sd_left_go ltI dk c1 (fun _ => h2'.out) (by rw [← G1.out, ← G1.out]; exact hk)))
            go_region
            all_goals go_wp2
            go_roundw
            case rel =>
              refine ⟨2 * r + 1, swp dk (F + r) (F + (2 * r + 1)), by go_num, by omega, ?_, e.out.symm⟩
              rw [G1.out, G1.out]
              exact (S2.out.drewN _).swap (F + r) (F + (2 * r + 1)) (by omega) (by omega)
            case measure => simp [intOf]; omega
      · have b0 : ¬ (hi : Int) ≤ 2 * (r : Int) + 1 := by omega
        have b1 : decide (2 * (r : Int) + 1 + 1 < (hi : Int)) = false := by simp; omega
        go_wp2_with fail
        go_big_quiet (fail)
        go_wp2
        obtain ⟨w2, hw2⟩ : ∃ w2, w2 = wr.drewN nq := ⟨_, rfl⟩
        have c2' : ∀ t, t < n → w2.cell? ⟨g, o + t, none⟩ = some (encU (G t)) := by rw [hw2]; exact c
        have f2' : ∀ t, t < n → w2.frozen? ⟨g, o + t, none⟩ = false := by rw [hw2]; exact f
        have S2 := Lib.hid (show Srt w w2 g o n cap dk by rw [hw2]; exact S1.out.drewN _)
        rw [← hw2]
        clear hw2 c f nq
        go_big_quiet ((go_at_call 61; exact Calls.quiet_of_same (less_u _ _ _)))
        go_wp2
        · have hk : ltI (G (F + r)) (G (F + 2 * r + 1)) = false := by
            have : (!ltI (G (F + r)) (G (F + 2 * r + 1))) = true := by assumption
            simpa using this
          have e := Lib.hid (O1.out.symm.trans (sd_left_stop ltI dk c1 (fun h => absurd h c2) (by rw [← G1.out, ← G1.out]; exact hk)))
          (try simp only [Exit.inBlock, Exit.then])
          refine bodyPost_ret (results_none rfl _ _ _) rfl ?_
          exact ⟨rfl, e.out ▸ S2.out.drewN _⟩
        · have hk : ltI (G (F + r)) (G (F + 2 * r + 1)) = true := by
            have : (!ltI (G (F + r)) (G (F + 2 * r + 1))) = false := by assumption
            simpa using this
          have e := Lib.hid (O1.out.symm.trans (sd_left_go ltI dk c1 (fun h => absurd h c2) (by rw [← G1.out, ← G1.out]; exact hk)))
          go_region
          all_goals go_wp2
          go_roundw
          case rel =>
            refine ⟨2 * r + 1, swp dk (F + r) (F + (2 * r + 1)), by go_num, by omega, ?_, e.out.symm⟩
            rw [G1.out, G1.out]
            exact (S2.out.drewN _).swap (F + r) (F + (2 * r + 1)) (by omega) (by omega)
          case measure => simp [intOf]; omega
    · have b0 : (hi : Int) ≤ 2 * (r : Int) + 1 := by omega
      have e := Lib.hid (O1.out.symm.trans (sd_end ltI dk (by omega)))
      go_wp2
      go_end0
      exact ⟨rfl, e.out ▸ S1.out⟩
end Go.Proofs.YtkolkimmhlmlgaaDoor
