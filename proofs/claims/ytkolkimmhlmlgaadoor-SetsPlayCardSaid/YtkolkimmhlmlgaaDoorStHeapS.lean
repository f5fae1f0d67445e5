/-
  slices.heapSortOrdered and slices.reverseRangeOrdered at uint64 by contract.
-/
import Derived.Test.YtkolkimmhlmlgaaDoorStHeap
namespace Go.Proofs.YtkolkimmhlmlgaaDoor
open Go.RowKit
open Go.Sort (swp siftDown heapBuild heapPop heapSort reverseLoop reverseRange)

set_option maxRecDepth 100000 in
theorem heap_u {w : World} {g o n cap : Nat} {d : Array Int} (h : URow w g o n cap d) (a b : Nat) (hab : a ≤ b) (hb : b ≤ n) (hn : n < 4611686018427387904) :
    Calls Tryd.prog 56 #[.slice (some ⟨g, o, none⟩) n cap, .int .i64 a, .int .i64 b] w fun e w' => e = .returned (.tuple #[]) ∧ Srt w w' g o n cap (heapSort ltI d a b) := by
  have hs := Lib.hid (Srt.refl h)
  clear h
  have e0 : (b : Int) - (a : Int) = ((b - a : Nat) : Int) := by omega
  have w0 : IntKind.i64.wrap ((b : Int) - (a : Int)) = ((b - a : Nat) : Int) := by rw [e0]; exact IntWalk.i64_in _ (by omega)
  have hd : heapSort ltI d a b = heapPop ltI a (b - a) (heapBuild ltI (b - a) a ((b - a - 1) / 2 + 1) d) := rfl
  rw [hd]
  obtain ⟨hi, hhi⟩ : ∃ hi, b - a = hi := ⟨_, rfl⟩
  rw [hhi] at w0 ⊢
  have hle : a + hi ≤ n := by omega
  have w1 : IntKind.i64.wrap ((hi : Int) - 1) = (hi : Int) - 1 := IntWalk.i64_in _ (by omega)
  obtain ⟨k0, hk0⟩ : ∃ k0, (hi - 1) / 2 + 1 = k0 := ⟨_, rfl⟩
  have w2 : IntKind.i64.wrap (((hi : Int) - 1).tdiv 2) = (k0 : Int) - 1 := by
    rw [← hk0]
    rcases Nat.eq_zero_or_pos hi with rfl | hp
    · rfl
    · rw [Int.tdiv_eq_ediv_of_nonneg (by omega)]
      have : ((hi : Int) - 1) / 2 = (((hi - 1) / 2 : Nat) : Int) := by omega
      rw [this]
      have := IntWalk.i64_in (((hi - 1) / 2 : Nat) : Int) (by omega)
      rw [this]
      omega
  rw [hk0]
  have hk1 : k0 ≤ hi + 1 := by omega
  clear hhi hk0 e0 hd
  go_enter Tryd.func56, Tryd.ntmps56
  go_wp2_with fail
  go_loopw [9] (fun iv wr => ∃ (k : Nat) (i : Int) (dk : Array Int), iv = .int .i64 i ∧ i = (k : Int) - 1 ∧ k ≤ hi + 1 ∧ Srt w wr g o n cap dk ∧ heapBuild ltI hi a k dk = heapBuild ltI hi a k0 d) (fun iv _ => (intOf iv + 1).toNat)
  case atStart => exact ⟨k0, _, d, rfl, rfl, hk1, hs.out, rfl⟩
  case round =>
    clear hs
    obtain ⟨k, i, dk, rfl, hik, hk, hS, hO⟩ := hrel
    have S1 := Lib.hid hS
    have O1 := Lib.hid hO
    clear hS hO
    cases k with
    | succ m =>
      obtain rfl : i = (m : Int) := by omega
      clear hik
      have cs := Lib.hid (sift_u S1.out.row m hi a (by omega) hle hn)
      go_wp2_with (first | (go_at_call 66; refine cs.out.mono ?_; rintro e w2 ⟨rfl, hS2⟩; have S2 := Lib.hid (S1.out.trans hS2); clear hS2))
      go_roundw
      case rel => exact ⟨m, _, _, rfl, rfl, by omega, S2.out, O1.out⟩
      case measure => simp [intOf]
    | zero =>
      obtain rfl : i = -1 := by omega
      clear hik
      have e1 := Lib.hid (show dk = heapBuild ltI hi a k0 d from O1.out)
      clear O1
      obtain ⟨wo, rfl⟩ : ∃ wo : World, wo = wr := ⟨_, rfl⟩
      go_wp2_with fail
      go_loopw [10] (fun iv wr => ∃ (k : Nat) (i : Int) (dj : Array Int), iv = .int .i64 i ∧ i = (k : Int) - 1 ∧ k ≤ hi ∧ Srt w wr g o n cap dj ∧ heapPop ltI a k dj = heapPop ltI a hi dk) (fun iv _ => (intOf iv + 1).toNat)
      case atStart => exact ⟨hi, _, dk, rfl, rfl, Nat.le_refl _, S1.out, rfl⟩
      case round =>
        clear S1
        obtain ⟨k, i, dj, rfl, hik, hk, hS, hO⟩ := hrel
        obtain ⟨G, hG, c, f⟩ := hS.fam
        have S2 := Lib.hid hS
        have O2 := Lib.hid hO
        have G2 := Lib.hid hG
        clear hS hO hG
        cases k with
        | succ m =>
          obtain rfl : i = (m : Int) := by omega
          clear hik
          have w3 : IntKind.i64.wrap ((a : Int) + (m : Int)) = (a : Int) + (m : Int) := IntWalk.i64_in _ (by omega)
          have b1 : (a : Int) < (n : Int) := by omega
          have b2 : (a : Int) + (m : Int) < (n : Int) := by omega
          have hw : ∀ q, Srt w (((wr.drewN q).setCell ⟨g, o + a, none⟩ (encU (G (a + m)))).setCell ⟨g, o + (a + m), none⟩ (encU (G a))) g o n cap (swp dj a (a + m)) := fun q => by
            rw [G2.out, G2.out]
            exact (S2.out.drewN q).swap a (a + m) (by omega) (by omega)
          have hw' := Lib.hid (hw 1)
          clear hw
          have cs := Lib.hid (sift_u hw'.out.row 0 m a (by omega) (by omega) hn)
          have O3 := Lib.hid (show heapPop ltI a m (siftDown ltI m a 0 (swp dj a (a + m))) = heapPop ltI a hi dk from O2.out)
          rcases Nat.eq_zero_or_pos m with rfl | hm
          · go_wp2_with fail
            go_region
            go_wp2_with (first | (go_at_call 66; refine cs.out.mono ?_; rintro e w2 ⟨rfl, hS2⟩; have S3 := Lib.hid (hw'.out.trans hS2); clear hS2))
            go_roundw
            case rel => exact ⟨0, _, _, by go_num, rfl, by omega, S3.out, O3.out⟩
            case measure => simp [intOf]
          · go_wp2_with fail
            go_region
            go_wp2_with (first | (go_at_call 66; refine cs.out.mono ?_; rintro e w2 ⟨rfl, hS2⟩; have S3 := Lib.hid (hw'.out.trans hS2); clear hS2))
            go_roundw
            case rel => exact ⟨m, _, _, by go_num, rfl, by omega, S3.out, O3.out⟩
            case measure => simp [intOf]
        | zero =>
          obtain rfl : i = -1 := by omega
          clear hik
          have e2 := Lib.hid (show dj = heapPop ltI a hi dk from O2.out)
          go_wp2_with fail
          go_end0
          refine ⟨rfl, ?_⟩
          rw [← e1.out, ← e2.out]
          exact S2.out

set_option maxRecDepth 100000 in
theorem rev_u {w : World} {g o n cap : Nat} {d : Array Int} (h : URow w g o n cap d) (a b : Nat) (hab : a < b) (hb : b ≤ n) (hn : n < 4611686018427387904) :
    Calls Tryd.prog 59 #[.slice (some ⟨g, o, none⟩) n cap, .int .i64 a, .int .i64 b] w fun e w' => e = .returned (.tuple #[]) ∧ Srt w w' g o n cap (reverseRange d a b) := by
  have hs := Lib.hid (Srt.refl h)
  clear h
  have w0 : IntKind.i64.wrap ((b : Int) - 1) = ((b - 1 : Nat) : Int) := by rw [show (b : Int) - 1 = ((b - 1 : Nat) : Int) by omega]; exact IntWalk.i64_in _ (by omega)
  have hd : reverseRange d a b = reverseLoop a (b - 1) d := rfl
  rw [hd]
  have hj0 : b - 1 < n := by omega
  have ha0 : a ≤ b - 1 := by omega
  generalize b - 1 = j0 at w0 hj0 ha0 ⊢
  go_enter Tryd.func59, Tryd.ntmps59
  go_wp2_with fail
  go_loopw [6, 7] (fun iv jv wr => ∃ (i : Nat) (jz : Int) (j : Nat) (dk : Array Int), iv = .int .i64 i ∧ jv = .int .i64 jz ∧ ((j : Int) = jz ∨ (jz < i ∧ j ≤ i)) ∧ -1 ≤ jz ∧ j < n ∧ i ≤ n + 1 ∧ Srt w wr g o n cap dk ∧ reverseLoop i j dk = reverseLoop a j0 d) (fun iv jv _ => (intOf jv + 1 - intOf iv).toNat)
  case atStart => exact ⟨a, _, j0, d, rfl, rfl, .inl rfl, by omega, hj0, by omega, hs.out, rfl⟩
  case round =>
    clear hs
    obtain ⟨i, jz, j, dk, rfl, rfl, hjz, hj1, hjn, hin, hS, hO⟩ := hrel
    obtain ⟨G, hG, c, f⟩ := hS.fam
    have S1 := Lib.hid hS
    have O1 := Lib.hid hO
    have G1 := Lib.hid hG
    clear hS hO hG
    by_cases hlt : (i : Int) < jz
    · obtain rfl : jz = (j : Int) := by omega
      have w1 : IntKind.i64.wrap ((j : Int) - 1) = (j : Int) - 1 := IntWalk.i64_in _ (by omega)
      have b1 : (i : Int) < (n : Int) := by omega
      have b2 : (j : Int) < (n : Int) := by omega
      go_wp2_with fail
      go_region
      go_wp2_with fail
      go_roundw
      case rel =>
        refine ⟨i + 1, _, j - 1, swp dk i j, by go_num, rfl, by omega, by omega, by omega, by omega, ?_, ?_⟩
        · rw [G1.out, G1.out]
          exact (S1.out.drewN 1).swap i j (by omega) (by omega)
        · rw [← O1.out]
          conv => rhs; rw [reverseLoop]
          rw [if_pos (by omega)]
      case measure => simp [intOf]; omega
    · have e1 := O1.out
      rw [reverseLoop, if_neg (by omega)] at e1
      have e2 := Lib.hid e1
      clear e1
      go_wp2_with fail
      go_end0
      exact ⟨rfl, e2.out ▸ S1.out⟩
end Go.Proofs.YtkolkimmhlmlgaaDoor
