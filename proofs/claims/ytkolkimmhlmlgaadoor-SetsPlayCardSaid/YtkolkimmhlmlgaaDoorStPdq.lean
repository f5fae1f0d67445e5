/-
  slices.pdqsortOrdered and slices.Sort at uint64 by contract: the row holds what it held, sorted.
-/
import Derived.Test.YtkolkimmhlmlgaaDoorStPIns
import Derived.Sort.LotD3
namespace Go.Proofs.YtkolkimmhlmlgaaDoor
open Go.RowKit
open Go.Sort (swp PermIn SortedIn permIn_refl permIn_trans insertionSort_holds heapSort_holds reverseRange_holds partialInsertionSort_holds partition_holds partitionEqual_holds round_eq round_part swo_ltInt partition partitionEqual partialInsertionSort)

/-- Where the loop is: between a and b it is still to be sorted; whatever sorts that sorts all. -/
structure PG (n a0 b0 : Nat) (d0 : Array Int) (a b : Nat) (d : Array Int) : Prop where
  ab : a ≤ b
  bn : b ≤ n
  inn : b - a ≤ b0 - a0
  size : d.size = n
  below : Go.Sort.Below ltI a b d
  fin : ∀ R, PermIn a b d R → SortedIn ltI a b R → PermIn a0 b0 d0 R ∧ SortedIn ltI a0 b0 R

theorem PG.perm {n a0 b0 a b : Nat} {d0 d d' : Array Int} (h : PG n a0 b0 d0 a b d) (hp : PermIn a b d d') : PG n a0 b0 d0 a b d' :=
  ⟨h.ab, h.bn, h.inn, hp.1.trans h.size, h.below.perm (by rw [h.size]; exact h.bn) hp, fun R hR hs => h.fin R (permIn_trans _ _ _ _ _ hp hR) hs⟩

/-- What is there at the end. -/
def Sortd (w : World) (g o n cap a b : Nat) (d : Array Int) (w' : World) : Prop := ∃ d', Srt w w' g o n cap d' ∧ PermIn a b d d' ∧ SortedIn ltI a b d'

theorem swoI : Go.Sort.SWO ltI := swo_ltInt

set_option maxRecDepth 100000 in
set_option maxHeartbeats 4000000 in
theorem pdq_u (g o n cap : Nat) (hn : n < 4611686018427387904) : ∀ (N a b lim : Nat) (d : Array Int) (w : World), b - a < N → URow w g o n cap d → a ≤ b → b ≤ n → lim < 4611686018427387904 → Go.Sort.Below ltI a b d →
    Calls Tryd.prog 51 #[.slice (some ⟨g, o, none⟩) n cap, .int .i64 a, .int .i64 b, .int .i64 lim] w fun e w' => e = .returned (.tuple #[]) ∧ Sortd w g o n cap a b d w' := by
  intro N
  induction N with
  | zero => intro a b lim d w h; omega
  | succ N ih =>
    intro a0 b0 lim0 d0 w hN h hab hb hlim hB
    have IH := Lib.hid ih
    clear ih
    have P0 := Lib.hid (show PG n a0 b0 d0 a0 b0 d0 from ⟨hab, hb, Nat.le_refl _, h.2.1, hB, fun R h1 h2 => ⟨h1, h2⟩⟩)
    have SX := Lib.hid (Srt.refl h)
    clear h hB hab hb
    go_enter Tryd.func51, Tryd.ntmps51
    go_wp2_with fail
    go_loopw [1, 2, 3, 8, 9] (fun av bv lv s8 s9 wx => ∃ (a b lim : Nat) (wb wp : Bool) (dk : Array Int), av = .int .i64 a ∧ bv = .int .i64 b ∧ lv = .int .i64 lim ∧ s8 = .bool wb ∧ s9 = .bool wp ∧ lim < 4611686018427387904 ∧ PG n a0 b0 d0 a b dk ∧ Srt w wx g o n cap dk) (fun av bv _ _ _ _ => (intOf bv - intOf av).toNat)
    case atStart => exact ⟨a0, b0, lim0, true, true, d0, rfl, rfl, rfl, rfl, rfl, hlim, P0.out, SX.out⟩
    case round =>
      clear SX P0 hlim
      obtain ⟨a, b, lim, wb, wp, dk, rfl, rfl, rfl, rfl, rfl, hlim, hP, hS⟩ := hrel
      have SX := Lib.hid hS
      have P1 := Lib.hid hP
      have hab := hP.ab
      have hb := hP.bn
      have hinn := hP.inn
      clear hS hP
      have wL : IntKind.i64.wrap ((b : Int) - (a : Int)) = (b : Int) - (a : Int) := IntWalk.i64_in _ (by omega)
      by_cases h12 : b - a ≤ 12
      · have t1 : (b : Int) - (a : Int) ≤ 12 := by omega
        have cs := Lib.hid (ins_u SX.out.row a b hab hb hn)
        obtain ⟨q1, q2⟩ := insertionSort_holds swoI dk a b hab (by rw [P1.out.size]; exact hb)
        have F := Lib.hid (P1.out.fin _ q1 q2)
        clear q1 q2
        go_wp2_with (first | (go_at_call 55; refine cs.out.mono ?_; rintro e w2 ⟨rfl, hS2⟩; have S2 := Lib.hid (SX.out.trans hS2); clear hS2))
        (try simp only [Exit.inBlock, Exit.then])
        refine bodyPost_ret (results_none rfl _ _ _) rfl ?_
        exact ⟨rfl, _, S2.out, F.out⟩
      · have t1 : ¬ (b : Int) - (a : Int) ≤ 12 := by omega
        by_cases hl0 : lim = 0
        · subst hl0
          have cs := Lib.hid (heap_u SX.out.row a b hab hb hn)
          obtain ⟨q1, q2⟩ := heapSort_holds swoI dk a b hab (by rw [P1.out.size]; exact hb)
          have F := Lib.hid (P1.out.fin _ q1 q2)
          clear q1 q2
          go_wp2_with (first | (go_at_call 56; refine cs.out.mono ?_; rintro e w2 ⟨rfl, hS2⟩; have S2 := Lib.hid (SX.out.trans hS2); clear hS2))
          (try simp only [Exit.inBlock, Exit.then])
          refine bodyPost_ret (results_none rfl _ _ _) rfl ?_
          exact ⟨rfl, _, S2.out, F.out⟩
        · have t2 : ((lim : Int) == 0) = false := by simp; omega
          have wl : IntKind.i64.wrap ((lim : Int) - 1) = (lim : Int) - 1 := IntWalk.i64_in _ (by omega)
          -- the patterns
          go_upto_if 35 with fail
          go_cut [3] from 19 (fun lv wx => ∃ (l2 : Nat) (d1 : Array Int), lv = .int .i64 l2 ∧ l2 < 4611686018427387904 ∧ PG n a0 b0 d0 a b d1 ∧ Srt w wx g o n cap d1)
          case first =>
            cases wb with
            | true =>
              go_wp2_with fail
              go_meet
              case rel => exact ⟨lim, dk, rfl, hlim, P1.out, SX.out⟩
            | false =>
              have cs := Lib.hid (break_u SX.out.row a b (by omega) hb hn)
              go_wp2_with (first | (go_at_call 57; refine cs.out.mono ?_; rintro e w2 ⟨rfl, d1, hS2, hp⟩; have S2 := Lib.hid (SX.out.trans hS2); have P2 := Lib.hid (P1.out.perm hp); clear hS2 hp))
              go_meet
              case rel => exact ⟨lim - 1, d1, by congr 1; omega, by omega, P2.out, S2.out⟩
          case rest =>
            clear SX P1 hlim t2 wl hl0
            obtain ⟨lim, d1, rfl, hlim, hP, hS⟩ := hcut
            have SX := Lib.hid hS
            have P1 := Lib.hid hP
            clear hS hP
            -- the pivot
            have cs := Lib.hid (pivot_u SX.out.row a b (by omega) hb hn)
            go_upto_if 50 with (go_at_call 58; refine cs.out.mono ?_; rintro e w2 ⟨p, c, rfl, hp1, hp2, hc, hk⟩; have S2 := Lib.hid (SX.out.keepsU hk (fun _ _ => id) id); clear hk)
            clear SX cs
            go_cut [11, 12] from 19 (fun s11 s12 wx => ∃ (p : Nat) (c : Int) (d2 : Array Int), s11 = .int .i64 p ∧ s12 = .int .i64 c ∧ a ≤ p ∧ p < b ∧ PG n a0 b0 d0 a b d2 ∧ Srt w wx g o n cap d2)
            case first =>
              by_cases h2 : c = 2
              · subst h2
                have cr := Lib.hid (rev_u S2.out.row a b (by omega) hb hn)
                have wa : IntKind.i64.wrap ((b : Int) - 1) = (b : Int) - 1 := IntWalk.i64_in _ (by omega)
                have wb' : IntKind.i64.wrap ((p : Int) - (a : Int)) = (p : Int) - (a : Int) := IntWalk.i64_in _ (by omega)
                have wc' : IntKind.i64.wrap ((b : Int) - 1 - ((p : Int) - (a : Int))) = (b : Int) - 1 - ((p : Int) - (a : Int)) := IntWalk.i64_in _ (by omega)
                have hr := Lib.hid (P1.out.perm (reverseRange_holds d1 a b hab (by rw [P1.out.size]; exact hb)))
                go_wp2_with (first | (go_at_call 59; refine cr.out.mono ?_; rintro e w3 ⟨rfl, hS3⟩; have S3 := Lib.hid (S2.out.trans hS3); clear hS3))
                go_meet
                case rel => exact ⟨(b - 1) - (p - a), 1, _, by congr 1; omega, rfl, by omega, by omega, hr.out, S3.out⟩
              · have t3 : (c == 2) = false := by simpa using h2
                go_wp2_with fail
                go_meet
                case rel => exact ⟨p, c, d1, rfl, rfl, hp1, hp2, P1.out, S2.out⟩
            case rest =>
              clear S2 P1 hp1 hp2 hc
              obtain ⟨p, c, d2, rfl, rfl, hp1, hp2, hP, hS⟩ := hcut
              have SX := Lib.hid hS
              have P1 := Lib.hid hP
              clear hS hP
              -- is it sorted already?
              go_upto_region 15 with fail
              go_cut [68] from 19 (fun s68 wx => ∃ t : Bool, s68 = .bool t ∧ Srt w wx g o n cap d2)
              case first =>
                cases wb <;> cases wp <;> (go_wp2_with fail) <;> go_meet <;> exact ⟨_, rfl, SX.out⟩
              case rest =>
                clear SX
                obtain ⟨t, rfl, hS⟩ := hcut
                have SX := Lib.hid hS
                clear hS
                go_upto_if 68 with fail
                go_cut [] from 19 (fun wx => ∃ d3 : Array Int, PG n a0 b0 d0 a b d3 ∧ Srt w wx g o n cap d3)
                case first =>
                  cases t with
                  | false =>
                    go_wp2_with fail
                    go_meet
                    case rel => exact ⟨d2, P1.out, SX.out⟩
                  | true =>
                    have cp := Lib.hid (pins_u SX.out.row a b (by omega) hb hn)
                    obtain ⟨q1, q2⟩ := partialInsertionSort_holds swoI d2 a b (by omega) (by rw [P1.out.size]; exact hb) P1.out.below
                    have Q1 := Lib.hid q1
                    have Q2 := Lib.hid q2
                    clear q1 q2
                    go_wp2_with (first | (go_at_call 60; refine cp.out.mono ?_; rintro e w3 ⟨r, rfl, hr, hS3⟩; have S3 := Lib.hid (SX.out.trans hS3); have R3 := Lib.hid hr; clear hS3 hr; cases r))
                    · go_wp2_with fail
                      go_meet
                      case rel => exact ⟨_, P1.out.perm Q1.out, S3.out⟩
                    · go_wp2_with fail
                      (try simp only [Exit.inBlock, Exit.then])
                      refine bodyPost_ret (results_none rfl _ _ _) rfl ?_
                      exact ⟨rfl, _, S3.out, P1.out.fin _ Q1.out (Q2.out R3.out.symm)⟩
                case rest =>
                  clear SX P1
                  obtain ⟨d3, hP, hS⟩ := hcut
                  have SX := Lib.hid hS
                  have P1 := Lib.hid hP
                  clear hS hP
                  -- many that are equal?
                  go_upto_region 17 with fail
                  go_cut [87] from 19 (fun s87 wx => ∃ t : Bool, s87 = .bool t ∧ (t = true → 0 < a ∧ ltI d3[a - 1]! d3[p]! = false) ∧ Srt w wx g o n cap d3)
                  case first =>
                    obtain ⟨G, hG, cc, ff⟩ := SX.out.fam
                    have G1 := Lib.hid hG
                    clear hG
                    rcases Nat.eq_zero_or_pos a with h0 | h0
                    · subst h0
                      go_wp2_with fail
                      go_big_quiet (fail)
                      go_wp2_with fail
                      go_meet
                      case rel => exact ⟨_, rfl, fun h => (by cases h), SX.out.drewN _⟩
                    · have t4 : (0 : Int) < (a : Int) := by omega
                      have wa : IntKind.i64.wrap ((a : Int) - 1) = (a : Int) - 1 := IntWalk.i64_in _ (by omega)
                      have b2 : (a : Int) - 1 < (n : Int) := by omega
                      have b4 : (0 : Int) ≤ (a : Int) - 1 := by omega
                      have b5 : (p : Int) < (n : Int) := by omega
                      go_wp2_with fail
                      go_big_quiet ((go_at_call 61; exact Calls.quiet_of_same (less_u _ _ _)))
                      go_wp2_with fail
                      go_meet
                      case rel => exact ⟨_, rfl, fun h => ⟨h0, by rw [← G1.out, ← G1.out]; simpa using h⟩, SX.out.drewN _⟩
                  case rest =>
                    clear SX
                    obtain ⟨t, rfl, ht, hS⟩ := hcut
                    have SX := Lib.hid hS
                    have T1 := Lib.hid ht
                    clear hS ht
                    cases t with
                    | true =>
                      obtain ⟨ha0, hnl⟩ := T1.out rfl
                      have ce := Lib.hid (partEq_u SX.out.row a b p hp1 hp2 hb hn)
                      obtain ⟨r1, r2, r3, r4, r5⟩ := round_eq (mid := (partitionEqual ltI d3 a b p).1) (d4 := (partitionEqual ltI d3 a b p).2) swoI (partitionEqual_holds _) ha0 hp1 hp2 (by rw [P1.out.size]; exact hb) P1.out.below hnl rfl
                      obtain ⟨mid, hm⟩ : ∃ m, m = (partitionEqual ltI d3 a b p).1 := ⟨_, rfl⟩
                      rw [← hm] at r1 r2 r4 r5
                      have P2 := Lib.hid (show PG n a0 b0 d0 mid b (partitionEqual ltI d3 a b p).2 from ⟨r2, hb, by omega, r3.trans P1.out.size, r4, fun R hR hs => by
                        obtain ⟨x1, x2⟩ := r5 R hR hs
                        exact P1.out.fin R x1 x2⟩)
                      have hm' := Lib.hid hm
                      clear hnl r3 r4 r5 hm
                      go_wp2_with (first | (go_at_call 62; refine ce.out.mono ?_; rintro e w3 ⟨i, rfl, hi, hS3⟩; have S3 := Lib.hid (SX.out.trans hS3); obtain rfl : i = mid := hi.trans hm'.out.symm; clear hS3 hi))
                      go_roundw
                      case rel => exact ⟨i, b, lim, wb, wp, _, rfl, rfl, rfl, rfl, rfl, hlim, P2.out, S3.out⟩
                      case measure => simp [intOf]; omega
                    | false =>
                      have cp := Lib.hid (part_u SX.out.row a b p hp1 hp2 hb hn)
                      obtain ⟨r1, r2, r3, r4, r5, r6, r7⟩ := round_part (mid := (partition ltI d3 a b p).1) (ap := (partition ltI d3 a b p).2.1) (d4 := (partition ltI d3 a b p).2.2) swoI (partition_holds _) hp1 hp2 (by rw [P1.out.size]; exact hb) P1.out.below rfl
                      obtain ⟨mid, hm⟩ : ∃ m, m = (partition ltI d3 a b p).1 := ⟨_, rfl⟩
                      obtain ⟨d4, hd4⟩ : ∃ m, m = (partition ltI d3 a b p).2.2 := ⟨_, rfl⟩
                      rw [← hm] at r1 r2 r4 r5 r6 r7
                      rw [← hd4] at r3 r4 r5 r6 r7 cp
                      have hsz : d4.size = n := r3.trans P1.out.size
                      have hm' := Lib.hid hm
                      have R4 := Lib.hid r4
                      have R5 := Lib.hid r5
                      have R6 := Lib.hid r6
                      have R7 := Lib.hid r7
                      have wm : IntKind.i64.wrap ((mid : Int) - (a : Int)) = (mid : Int) - (a : Int) := IntWalk.i64_in _ (by omega)
                      have wn : IntKind.i64.wrap ((b : Int) - (mid : Int)) = (b : Int) - (mid : Int) := IntWalk.i64_in _ (by omega)
                      have w1 : IntKind.i64.wrap ((mid : Int) + 1) = ((mid + 1 : Nat) : Int) := by rw [show (mid : Int) + 1 = ((mid + 1 : Nat) : Int) by omega]; exact IntWalk.i64_in _ (by omega)
                      clear r3 r4 r5 r6 r7 hm hd4
                      go_upto_if 113 with (go_at_call 63; refine cp.out.mono ?_; rintro e w3 ⟨i, c2, rfl, hi, hc2, hS3⟩; have S3 := Lib.hid (SX.out.trans hS3); obtain rfl : i = mid := hi.trans hm'.out.symm; clear hS3 hc2 hi)
                      by_cases hlr : i - a < b - i
                      · have t5 : (i : Int) - (a : Int) < (b : Int) - (i : Int) := by omega
                        have ci := Lib.hid (IH.out a i lim d4 w3 (by omega) S3.out.row r1 (by omega) hlim R4.out)
                        go_wp2_with (first | (go_at_call 51; refine ci.out.mono ?_; rintro e w4 ⟨rfl, d5, hS4, hp4, hs4⟩; have S4 := Lib.hid (S3.out.trans hS4); have P4 := Lib.hid (R6.out d5 hp4 hs4); clear hS4 hp4 hs4))
                        go_roundw
                        case rel => exact ⟨i + 1, b, lim, _, c2, d5, by first | rfl | (congr 1; omega), rfl, rfl, rfl, rfl, hlim, ⟨by omega, hb, by omega, S4.out.size, P4.out.1, fun R hR hs => by
                          obtain ⟨x1, x2⟩ := P4.out.2 R hR hs
                          exact P1.out.fin R x1 x2⟩, S4.out⟩
                        case measure => simp [intOf]; omega
                      · have t5 : ¬ (i : Int) - (a : Int) < (b : Int) - (i : Int) := by omega
                        have ci := Lib.hid (IH.out (i + 1) b lim d4 w3 (by omega) S3.out.row (by omega) hb hlim R5.out)
                        go_wp2_with (first | (go_at_call 51; refine ci.out.mono ?_; rintro e w4 ⟨rfl, d5, hS4, hp4, hs4⟩; have S4 := Lib.hid (S3.out.trans hS4); have P4 := Lib.hid (R7.out d5 hp4 hs4); clear hS4 hp4 hs4))
                        go_roundw
                        case rel => exact ⟨a, i, lim, _, c2, d5, rfl, rfl, rfl, rfl, rfl, hlim, ⟨by omega, by omega, by omega, S4.out.size, P4.out.1, fun R hR hs => by
                          obtain ⟨x1, x2⟩ := P4.out.2 R hR hs
                          exact P1.out.fin R x1 x2⟩, S4.out⟩
                        case measure => simp [intOf]; omega
end Go.Proofs.YtkolkimmhlmlgaaDoor
