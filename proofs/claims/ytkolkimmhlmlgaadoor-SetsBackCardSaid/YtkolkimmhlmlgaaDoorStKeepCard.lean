/-
  SetsKeep: called with any calls, any writes and any more, concordlaw07.SetsKeep returns true and changes nothing; the library's variable errors.errorType holds what the program's text lays in it (the card ties it). The card says nothing of code outside the pruned copy.
-/
import Derived.Test.YtkolkimmhlmlgaaDoorStKept
import Derived.Test.YtkolkimmhlmlgaaDoorTie
import Derived.Test.YtkolkimmhlmlgaaDoorCards
import Derived.ProofKit
import Derived.OpenShut
import Derived.ShutString
import Derived.ChangeOld
import Derived.RowKitTokens
import Derived.LaidLaws
import Derived.LaidHandle
import Derived.LaidMore
import Derived.Stop.Joined
import Derived.SevenTiedAt
import Derived.Lib.SmallJoins
namespace Go.Proofs.YtkolkimmhlmlgaaDoor
open Go.RowKit Go.Maps Go.Extern.Stop Go.Stop Go.Extern
open Go.ChangeShapes Go.WideShapes Go.ChangeAt Go.Deep

/-- Mark, where there are so many marks as may be. -/
theorem mark_full {w : World} {s : Nat} {A : AS} {X : Nat → Prop} (h : PS w s A X) (hf : 20 ≤ A.M.length) :
    Calls Tryd.prog 12 #[.pointer (some ⟨s, 0, none⟩)] w fun e w' => e = .returned (.tuple #[.int .i64 0, .iface 77 (.int .i64 10)]) ∧ w = w' := by
  obtain ⟨pb, wb, vr, vm, lb, lg, h⟩ := h
  have c2 : w.cell? ⟨s, 2, none⟩ = some (.map (some wb)) := h.blk.at_ 2
  have cn := Lib.hid (snone_there w c2)
  obtain ⟨o, cap, rfl, _⟩ := row_shape h.marks
  have c3 : w.cell? ⟨s, 3, none⟩ = some (.slice o lb.length cap) := h.blk.at_ 3
  have hml := h.mlen
  obtain ⟨n, hn⟩ : ∃ n, lb.length = n := ⟨_, rfl⟩
  rw [hn] at c3 hml
  have b1 : (20 : Int) ≤ (n : Int) := by omega
  clear h hn hf hml
  go_enter Tryd.func12, Tryd.ntmps12
  go_wp2_with (first
    | (go_at_call 31; refine cn.out.mono ?_; rintro e w' ⟨rfl, rfl⟩))
  go_ret2
  exact ⟨rfl, rfl⟩
theorem mark_fp {w0 w : World} {s : Nat} {A : AS} {P : World → Prop} (h : OnP w0 w s A P) (hf : 20 ≤ A.M.length) :
    Calls Tryd.prog 12 #[.pointer (some ⟨s, 0, none⟩)] w fun e w' => e = .returned (.tuple #[.int .i64 0, .iface 77 (.int .i64 10)]) ∧ OnP w0 w' s A P := by
  obtain ⟨X, Z, h⟩ := h
  exact (mark_full h.ps hf).mono fun _ _ ⟨e1, e2⟩ => ⟨e1, by subst e2; exact ⟨X, Z, h⟩⟩
theorem no_err10' (w : World) : Calls Tryd.prog 13 #[.iface 77 (.int .i64 10)] w fun e w' => e = .returned (.int .i64 10) ∧ w = w' :=
  no_errno 10 (by decide) (by decide) w

theorem no_err6 {B : Nat} {w : World} {v : Value} {a : Int} (h : ErrU B w v 6 a) : Calls Tryd.prog 13 #[v] w fun e w' => e = .returned (.int .i64 6) ∧ w = w' := no_u h

set_option maxRecDepth 100000 in
set_option maxHeartbeats 4000000 in
theorem setsKeep_walk (a0 : Option Addr) (len0 cap0 : Nat) (a1 : Option Addr) (len1 cap1 : Nat) (a2 : Option Addr) (len2 cap2 : Nat) (w : World) (w0 : Acts7 w a0 len0 cap0) (w1 : Acts7 w a1 len1 cap1) (w2 : Acts7 w a2 len2 cap2) (hg : Glob w) :
    Calls Tryd.prog 5 #[.slice a0 len0 cap0, .slice a1 len1 cap1, .slice a2 len2 cap2] w fun e w' => e = .returned (.bool true) ∧ Below w.heap.size w w' := by
  obtain ⟨L0, hL0⟩ := w0.list
  obtain ⟨L1, hL1⟩ := w1.list
  obtain ⟨L2, hL2⟩ := w2.list
  have LL1 := Lib.hid hL1
  have LL2 := Lib.hid hL2
  by_cases hlong : 80 < len0
  · have CP := Lib.hid (play_long (w := w) (a := a0) (cap := cap0) hlong)
    clear hL0 hL1 hL2 w0 w1 w2 hlong
    go_enter Tryd.func5, Tryd.ntmps5
    go_wp2_with (first
      | (go_at_call 10; refine CP.out.mono ?_; rintro e w1 ⟨rfl, hK⟩; have K1 := Lib.hid hK; clear hK)
      | (go_at_call 7; refine (alive_any _).mono ?_; rintro e w5 ⟨rfl, k5⟩; have K5 := Lib.hid k5; clear k5))
    go_ret
    exact ⟨rfl, (K1.out.trans_ K5.out).below (Nat.le_refl _) (fun _ _ h => h)⟩
  have CP := Lib.hid (play_any hL0 (by omega) hg)
  clear hL0 hL1 hL2 w0 w1 w2 hlong
  by_cases h1 : 20 < len1
  · have b1 : (20 : Int) < (len1 : Int) := by omega
    go_enter Tryd.func5, Tryd.ntmps5
    go_wp2_with fail
    refine CP.out.mono ?_
    rintro e w1 ⟨s, A, rfl, hO⟩
    have K1 := Lib.hid hO.keeps
    clear hO
    go_wp2_with (first
      | (go_at_call 7; refine (alive_any _).mono ?_; rintro e w5 ⟨rfl, k5⟩; have K5 := Lib.hid k5; clear k5))
    go_ret
    exact ⟨rfl, (K1.out.trans_ K5.out).below (Nat.le_refl _) (fun _ _ h => h)⟩
  by_cases h2 : 20 < len2
  · have b1 : decide ((20 : Int) < (len1 : Int)) = false := decide_eq_false (by omega)
    have b2 : (20 : Int) < (len2 : Int) := by omega
    go_enter Tryd.func5, Tryd.ntmps5
    go_wp2_with fail
    refine CP.out.mono ?_
    rintro e w1 ⟨s, A, rfl, hO⟩
    have K1 := Lib.hid hO.keeps
    clear hO
    go_wp2_with (first
      | (go_at_call 7; refine (alive_any _).mono ?_; rintro e w5 ⟨rfl, k5⟩; have K5 := Lib.hid k5; clear k5))
    go_ret
    exact ⟨rfl, (K1.out.trans_ K5.out).below (Nat.le_refl _) (fun _ _ h => h)⟩
  have b1 : decide ((20 : Int) < (len1 : Int)) = false := decide_eq_false (by omega)
  have b2 : decide ((20 : Int) < (len2 : Int)) = false := decide_eq_false (by omega)
  have hn1 : len1 ≤ 20 := by omega
  have hn2 : len2 ≤ 20 := by omega
  clear h1 h2
  go_enter Tryd.func5, Tryd.ntmps5
  go_wp2_with fail
  refine CP.out.mono ?_
  rintro e w1 ⟨s, A, rfl, hO⟩
  have C1 := Lib.hid (writes_p hO.kept)
  clear hO
  go_wp2_with fail
  refine C1.out.mono ?_
  rintro e w2 ⟨u1, rfl, hO⟩
  by_cases hfull : 20 ≤ A.M.length
  · have c2 := mark_fp hO hfull
    have C2 := Lib.hid c2
    have hf1 := Lib.hid hfull
    clear hO c2 hfull
    go_wp2_with fail
    refine C2.out.mono ?_
    rintro e w3 ⟨rfl, hO⟩
    have O0 := Lib.hid hO
    clear hO
    go_wp2_with fail
    go_loopw [43] (fun iv wr => ∃ (i : Nat) (D : AS), iv = .int .i64 i ∧ i ≤ len1 ∧ D.M = A.M ∧ D.R = A.R ∧ OnP w wr s D (fun v => True ∧ Row2 .u64 60 v u1 A.W)) (fun iv _ => len1 - (intOf iv).toNat)
    case atStart => exact ⟨0, A, rfl, Nat.zero_le _, rfl, rfl, O0.out⟩
    case round =>
      clear O0
      obtain ⟨i, D, rfl, hi, hM, hR, hO⟩ := hrel
      have M0 := Lib.hid hM
      have R0 := Lib.hid hR
      clear hM hR
      by_cases hlt : i < len1
      · have b5 : (i : Int) < (len1 : Int) := by omega
        obtain ⟨b, o, rfl, hc⟩ := LL1.out.at_ (by omega)
        obtain ⟨x, hx⟩ : ∃ x, L1[i]? = some x := ⟨_, List.getElem?_eq_getElem (by rw [LL1.out.len]; exact hlt)⟩
        obtain ⟨q0, q1, q2, q3⟩ := hc i x hx
        have K := hO.keeps
        have d0 := (K.cell (cell_lt q0) id).trans q0
        have d1 := (K.cell (cell_lt q1) id).trans q1
        have d2 := (K.cell (cell_lt q2) id).trans q2
        have d3 := (K.cell (cell_lt q3) id).trans q3
        have C1 := Lib.hid (write_p (hO.same ((Keeps.refl (fun _ => False) wr).alloc (.cells #[.int .i64 x.k, .int .u64 x.c, .int .u64 x.v, .int .i64 x.n] 34))) x.c x.v (LL1.out.wf x (List.mem_of_getElem? hx)))
        have e0 := Lib.hid (aWrite_MR D x.c x.v)
        clear K q0 q1 q2 q3 hc hO hx
        obtain ⟨xk, xc, xv, xn⟩ := x
        simp only at d0 d1 d2 d3
        go_wp2_with fail
        refine C1.out.mono ?_
        rintro e w2 ⟨ev, rfl, h2⟩
        have O2 := Lib.hid h2
        clear h2
        go_wp2_with fail
        go_roundw
        case rel => exact ⟨i + 1, _, by go_num, by omega, e0.out.1.trans M0.out, e0.out.2.trans R0.out, O2.out⟩
        case measure => simp [intOf]; omega
      · obtain rfl : i = len1 := by omega
        have b5 : ¬ (i : Int) < (i : Int) := by omega
        have O1 := Lib.hid hO
        clear hO
        have C3 := Lib.hid (mark_fp O1.out (by rw [M0.out]; exact hf1.out))
        go_wp2_with fail
        refine C3.out.mono ?_
        rintro e w4 ⟨rfl, hO⟩
        have K6 := Lib.hid hO.keeps
        clear hO
        go_wp2_with (first | (go_at_call 13; refine (no_err10' _).mono ?_; rintro e w' ⟨rfl, rfl⟩) | (go_at_call 7; refine (alive_any _).mono ?_; rintro e w5 ⟨rfl, k5⟩; have K5 := Lib.hid k5; clear k5))
        go_ret
        exact ⟨rfl, (K6.out.trans_ K5.out).below (Nat.le_refl _) (fun _ _ h => h)⟩
  obtain ⟨m, hm⟩ : ∃ m, A.M.length + 1 = m := ⟨_, rfl⟩
  obtain ⟨n, hmn⟩ : ∃ n, m + 1 = n := ⟨_, rfl⟩
  have hm' := Lib.hid hm
  have hm20 : m ≤ 20 := by omega
  have wm : IntKind.i64.wrap ((m : Int) + 1) = (n : Int) := by rw [show (m : Int) + 1 = (n : Int) by omega]; exact IntWalk.i64_in _ (by omega)
  have hb : ((n : Int) != (n : Int)) = false := by simp
  have e1 : aMark A = ({ A with M := A.M ++ [A.W] }, m, 0) := by
    rcases aMark_cases A with ⟨_, h⟩ | ⟨h, _⟩
    · omega
    · rw [h, hm'.out]
  have C2 := Lib.hid (mark_p hO e1)
  have hw5 := hO.ok.wfew
  clear hO e1
  go_wp2_with fail
  refine C2.out.mono ?_
  rintro e w3 ⟨ev, rfl, hT, hO⟩
  obtain rfl := hT.nil
  obtain ⟨B, hB⟩ : ∃ B : AS, B = { A with M := A.M ++ [A.W] } := ⟨_, rfl⟩
  rw [← hB] at hO
  have HB := Lib.hid hB
  have O0 := Lib.hid hO
  clear hO hT hB
  go_wp2_with fail
  go_loopw [43] (fun iv wr => ∃ (i : Nat) (D : AS), iv = .int .i64 i ∧ i ≤ len1 ∧ D.M = B.M ∧ D.R = B.R ∧ OnP w wr s D (fun v => True ∧ Row2 .u64 60 v u1 A.W)) (fun iv _ => len1 - (intOf iv).toNat)
  case atStart => exact ⟨0, B, rfl, Nat.zero_le _, rfl, rfl, O0.out⟩
  case round =>
    clear O0
    obtain ⟨i, D, rfl, hi, hM, hR, hO⟩ := hrel
    have M0 := Lib.hid hM
    have R0 := Lib.hid hR
    clear hM hR
    by_cases hlt : i < len1
    · have b5 : (i : Int) < (len1 : Int) := by omega
      obtain ⟨b, o, rfl, hc⟩ := LL1.out.at_ (by omega)
      obtain ⟨x, hx⟩ : ∃ x, L1[i]? = some x := ⟨_, List.getElem?_eq_getElem (by rw [LL1.out.len]; exact hlt)⟩
      obtain ⟨q0, q1, q2, q3⟩ := hc i x hx
      have K := hO.keeps
      have d0 := (K.cell (cell_lt q0) id).trans q0
      have d1 := (K.cell (cell_lt q1) id).trans q1
      have d2 := (K.cell (cell_lt q2) id).trans q2
      have d3 := (K.cell (cell_lt q3) id).trans q3
      have C1 := Lib.hid (write_p (hO.same ((Keeps.refl (fun _ => False) wr).alloc (.cells #[.int .i64 x.k, .int .u64 x.c, .int .u64 x.v, .int .i64 x.n] 34))) x.c x.v (LL1.out.wf x (List.mem_of_getElem? hx)))
      have e0 := Lib.hid (aWrite_MR D x.c x.v)
      clear K q0 q1 q2 q3 hc hO hx
      obtain ⟨xk, xc, xv, xn⟩ := x
      simp only at d0 d1 d2 d3
      go_wp2_with fail
      refine C1.out.mono ?_
      rintro e w2 ⟨ev, rfl, h2⟩
      have O2 := Lib.hid h2
      clear h2
      go_wp2_with fail
      go_roundw
      case rel => exact ⟨i + 1, _, by go_num, by omega, e0.out.1.trans M0.out, e0.out.2.trans R0.out, O2.out⟩
      case measure => simp [intOf]; omega
    · obtain rfl : i = len1 := by omega
      have b5 : ¬ (i : Int) < (i : Int) := by omega
      have O1 := Lib.hid hO
      clear hO
      have M0 := Lib.hid (show D.M = A.M ++ [A.W] by rw [M0.out, HB.out])
      by_cases hfull2 : 20 ≤ D.M.length
      · have C3 := Lib.hid (mark_fp O1.out hfull2)
        clear hfull2
        go_wp2_with fail
        refine C3.out.mono ?_
        rintro e w4 ⟨rfl, hO⟩
        have K6 := Lib.hid hO.keeps
        clear hO
        go_wp2_with fail
        refine (no_nil _).mono ?_
        rintro e w' ⟨rfl, rfl⟩
        go_wp2_with fail
        refine (no_err10' _).mono ?_
        rintro e w' ⟨rfl, rfl⟩
        go_wp2_with (first | (go_at_call 7; refine (alive_any _).mono ?_; rintro e w5 ⟨rfl, k5⟩; have K5 := Lib.hid k5; clear k5))
        go_ret
        exact ⟨rfl, (K6.out.trans_ K5.out).below (Nat.le_refl _) (fun _ _ h => h)⟩
      · clear R0
        have hD : D.M = A.M ++ [A.W] := M0.out
        have hDl : D.M.length = m := by rw [hD]; simp [hm'.out]
        have e2 : aMark D = ({ D with M := D.M ++ [D.W] }, n, 0) := by
          rcases aMark_cases D with ⟨_, h⟩ | ⟨h, _⟩
          · omega
          · rw [h, hDl, hmn]
        have C3 := Lib.hid (mark_p O1.out e2)
        have HD := Lib.hid hD
        clear e2 hD
        go_wp2_with fail
        refine C3.out.mono ?_
        rintro e w4 ⟨ev, rfl, hT, hO⟩
        obtain rfl := hT.nil
        have O0 := Lib.hid hO
        obtain ⟨F0, hF0⟩ : ∃ F0 : AS, F0 = { D with M := D.M ++ [D.W] } := ⟨_, rfl⟩
        rw [← hF0] at O0
        have HF0 := Lib.hid hF0
        clear hT hO hF0
        go_wp2_with (first | (go_at_call 13; refine (no_nil _).mono ?_; rintro e w' ⟨rfl, rfl⟩))
        go_loopw [70] (fun iv wr => ∃ (i : Nat) (D : AS), iv = .int .i64 i ∧ i ≤ len2 ∧ D.M = F0.M ∧ D.R = F0.R ∧ OnP w wr s D (fun v => True ∧ Row2 .u64 60 v u1 A.W)) (fun iv _ => len2 - (intOf iv).toNat)
        case atStart => exact ⟨0, F0, rfl, Nat.zero_le _, rfl, rfl, O0.out⟩
        case round =>
          clear O0
          obtain ⟨i, D', rfl, hi, hM, hR, hO⟩ := hrel
          have M0 := Lib.hid hM
          have R0 := Lib.hid hR
          clear hM hR
          by_cases hlt : i < len2
          · have b5 : (i : Int) < (len2 : Int) := by omega
            obtain ⟨b, o, rfl, hc⟩ := LL2.out.at_ (by omega)
            obtain ⟨x, hx⟩ : ∃ x, L2[i]? = some x := ⟨_, List.getElem?_eq_getElem (by rw [LL2.out.len]; exact hlt)⟩
            obtain ⟨q0, q1, q2, q3⟩ := hc i x hx
            have K := hO.keeps
            have d0 := (K.cell (cell_lt q0) id).trans q0
            have d1 := (K.cell (cell_lt q1) id).trans q1
            have d2 := (K.cell (cell_lt q2) id).trans q2
            have d3 := (K.cell (cell_lt q3) id).trans q3
            have C1 := Lib.hid (write_p (hO.same ((Keeps.refl (fun _ => False) wr).alloc (.cells #[.int .i64 x.k, .int .u64 x.c, .int .u64 x.v, .int .i64 x.n] 34))) x.c x.v (LL2.out.wf x (List.mem_of_getElem? hx)))
            have e0 := Lib.hid (aWrite_MR D' x.c x.v)
            clear K q0 q1 q2 q3 hc hO hx
            obtain ⟨xk, xc, xv, xn⟩ := x
            simp only at d0 d1 d2 d3
            go_wp2_with fail
            refine C1.out.mono ?_
            rintro e w2 ⟨ev, rfl, h2⟩
            have O2 := Lib.hid h2
            clear h2
            go_wp2_with fail
            go_roundw
            case rel => exact ⟨i + 1, _, by go_num, by omega, e0.out.1.trans M0.out, e0.out.2.trans R0.out, O2.out⟩
            case measure => simp [intOf]; omega
          · obtain rfl : i = len2 := by omega
            have b5 : ¬ (i : Int) < (i : Int) := by omega
            have O1 := Lib.hid hO
            clear hO
            have hFM : D'.M = A.M ++ [A.W] ++ [D.W] := by rw [M0.out, HF0.out]; show D.M ++ [D.W] = _; rw [HD.out]
            have hFl : D'.M.length = n := by rw [hFM]; simp; omega
            have e4 : aKeep D' n = ({ D' with M := A.M ++ [A.W] }, 0) := by
              unfold aKeep
              rw [if_neg (by omega)]
              have : ((n : Int)).toNat - 1 = m := by omega
              rw [this, hFM, List.take_left' (by simp [hm'.out])]
            have hm2 : (A.M ++ [A.W]).length = m := by simp [hm'.out]
            have e5 : aKeep { D' with M := A.M ++ [A.W] } n = ({ D' with M := A.M ++ [A.W] }, 6) := by
              unfold aKeep
              rw [if_pos (.inr (by show ((A.M ++ [A.W]).length : Int) < n; omega))]
            have e6 : aBack { D' with M := A.M ++ [A.W] } m = ({ D' with W := A.W, M := A.M }, 0) := by
              unfold aBack
              rw [if_neg (by show ¬ ((m : Int) < 1 ∨ ((A.M ++ [A.W]).length : Int) < m); omega)]
              have h1 : ((m : Int)).toNat - 1 = A.M.length := by have := hm'.out; omega
              show (({ D' with W := (A.M ++ [A.W]).getD (((m : Int)).toNat - 1) [], M := (A.M ++ [A.W]).take (((m : Int)).toNat - 1) } : AS), 0) = _
              rw [h1, List.take_left' rfl]
              simp
            have E4 := Lib.hid e4
            have E5 := Lib.hid e5
            have E6 := Lib.hid e6
            have few := Lib.hid (show D'.W.length ≤ 500 ∧ D'.R.length ≤ 500 ∧ A.W.length ≤ 500 from ⟨O1.out.ok.wfew, O1.out.ok.rfew, hw5⟩)
            have C4 := Lib.hid (writes_p O1.out)
            clear e4 e5 e6 hFM hFl hm2 O1 M0 R0
            go_wp2_with fail
            refine C4.out.mono ?_
            rintro e w6 ⟨u2, rfl, hO⟩
            have C5 := Lib.hid (reads_p hO)
            clear hO
            go_wp2_with fail
            refine C5.out.mono ?_
            rintro e w7 ⟨u3, rfl, hO⟩
            have C6 := Lib.hid (keep_p hO n E4.out)
            clear hO
            go_wp2_with fail
            refine C6.out.mono ?_
            rintro e w8 ⟨ev, rfl, hT, hO⟩
            obtain rfl := hT.nil
            have C7 := Lib.hid (writes_p hO)
            clear hT hO
            go_wp2_with (first | (go_at_call 13; refine (no_nil _).mono ?_; rintro e w' ⟨rfl, rfl⟩))
            refine C7.out.mono ?_
            rintro e w9 ⟨u4, rfl, hO⟩
            have O9 := Lib.hid hO
            have c8 := sw_any hO.p.2 hO.p.1.1.2 (Nat.le_trans few.out.1 (by decide))
            rw [show decide (D'.W = D'.W) = true from decide_eq_true rfl] at c8
            have C8 := Lib.hid c8
            clear hO c8
            go_wp2_with fail
            refine C8.out.mono ?_
            rintro e w10 ⟨rfl, hK⟩
            have C9 := Lib.hid (reads_p (O9.out.same hK))
            clear hK
            go_wp2_with fail
            refine C9.out.mono ?_
            rintro e w11 ⟨u5, rfl, hO⟩
            have O11 := Lib.hid hO
            have c10 := sr_any hO.p.2 hO.p.1.1.2 (Nat.le_trans few.out.2.1 (by decide))
            rw [show decide (D'.R = D'.R) = true from decide_eq_true rfl] at c10
            have C10 := Lib.hid c10
            clear hO c10
            go_wp2_with fail
            refine C10.out.mono ?_
            rintro e w12 ⟨rfl, hK⟩
            have C11 := Lib.hid (keep_p (O11.out.same hK) n E5.out)
            clear hK
            go_wp2_with fail
            refine C11.out.mono ?_
            rintro e w13 ⟨ev, rfl, hT, hO⟩
            have N13 := Lib.hid (no_err6 hT)
            have C12 := Lib.hid (back_p hO m E6.out)
            clear hT hO
            go_wp2_with (first | (go_at_call 13; refine N13.out.mono ?_; rintro e w' ⟨rfl, rfl⟩))
            refine C12.out.mono ?_
            rintro e w14 ⟨ev, rfl, hT, hO⟩
            obtain rfl := hT.nil
            have C13 := Lib.hid (writes_p hO)
            clear hT hO
            go_wp2_with (first | (go_at_call 13; refine (no_nil _).mono ?_; rintro e w' ⟨rfl, rfl⟩))
            refine C13.out.mono ?_
            rintro e w15 ⟨u6, rfl, hO⟩
            have K15 := Lib.hid hO.keeps
            have c14 := sw_any hO.p.2 hO.p.1.1.1.1.1.2 (Nat.le_trans few.out.2.2 (by decide))
            rw [show decide (A.W = A.W) = true from decide_eq_true rfl] at c14
            have C14 := Lib.hid c14
            clear hO c14
            go_wp2_with fail
            refine C14.out.mono ?_
            rintro e w16 ⟨rfl, hK⟩
            have K6 := Lib.hid (K15.out.trans hK fun _ _ => id)
            clear hK
            go_wp2_with (first | (go_at_call 7; refine (alive_any _).mono ?_; rintro e w5 ⟨rfl, k5⟩; have K5 := Lib.hid k5; clear k5))
            go_ret
            exact ⟨rfl, (K6.out.trans_ K5.out).below (Nat.le_refl _) (fun _ _ h => h)⟩

theorem setsKeep_et : Tryd.prog.globalNamed "errors.errorType" = some 0 := by kernel_rfl
theorem setsKeep_rt : (Tryd.prog.cutTypes.find? (·.1 == "internal/reflectlite.rtype")).map (·.2) = some 114 := by kernel_rfl
theorem setsKeep_oneRow : ((List.range 176).filter fun t => Tryd.prog.rowNamed t [101, 114, 114, 111, 114]) = [41] := by kernel_rfl
theorem setsKeep_size : Tryd.prog.types.size = 176 := by kernel_rfl

/-- What the listed variable gives the walk. -/
theorem setsKeep_glob {W : World} (h : laidMetH Tryd.prog Rows.setsKeepRow.laid W) : Glob W := by
  have h' : laidMet Tryd.prog [] W ∧ handlesMet Tryd.prog Rows.setsKeepRow.laid W := h
  obtain ⟨name, u, ty, e1, e2, e3, e4, e5⟩ := h'.2 _ (List.mem_singleton.2 rfl)
  have en : name = [101, 114, 114, 111, 114] := (Option.some.inj e1).symm
  subst en
  obtain rfl := Option.some.inj (setsKeep_rt.symm.trans e2)
  have hm : ty ∈ (List.range 176).filter fun t => Tryd.prog.rowNamed t [101, 114, 114, 111, 114] := List.mem_filter.2 ⟨List.mem_range.2 (by rw [← setsKeep_size]; exact e3), e4⟩
  rw [setsKeep_oneRow] at hm
  obtain rfl := List.mem_singleton.1 hm
  have hh : typeHandle Tryd.prog 41 = .pointer (some ⟨1, 41, none⟩) := by kernel_rfl
  rw [hh] at e5
  unfold Glob
  simpa using World.var?_cell setsKeep_et e5 0

/-- A world that meets the condition: the settled one, the variable's cell laid. -/
noncomputable def setsKeep_laidWorld (os : Os) : World :=
  let w0 := World.holding Tryd.prog os ⟨#[], #[], []⟩
  { w0 with heap := w0.heap.modify 0 fun
      | .cells _ t frozen => .cells #[.iface 114 (.agg #[.pointer (some ⟨1, 41, none⟩)])] t frozen
      | o => o }
theorem setsKeep_met (os : Os) (args : Array Value) : laidMetH Tryd.prog Rows.setsKeepRow.laid ((setsKeep_laidWorld os).forCall (fun _ _ => 0) ⟨#[], args, []⟩).memory :=
  laidMetH_of_parts (laidMet_nil _ _) (by kernel_rfl)

theorem setsKeep_own : ownKnob Tryd.prog.godebug = none := by kernel_rfl
theorem setsKeep_laidOut : laidOutB Tryd.prog = true := by kernel_rfl

set_option maxRecDepth 100000 in
theorem setsKeep_lifted (os : Os) (started : os.Started) (H : Type) (enc : TypeId × Value → H) :
    ReturnsInHanded {} Tryd.checked os 5 .any (fun w args => (Rows.setsKeepSpec.pre enc Tryd.prog Tryd.f5 [] false w args ∧ laidMetH Tryd.prog Rows.setsKeepRow.laid w) ∧ sizedMet enc Tryd.prog Tryd.f5 (OpenSpec.ofChange Rows.setsKeepSpec) false w args)
      (Rows.setsKeepSpec.post enc Tryd.prog Tryd.f5 false true false false) := by
  refine returnsInHanded_of_change_and (C := Tryd.checked) (X := fun w _ => laidMetH Tryd.prog Rows.setsKeepRow.laid w) (fun _ _ _ hh h => h.of_heap hh) setsKeep_own started (by kernel_rfl) Tryd.func5
    (ChangeSpec.witness_at (enc := enc) (C := Tryd.checked) (os := os) (X := fun w _ => laidMetH Tryd.prog Rows.setsKeepRow.laid w) false (setsKeep_laidWorld os) #[.slice none 0 0, .slice none 0 0, .slice none 0 0] 8 rfl (by kernel_rfl) (by kernel_rfl) (by kernel_rfl) (by kernel_rfl) (by kernel_rfl) (setsKeep_met os _)) ?_
  intro W base args ds gs before hval0 hW hcnd _ hL _
  have hGl := setsKeep_glob hL
  clear hcnd
  have hval : ∀ (j : Nat) t v, Tryd.f5.params[j]? = some t → args[j]? = some v → Value.okWide Tryd.prog W .any base t v := hval0
  have hW' := hW
  obtain ⟨p, q, hA0, hV, rfl, hfz, hnd⟩ := hW
  have hA : DataW.TrodAll enc Tryd.prog W 0 (fun _ => true) true Tryd.f5.params.toList args.toList ds p := hA0
  rw [Tryd.params5] at hA hval
  obtain ⟨v0, vs0, d0, ds0, p0, q0, hargs, rfl, rfl, h0, r0⟩ := trodAll_cons hA
  obtain ⟨v1, vs1, d1, ds1, p1, q1, rfl, rfl, rfl, h1, r1⟩ := trodAll_cons r0
  obtain ⟨v2, vs2, d2, ds2, p2, q2, rfl, rfl, rfl, h2, r2⟩ := trodAll_cons r1
  obtain ⟨rfl, rfl, rfl⟩ := trodAll_nil r2
  obtain rfl : args = #[v0, v1, v2] := by cases args; simp_all
  obtain ⟨rfl, rfl⟩ := trodVars_none hV
  have k0 := h0
  have lt0 : ∀ x ∈ p0, x.block < W.heap.size := by obtain ⟨m, hm⟩ := k0; exact DataW.trod_lt m _ _ _ hm
  obtain ⟨a0, len0, cap0, rfl⟩ := okWide_slice Tryd.underlying22 (hval 0 22 v0 rfl rfl)
  have w0 : Acts7 W a0 len0 cap0 := by
    obtain ⟨fuel, hf⟩ := h0
    rcases open_slice_fields Tryd.underlying22 Tryd.underlying34 (by kernel_rfl) (by kernel_rfl) hf with ⟨hcs, _⟩ | ⟨x, l, c, m, D, Pl, hcs, _, hl, hm, hmm, _, hi⟩
    · simp [Value.cells] at hcs
      obtain ⟨rfl, rfl, rfl⟩ := hcs
      exact .inl ⟨rfl, rfl, rfl⟩
    · simp [Value.cells] at hcs
      obtain ⟨rfl, rfl, rfl⟩ := hcs
      refine .inr ⟨_, rfl, hl, hm, fun i hlt => ?_⟩
      obtain ⟨ys, n, _, _, _, hf⟩ := hi i (by rw [hmm]; split <;> omega)
      obtain ⟨u0, y0, c0, _, t0⟩ := hf 0 _ rfl
      obtain ⟨z0, e0, _, _⟩ := DataW.trod_int (k := .i64) (by kernel_rfl) t0
      simp at e0
      subst e0
      obtain ⟨u1, y1, c1, _, t1⟩ := hf 1 _ rfl
      obtain ⟨z1, e1, _, g1⟩ := DataW.trod_int (k := .u64) (by kernel_rfl) t1
      simp at e1
      subst e1
      obtain ⟨u2, y2, c2, _, t2⟩ := hf 2 _ rfl
      obtain ⟨z2, e2, _, _⟩ := DataW.trod_int (k := .u64) (by kernel_rfl) t2
      simp at e2
      subst e2
      obtain ⟨u3, y3, c3, _, t3⟩ := hf 3 _ rfl
      obtain ⟨z3, e3, _, _⟩ := DataW.trod_int (k := .i64) (by kernel_rfl) t3
      simp at e3
      subst e3
      exact ⟨z0, z1, z2, z3, c0, c1, c2, c3, g1⟩
  have k1 := h1
  have lt1 : ∀ x ∈ p1, x.block < W.heap.size := by obtain ⟨m, hm⟩ := k1; exact DataW.trod_lt m _ _ _ hm
  obtain ⟨a1, len1, cap1, rfl⟩ := okWide_slice Tryd.underlying22 (hval 1 22 v1 rfl rfl)
  have w1 : Acts7 W a1 len1 cap1 := by
    obtain ⟨fuel, hf⟩ := h1
    rcases open_slice_fields Tryd.underlying22 Tryd.underlying34 (by kernel_rfl) (by kernel_rfl) hf with ⟨hcs, _⟩ | ⟨x, l, c, m, D, Pl, hcs, _, hl, hm, hmm, _, hi⟩
    · simp [Value.cells] at hcs
      obtain ⟨rfl, rfl, rfl⟩ := hcs
      exact .inl ⟨rfl, rfl, rfl⟩
    · simp [Value.cells] at hcs
      obtain ⟨rfl, rfl, rfl⟩ := hcs
      refine .inr ⟨_, rfl, hl, hm, fun i hlt => ?_⟩
      obtain ⟨ys, n, _, _, _, hf⟩ := hi i (by rw [hmm]; split <;> omega)
      obtain ⟨u0, y0, c0, _, t0⟩ := hf 0 _ rfl
      obtain ⟨z0, e0, _, _⟩ := DataW.trod_int (k := .i64) (by kernel_rfl) t0
      simp at e0
      subst e0
      obtain ⟨u1, y1, c1, _, t1⟩ := hf 1 _ rfl
      obtain ⟨z1, e1, _, g1⟩ := DataW.trod_int (k := .u64) (by kernel_rfl) t1
      simp at e1
      subst e1
      obtain ⟨u2, y2, c2, _, t2⟩ := hf 2 _ rfl
      obtain ⟨z2, e2, _, _⟩ := DataW.trod_int (k := .u64) (by kernel_rfl) t2
      simp at e2
      subst e2
      obtain ⟨u3, y3, c3, _, t3⟩ := hf 3 _ rfl
      obtain ⟨z3, e3, _, _⟩ := DataW.trod_int (k := .i64) (by kernel_rfl) t3
      simp at e3
      subst e3
      exact ⟨z0, z1, z2, z3, c0, c1, c2, c3, g1⟩
  have k2 := h2
  have lt2 : ∀ x ∈ p2, x.block < W.heap.size := by obtain ⟨m, hm⟩ := k2; exact DataW.trod_lt m _ _ _ hm
  obtain ⟨a2, len2, cap2, rfl⟩ := okWide_slice Tryd.underlying22 (hval 2 22 v2 rfl rfl)
  have w2 : Acts7 W a2 len2 cap2 := by
    obtain ⟨fuel, hf⟩ := h2
    rcases open_slice_fields Tryd.underlying22 Tryd.underlying34 (by kernel_rfl) (by kernel_rfl) hf with ⟨hcs, _⟩ | ⟨x, l, c, m, D, Pl, hcs, _, hl, hm, hmm, _, hi⟩
    · simp [Value.cells] at hcs
      obtain ⟨rfl, rfl, rfl⟩ := hcs
      exact .inl ⟨rfl, rfl, rfl⟩
    · simp [Value.cells] at hcs
      obtain ⟨rfl, rfl, rfl⟩ := hcs
      refine .inr ⟨_, rfl, hl, hm, fun i hlt => ?_⟩
      obtain ⟨ys, n, _, _, _, hf⟩ := hi i (by rw [hmm]; split <;> omega)
      obtain ⟨u0, y0, c0, _, t0⟩ := hf 0 _ rfl
      obtain ⟨z0, e0, _, _⟩ := DataW.trod_int (k := .i64) (by kernel_rfl) t0
      simp at e0
      subst e0
      obtain ⟨u1, y1, c1, _, t1⟩ := hf 1 _ rfl
      obtain ⟨z1, e1, _, g1⟩ := DataW.trod_int (k := .u64) (by kernel_rfl) t1
      simp at e1
      subst e1
      obtain ⟨u2, y2, c2, _, t2⟩ := hf 2 _ rfl
      obtain ⟨z2, e2, _, _⟩ := DataW.trod_int (k := .u64) (by kernel_rfl) t2
      simp at e2
      subst e2
      obtain ⟨u3, y3, c3, _, t3⟩ := hf 3 _ rfl
      obtain ⟨z3, e3, _, _⟩ := DataW.trod_int (k := .i64) (by kernel_rfl) t3
      simp at e3
      subst e3
      exact ⟨z0, z1, z2, z3, c0, c1, c2, c3, g1⟩
  clear hA0 hval0
  refine (setsKeep_walk a0 len0 cap0 a1 len1 cap1 a2 len2 cap2 W w0 w1 w2 hGl).mono fun e W' ⟨he, bel⟩ => ?_
  subst he
  exact ⟨_, rfl, _, _, _, [], _, [], hW', trodAll_mk1 (shut_bool Tryd.underlying4 _), (trodAll_cons_mk (Below.trod setsKeep_laidOut (by kernel_rfl) (of_decide_eq_true (by kernel_rfl)) k0 bel lt0) (trodAll_cons_mk (Below.trod setsKeep_laidOut (by kernel_rfl) (of_decide_eq_true (by kernel_rfl)) k1 bel lt1) (trodAll_cons_mk (Below.trod setsKeep_laidOut (by kernel_rfl) (of_decide_eq_true (by kernel_rfl)) k2 bel lt2) trodAll_mk0))), rfl, bel.frame _, fun h => by cases h⟩

/-- The statement SetsKeep. -/
theorem setsKeep_holds : Rows.SetsKeepSaid :=
  OpenClaim.holds_of_wide 5 Tryd.f5 rfl rfl rfl rfl rfl rfl rfl ⟨rfl, rfl, rfl, rfl, rfl⟩ rfl rfl rfl rfl rfl (by kernel_rfl) Tryd.func5 (by kernel_rfl)
    (of_decide_eq_true (by kernel_rfl)) (by unfold Func.isWrapper; first | (rw [if_pos (by decide +kernel)]; kernel_rfl) | (rw [if_neg (by decide +kernel)]; exact ⟨rfl, rfl⟩))
    (fun os started H enc _ => setsKeep_lifted os started H enc)
#print axioms setsKeep_holds

/-- The card: the row, what it lists tied to the program's text. -/
theorem setsKeep_card : Rows.SetsKeepCardSaid :=
  Claim7.holds_tied_plain_at .later [] [.handle] true Rows.setsKeepCard.stood.harness true
    setsKeep_holds (fun _ h => by cases h) (by kernel_rfl) (fun _ h => by cases h) setsKeep_row_tie rfl ⟨rfl, rfl⟩ (by kernel_rfl) rfl
    (fun f fn hf hfn => by
      obtain rfl : f = 5 := Option.some.inj ((show Tryd.prog.funcNamed "concord/concordlaw07.SetsKeep" = some 5 by kernel_rfl).symm.trans hf) |>.symm
      obtain rfl : fn = Tryd.f5 := (Option.some.inj (Tryd.func5.symm.trans hfn)).symm
      exact ⟨by kernel_rfl, fun j t ht => by
        rw [Tryd.params5] at ht
        have hm : t ∈ Tryd.f5.params.toList := by rw [Tryd.params5]; simpa using Array.mem_of_getElem? ht
        have hall : (Tryd.f5.params.toList.all fun u => !Tryd.prog.wantsStandIn u) = true := by kernel_rfl
        exact (show Tryd.prog.wantsStandIn t = false by simpa using List.all_eq_true.1 hall t hm)⟩)
    (by kernel_rfl)
#print axioms setsKeep_card
end Go.Proofs.YtkolkimmhlmlgaaDoor
