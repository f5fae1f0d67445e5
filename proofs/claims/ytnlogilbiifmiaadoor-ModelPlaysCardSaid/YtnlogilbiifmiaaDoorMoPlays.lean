/-
  ModelPlays, for any program's states that keep 'Face': called with any kinds and any calls it answers true, and changes nothing that was there.
-/
import Derived.Test.YtnlogilbiifmiaaDoorMoPlay
namespace Go.Proofs.YtnlogilbiifmiaaDoor
open Go.RowKit Go.Maps Go.Extern.Stop Go.Stop Go.Extern

set_option maxRecDepth 100000 in
set_option maxHeartbeats 4000000 in
theorem plays_any8 {PM : PMem} (F : Face PM) {w : World} {a0 : Option Addr} {len0 cap0 : Nat} {K : List Int} {a1 : Option Addr} {len1 cap1 : Nat} {L : List Act8} (hK : IntL w a0 len0 K) (hL : Act8L w a1 len1 cap1 L) (hg : Glob w) :
    Calls Tryd.prog 3 #[.slice a0 len0 cap0, .slice a1 len1 cap1] w fun e w' => e = .returned (.bool true) ∧ Keeps (fun _ => False) w w' := by
  by_cases h0 : 20 < len0
  · have b0 : (20 : Int) < (len0 : Int) := by omega
    clear hK hL hg
    go_enter Tryd.func3, Tryd.ntmps3
    go_wp2_with (first
      | (go_at_call 7; refine (alive_any8 F _).mono ?_; rintro e w2 ⟨rfl, k5⟩; have K5 := Lib.hid k5; clear k5))
    go_ret
    exact ⟨rfl, K5.out⟩
  have b0 : ¬ (20 : Int) < (len0 : Int) := by omega
  by_cases h1 : 60 < len1
  · have b1 : (60 : Int) < (len1 : Int) := by omega
    clear hK hL hg
    go_enter Tryd.func3, Tryd.ntmps3
    go_wp2_with (first
      | (go_at_call 7; refine (alive_any8 F _).mono ?_; rintro e w2 ⟨rfl, k5⟩; have K5 := Lib.hid k5; clear k5))
    go_ret
    exact ⟨rfl, K5.out⟩
  have b1 : ¬ (60 : Int) < (len1 : Int) := by omega
  have CR := Lib.hid (fun V (k : Keeps (fun _ => False) w V) => rnew8 (cap := cap0) (hK.same k))
  have HG := Lib.hid hg
  by_cases hm : (mNew K).1 = true
  · have CN := Lib.hid (new_on8 (cap := cap0) F hK hm (Keeps.refl _ w))
    have HM := Lib.hid hm
    have LL := Lib.hid hL
    clear hK hm hL hg h0 h1
    go_enter Tryd.func3, Tryd.ntmps3
    go_wp2_with fail
    refine CN.out.mono ?_
    rintro e w1 ⟨s, rfl, hO⟩
    have O1 := Lib.hid hO
    clear hO
    go_wp2_with fail
    refine (CR.out _ O1.out.keeps).mono ?_
    rintro e w2 hR
    obtain ⟨r, rfl, hB⟩ := O1.out.both8 F HM.out hR
    have B1 := Lib.hid hB
    clear hB hR
    go_wp2_with (first
      | (go_at_call 10; refine (no_nil _).mono ?_; rintro e w' ⟨rfl, rfl⟩)
      | (go_at_call 11; refine (place_nil _).mono ?_; rintro e w3 ⟨rfl, k3⟩; have K3 := Lib.hid k3; clear k3)
      | (go_at_call 7; refine (alive_any8 F _).mono ?_; rintro e w4 ⟨rfl, k5⟩; have B4 := Lib.hid (B1.out.same F (K3.out.trans k5 fun _ _ => id)); clear k5))
    go_loopw [57, 5] (fun iv sv wr => ∃ (i : Nat) (A : M8) (s : Nat), iv = .int .i64 i ∧ sv = .pointer (some ⟨s, 0, none⟩) ∧ i ≤ len1 ∧ Both8 PM w wr s r A) (fun iv _ _ => len1 - (intOf iv).toNat)
    case atStart => exact ⟨0, _, s, rfl, rfl, Nat.zero_le _, B4.out⟩
    case round =>
      obtain ⟨i, A, s, rfl, rfl, hi, hB⟩ := hrel
      by_cases hlt : i < len1
      · have b2 : (i : Int) < (len1 : Int) := by omega
        obtain ⟨b, o, rfl, hc⟩ := LL.out.at_ (by omega)
        obtain ⟨x, hx⟩ : ∃ x, L[i]? = some x := ⟨_, List.getElem?_eq_getElem (by rw [LL.out.len]; exact hlt)⟩
        obtain ⟨q0, q1, q2, q3⟩ := hc i x hx
        have K := hB.keeps
        have d0 := (K.cell (cell_lt q0) id).trans q0
        have d1 := (K.cell (cell_lt q1) id).trans q1
        have d2 := (K.cell (cell_lt q2) id).trans q2
        have d3 := (K.cell (cell_lt q3) id).trans q3
        have hwx := LL.out.wf x (List.mem_of_getElem? hx)
        have ka : Keeps (fun _ => False) wr (wr.alloc (.cells #[.int .i64 x.k, .int .i64 x.c, .int .i64 x.key, .int .i64 x.v] 35)) := (Keeps.refl _ wr).alloc _
        have mB : Whole (wr.alloc (.cells #[.int .i64 x.k, .int .i64 x.c, .int .i64 x.key, .int .i64 x.v] 35)) wr.heap.size 35 #[.int .i64 x.k, .int .i64 x.c, .int .i64 x.key, .int .i64 x.v] := Whole.made _ _ _
        have B2 := Lib.hid (hB.same F ka)
        have MB := Lib.hid mB
        clear K q0 q1 q2 q3 hc hB hx ka mB
        obtain ⟨xk, xc, xkey, xv⟩ := x
        simp only at d0 d1 d2 d3 hwx B2 MB
        by_cases h6 : xk = 6
        · subst h6
          go_wp2_with fail
          refine (copy_both8 F B2.out).mono ?_
          rintro e w3 ⟨o2, rfl, hB3, hK3⟩
          have m3 := MB.out.keeps hK3 id
          have e0 := m3.at_ 0
          have e1 := m3.at_ 1
          have e2 := m3.at_ 2
          have e3 := m3.at_ 3
          have C1 := Lib.hid (do_both8 F hB3 HG.out ⟨6, xc, xkey, xv⟩ hwx)
          clear hB3 hK3 m3
          go_wp2_with fail
          refine C1.out.mono ?_
          rintro e w4 ⟨rfl, h2⟩
          have C2 := Lib.hid (is_both8 F h2)
          clear h2
          go_wp2_with fail
          refine C2.out.mono ?_
          rintro e w5 ⟨rfl, h2⟩
          have B3 := Lib.hid h2
          clear h2
          go_wp2_with fail
          go_roundw
          case rel => exact ⟨i + 1, _, o2, by go_num, rfl, by omega, B3.out⟩
          case measure => simp [intOf]; omega
        · have n6 : (xk == 6) = false := by simpa using h6
          have C1 := Lib.hid (do_both8 F B2.out HG.out ⟨xk, xc, xkey, xv⟩ hwx)
          go_wp2_with fail
          refine C1.out.mono ?_
          rintro e w3 ⟨rfl, h2⟩
          have C2 := Lib.hid (is_both8 F h2)
          clear h2
          go_wp2_with fail
          refine C2.out.mono ?_
          rintro e w4 ⟨rfl, h2⟩
          have B3 := Lib.hid h2
          clear h2
          go_wp2_with fail
          go_roundw
          case rel => exact ⟨i + 1, _, s, by go_num, rfl, by omega, B3.out⟩
          case measure => simp [intOf]; omega
      · obtain rfl : i = len1 := by omega
        have b2 : ¬ (i : Int) < (i : Int) := by omega
        have O := Lib.hid hB.keeps
        clear hB
        go_wp2_with fail
        go_ret
        exact ⟨rfl, O.out⟩
  · have hm := Bool.eq_false_iff.2 hm
    have CN := F.new_no (cap := cap0) hK hm
    obtain ⟨f, hf⟩ : ∃ f, (mNew K).2.1 = f := ⟨_, rfl⟩
    obtain ⟨at_, ha⟩ : ∃ a, (mNew K).2.2 = a := ⟨_, rfl⟩
    rw [hf, ha] at CN
    have CN := Lib.hid CN
    have FA := Lib.hid (And.intro hf ha)
    have HM := Lib.hid hm
    clear hK hL hg h0 h1 hm hf ha
    go_enter Tryd.func3, Tryd.ntmps3
    go_wp2_with fail
    refine CN.out.mono ?_
    rintro e w1 ⟨ev, rfl, hT, hK⟩
    have T1 := Lib.hid hT
    have K1 := Lib.hid hK
    clear hT hK
    go_wp2_with fail
    refine (CR.out _ K1.out).mono ?_
    rintro e w2 hR
    rcases hR with ⟨_, rfl, rfl⟩ | ⟨h, _⟩
    · rw [FA.out.1, FA.out.2]
      go_wp2_with (first
        | (go_at_call 10; refine (no_u T1.out).mono ?_; rintro e w' ⟨rfl, rfl⟩)
        | (go_at_call 11; refine (place_u T1.out (HG.out.keeps K1.out id)).mono ?_; rintro e w3 ⟨rfl, k3⟩; have K3 := Lib.hid (K1.out.trans k3 fun _ _ => id); clear k3)
        | (go_at_call 7; refine (alive_any8 F _).mono ?_; rintro e w4 ⟨rfl, k5⟩; have K4 := Lib.hid (K3.out.trans k5 fun _ _ => id); clear k5))
      go_ret
      exact ⟨rfl, K4.out⟩
    · rw [HM.out] at h; cases h
end Go.Proofs.YtnlogilbiifmiaaDoor
