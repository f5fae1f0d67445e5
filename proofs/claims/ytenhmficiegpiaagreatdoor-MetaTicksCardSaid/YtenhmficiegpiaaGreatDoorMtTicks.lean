/-
  MetaTicks: called with any two numbers and any picks, concordlaw06.MetaTicks returns true and changes nothing; the library's variable errors.errorType holds what the program's text lays in it (the card ties it). The card says nothing of code outside the pruned copy.
-/
import Derived.Test.YtenhmficiegpiaaGreatDoorMtTickW
import Derived.Test.YtenhmficiegpiaaGreatDoorTie
import Derived.Test.YtenhmficiegpiaaGreatDoorCards
import Derived.ProofKit
import Derived.OpenShut
import Derived.ShutString
import Derived.ChangeOld
import Derived.RowKitTokens
import Derived.LaidLaws
import Derived.LaidHandle
import Derived.LaidMore
import Derived.Stop.Joined
import Derived.SevenTiedAt
import Derived.Lib.SmallJoins
namespace Go.Proofs.YtenhmficiegpiaaGreatDoor
open Go.RowKit Go.Extern.Stop Go.Stop Go.Extern
open Go.ChangeShapes Go.WideShapes Go.ChangeAt

theorem scM_viewk : (view scM).k = 0 := rfl

set_option maxRecDepth 100000 in
set_option maxHeartbeats 8000000 in
theorem metaTicks_walk (a0 a1 : Int) (a2 : Option Addr) (len2 cap2 : Nat) (w : World) (_ : (Lit.int .i64 a0).wf = true) (_ : (Lit.int .i64 a1).wf = true) (w2 : Nums w a2 len2) (hG : Glob w) :
    Calls Tryz.prog 5 #[.int .i64 a0, .int .i64 a1, .slice a2 len2 cap2] w fun e w' => e = .returned (.bool true) ∧ Below w.heap.size w w' := by
  have hb : -4 < a0.tmod 4 ∧ a0.tmod 4 < 4 := ⟨by have := Int.lt_tmod_of_pos a0 (b := 4) (by decide); omega, Int.tmod_lt_of_pos a0 (by decide)⟩
  have hc : -7 < a1.tmod 7 ∧ a1.tmod 7 < 7 := ⟨by have := Int.lt_tmod_of_pos a1 (b := 7) (by decide); omega, Int.tmod_lt_of_pos a1 (by decide)⟩
  obtain ⟨hb1, hb2⟩ := hb
  obtain ⟨hc1, hc2⟩ := hc
  obtain ⟨n, hn, hn2, hn4⟩ : ∃ n : Nat, 1 + (a0.tmod 4 + 4) % 4 = (n : Int) ∧ 1 ≤ n ∧ n ≤ 4 := ⟨(1 + (a0.tmod 4 + 4) % 4).toNat, by omega, by omega, by omega⟩
  obtain ⟨m, hm, hm6⟩ : ∃ m : Nat, (a1.tmod 7 + 7) % 7 = (m : Int) ∧ m ≤ 6 := ⟨((a1.tmod 7 + 7) % 7).toNat, by omega, by omega⟩
  have hn2' : 1 + a0.tmod 4 % 4 = (n : Int) := by omega
  have hm2' : a1.tmod 7 % 7 = (m : Int) := by omega
  have hn' := Lib.hid hn
  have hm' := Lib.hid hm
  have hG' := Lib.hid hG
  have hp := Lib.hid w2
  have hlb : (len2 : Int) ≤ 9223372036854775807 := by have := Cells1.le w2; unfold maxLen at this; omega
  have hnI : (n : Int) ≤ 4 := by omega
  have hnI2 : (1 : Int) ≤ (n : Int) := by omega
  have hmI : (m : Int) ≤ 6 := by omega
  have hmI2 : (0 : Int) ≤ (m : Int) := by omega
  have hNM : n * m ≤ 24 := Nat.mul_le_mul hn4 hm6
  have hNI : (n : Int) * (m : Int) ≤ 24 := by
    have h : ((n * m : Nat) : Int) ≤ 24 := by omega
    rw [Int.natCast_mul] at h
    exact h
  have hNI0 : (0 : Int) ≤ (n : Int) * (m : Int) := Int.mul_nonneg (by omega) (by omega)
  have hms : ∀ w, (Instr.makeSlice 22 (.int .i64 ((n : Int) * (m : Int) + 1)) (.int .i64 ((n : Int) * (m : Int) + 1))).run Tryz.prog w = .ok (.slice (some ⟨w.heap.size, 0, none⟩) (n * m + 1) (n * m + 1)) (w.alloc (.cells (metC (n * m + 1) []) 3)) := fun w => by
    have h := run_makeInts (n * m + 1) (by omega) w
    rw [Int.natCast_add, Int.natCast_mul] at h
    exact h
  have hI3 := Lib.hid (info_parts info_rowC)
  clear hn hm hG w2
  go_enter Tryz.func5, Tryz.ntmps5
  go_wp2_with fail
  refine (scene_any w hG'.out).mono ?_
  rintro e W0 ⟨b, a, X, row, rfl, hS, hrow, hK, hX, hrw, hrX⟩
  have S0 := Lib.hid hS
  have K0 := Lib.hid hK
  have X0 := Lib.hid hX
  have RW := Lib.hid (And.intro hrow (And.intro hrw hrX))
  clear hS hrow hK hX hrw hrX
  by_cases hlen : (100 : Int) < (len2 : Int)
  · go_wp2_with (go_at_call 8; refine (alive_any6 W0 S0.out.glob).mono ?_; rintro e W4 ⟨rfl, hK⟩; have K4 := Lib.hid (K0.out.trans_ hK); clear hK)
    go_ret
    exact ⟨rfl, K4.out.below (Nat.le_refl _) fun _ _ => id⟩
  · have hlen2 : (len2 : Int) ≤ 100 := by omega
    have L0 := Lib.hid (LR2.nil W0)
    go_wp2_with fail
    go_loopw [10, 11] (fun lv iv wr => ∃ (i : Nat) (xs : List Value), iv = .int .i64 (i : Int) ∧ i ≤ n ∧ LR2 W0 wr lv (tickLs i m) xs) (fun _ iv _ => n - (intOf iv).toNat)
    case atStart => exact ⟨0, [], rfl, Nat.zero_le _, L0.out⟩
    case round =>
      obtain ⟨i, xs, rfl, hi, hR⟩ := hrel
      obtain ⟨wo, rfl⟩ : ∃ wo : World, wo = wr := ⟨_, rfl⟩
      have R1 := Lib.hid hR
      obtain ⟨lo, lc, hlv, hlo⟩ := hR.head
      rw [tickLs_len] at hlv hlo
      subst hlv
      clear hR
      by_cases hlt : i < n
      · have hltI : (i : Int) < (n : Int) := by omega
        have hi0 : (0 : Int) ≤ (i : Int) := by omega
        go_wp2_with fail
        go_loopw [12, 57] (fun xv jv w2 => ∃ j : Nat, jv = .int .i64 (j : Int) ∧ j ≤ m ∧ CalRow w2 xv (List.replicate j c2) ∧ Keeps (fun _ => False) wo w2 ∧ ∀ g, xv.ownBlock = some g → wo.heap.size ≤ g) (fun _ jv _ => m - (intOf jv).toNat)
        case atStart => exact ⟨0, rfl, Nat.zero_le _, World.ownsRow_nil _ _ _ _, Keeps.refl _ _, fun g hg => (by cases hg)⟩
        case round =>
          obtain ⟨j, rfl, hj, hx, hK, hf⟩ := hrel
          rename World => w2
          obtain ⟨xo, xc, hxv, _⟩ := hx.shape
          rw [List.length_replicate] at hxv
          subst hxv
          have HX := Lib.hid hx
          have HK := Lib.hid hK
          have HF := Lib.hid hf
          clear hx hK hf
          by_cases hlj : j < m
          · have hljI : (j : Int) < (m : Int) := by omega
            have hj0 : (0 : Int) ≤ (j : Int) := by omega
            go_wp2_with (at_builtin; refine wpList_append_cals _ rfl _ _ rfl (.slice xo j xc) (List.replicate j c2) [c2] (j + 1) (by simp) rfl (HX.out.keeps ((Keeps.refl (fun _ => False) w2).alloc (.cells #[.int .i64 2, .int .i64 0, .int .i64 0, .int .i64 0, .int .u64 0] 31)) fun _ _ => id) ⟨w2.heap.size, 0, none⟩ 1 rfl (lit_cells (Whole.made w2 31 #[.int .i64 2, .int .i64 0, .int .i64 0, .int .i64 0, .int .u64 0])) (by omega) ?_; intro co cc V hO hG hl; have C1 := Lib.hid (And.intro hO (And.intro hG hl)); clear hO hG hl)
            go_roundw
            case rel =>
              obtain ⟨hO, hG, hl⟩ := C1.out
              refine ⟨j + 1, by go_num, by omega, by rw [List.replicate_succ']; exact hO, (HK.out.alloc _).trans (keeps_row hG) fun x hx hs => by have := HF.out x hs; omega, fun g hg => ?_⟩
              rcases hl with hl | hl
              · rw [hl] at hg; exact HF.out g hg
              · rw [hl] at hg
                injection hg with hg
                have := (HK.out.alloc (.cells #[.int .i64 2, .int .i64 0, .int .i64 0, .int .i64 0, .int .u64 0] 31)).size
                omega
            case measure => simp [intOf]; omega
          · obtain rfl : j = m := by omega
            obtain ⟨i0, hi0', hz0, hz1, hz2⟩ := hI3.out
            have J1 := Lib.hid (And.intro hi0' (And.intro hz0 (And.intro hz1 hz2)))
            have own := Lib.hid (show World.ownsRow (w2.alloc (.cells #[.slice xo j xc] 32)) 0 32 1 (.slice lo i lc) i xs from by
              have h := R1.out.row
              rw [tickLs_len] at h
              exact ownsRow_keeps h (HK.out.alloc _) fun _ _ => id)
            clear hi0' hz0 hz1 hz2
            go_wp2_with (at_builtin; refine wpList_append_mine _ rfl _ _ 29 rfl 32 i0 (.slice none 0 0) 24 Tryz.underlying29 J1.out.1 J1.out.2.1 J1.out.2.2.1 J1.out.2.2.2 rfl (.slice lo i lc) i xs rfl own.out ⟨w2.heap.size, 0, none⟩ 1 (.slice xo j xc) rfl (cell_one _ _ _) rfl (by unfold maxLen; omega) (by omega) ?_; intro g1 cc1 V1 hO1 hG1 hl1; have A1 := Lib.hid hO1; have A2 := Lib.hid hG1; have A3 := Lib.hid hl1; clear hO1 hG1 hl1)
            go_roundw
            case rel =>
              refine ⟨i + 1, xs ++ [.slice xo j xc], by go_num, by omega, ?_⟩
              rw [tickLs_succ]
              exact R1.out.next (tickLs_len i j) HK.out HX.out HF.out A1.out A2.out A3.out
            case measure => simp [intOf]; omega
      · obtain rfl : i = n := by omega
        obtain ⟨lg, hlg⟩ := hlo (by omega)
        subst hlg
        have KR := Lib.hid R1.out.k
        have hrun := Lib.hid (show Calls Tryz.prog 9 #[.pointer (some ⟨b, 0, none⟩), .int .u64 1, .slice (some ⟨row, 0, none⟩) 1 1, .slice (some ⟨lg, 0, none⟩) i lc, .slice a2 len2 cap2] wo (fun e w' => RunTo wo b a i (S0of scM (tickLs i m)) (scM.cnt + 2200) X e w') from by
          have h := run_any6 (cap1 := cap2) (lc := lc) (ls := tickLs i m) (a1 := a2) (a1n := len2) (row := row) (lg := lg) (tickLs_ok hm6) (by rw [tickLs_len]; omega) (by rw [tickLs_len]; omega) (S0.out.same KR.out) rfl (by decide) ((KR.out.cell (p := ⟨row, 0, none⟩) (cell_lt RW.out.1) id).trans RW.out.1) RW.out.2.2
            (R1.out.rows fun x hx => S0.out.old x hx) (Cells1.keeps hp.out (K0.out.trans_ KR.out) fun _ _ => id)
            (fun hl x hx hXx => by
              obtain ⟨cb, off, v, h1, h2, _⟩ := Cells1.at_ hp.out 0 hl
              rw [h1] at hx
              injection hx with hx
              subst hx
              have := X0.out _ hXx
              have := cell_lt h2
              simp only at *
              omega) (by omega)
          rw [tickLs_len] at h
          exact h)
        have hin := Lib.hid (S0_inv (m := scM) rfl S0.out.mm.1 (tickLs_ok (n := i) hm6) i)
        go_wp2_with fail
        refine hrun.out.mono ?_
        rintro e W2 ⟨v, us, Sf, X', rfl, hv, hul, hus, hI, hS2, hC2, hM2⟩
        obtain ⟨L, hL⟩ : ∃ L : Nat → List Ans, ∀ j, j < i → Sf.p j = .ret (L j) ∧ ∃ u, us[j]? = some u ∧ ARow W2 u (L j) := by
          have hc : ∀ j, ∃ l : List Ans, j < i → Sf.p j = .ret l ∧ ∃ u, us[j]? = some u ∧ ARow W2 u l := fun j => by
            by_cases hj : j < i
            · obtain ⟨u, l, h1, h2, h3⟩ := hus j hj
              exact ⟨l, fun _ => ⟨h2, u, h1, h3⟩⟩
            · exact ⟨[], fun h => absurd h hj⟩
          exact ⟨fun j => Classical.choose (hc j), fun j => Classical.choose_spec (hc j)⟩
        obtain ⟨hinv2, hT⟩ := ticks_end (times := m) (by omega) scM_viewk hin.out hI fun k hk => (hL k hk).1
        obtain ⟨vg, vc, hvv, _⟩ : ∃ g c, v = .slice (some ⟨g, 0, none⟩) i c ∧ True := by
          rcases hv.2 with ⟨_, hn0⟩ | ⟨g, cap, cur, hv', _⟩
          · omega
          · exact ⟨g, cap, hv', trivial⟩
        subst hvv
        have HV := Lib.hid hv
        have HL := Lib.hid hL
        have HT := Lib.hid hT
        have hcN : (view Sf.m).k ≤ i * m := hT.le
        have S2 := Lib.hid hS2
        have hst2 := Lib.hid (show Sf.m.st = scM.st from hinv2.st)
        have hC2' := Lib.hid (show Sf.m.cnt ≤ 3000 from Nat.le_trans hC2 (by rw [scM_cnt]; omega))
        have hM := Lib.hid (show Keeps (fun _ => False) w W2 from (K0.out.trans_ KR.out).trans hM2.keeps fun x hx hz => by have := X0.out x hz; omega)
        have rw2 := Lib.hid (show W2.cell? ⟨row, 0, none⟩ = some (.int .u64 3) from (hM2.keeps.cell (p := ⟨row, 0, none⟩) (Nat.lt_of_lt_of_le (cell_lt RW.out.1) KR.out.size) RW.out.2.2).trans ((KR.out.cell (p := ⟨row, 0, none⟩) (cell_lt RW.out.1) id).trans RW.out.1))
        have hXr := Lib.hid (show ¬ X' row from fun h => by
          rcases hM2.new row h with h | h
          · exact RW.out.2.2 h
          · have h1 : row < W0.heap.size := cell_lt RW.out.1
            have h2 := KR.out.size
            omega)
        have hX2 := Lib.hid (show ∀ x, X' x → w.heap.size ≤ x from fun x h => by
          rcases hM2.new x h with h | h
          · exact X0.out x h
          · have h2 := KR.out.size
            have h3 := K0.out.size
            omega)
        clear hrun hv hus hI hS2 hC2 hM2 hinv2 hL hT
        obtain ⟨Wm, hWm⟩ : ∃ V, V = W2.alloc (.cells (metC (i * m + 1) []) 3) := ⟨_, rfl⟩
        have km : Keeps (fun _ => False) W2 Wm := by rw [hWm]; exact (Keeps.refl _ _).alloc _
        have mm0 : Whole Wm W2.heap.size 3 (metC (i * m + 1) []) := by rw [hWm]; exact Whole.made _ _ _
        have KM := Lib.hid km
        have MM0 := Lib.hid mm0
        have hWm' := Lib.hid hWm
        clear hWm km mm0
        go_wp2_with fail
        rw [← hWm'.out]
        go_loopw [16, 86] (fun dv iv w3 => ∃ k : Nat, k ≤ i ∧ iv = .int .i64 (k : Int) ∧ dv = .int .i64 ((pre L k).length : Int) ∧ Whole w3 W2.heap.size 3 (metC (i * m + 1) (pre L k)) ∧ Keeps (fun x => x = W2.heap.size) Wm w3) (fun _ iv _ => i - (intOf iv).toNat)
        case atStart => exact ⟨0, Nat.zero_le _, rfl, rfl, MM0.out, Keeps.refl _ _⟩
        case round =>
          obtain ⟨k, hk, rfl, rfl, hWk, hK3⟩ := hrel
          rename World => w3
          have MK := Lib.hid hWk
          have K3 := Lib.hid hK3
          clear hWk hK3
          by_cases hlk : k < i
          · have hlkI : (k : Int) < (i : Int) := by omega
            have hk0 : (0 : Int) ≤ (k : Int) := by omega
            obtain ⟨_, u, hu, hA⟩ := HL.out k hlk
            obtain ⟨uo, uc, huv, hug⟩ := hA.shape
            subst huv
            have hcu0 : W2.cell? ⟨vg, k, none⟩ = some _ := (World.ownsRow.cellAt HV.out k (by omega)).trans hu
            have hcu1 := (KM.out.cell (p := ⟨vg, k, none⟩) (cell_lt hcu0) id).trans hcu0
            have hcu := (K3.out.cell (p := ⟨vg, k, none⟩) (cell_lt hcu1) (by have := cell_lt hcu0; simp only at this ⊢; omega)).trans hcu1
            have HA := Lib.hid hA
            have hlL : (L k).length ≤ m := HT.out.few k hlk
            clear hA hu hcu0 hcu1
            go_wp2_with fail
            go_loopw [16, 19, 92] (fun dv av jv w4 => ∃ (q was : Nat), q ≤ (L k).length ∧ jv = .int .i64 (q : Int) ∧ dv = .int .i64 (((pre L k).length + (oks ((L k).take q)).length : Nat) : Int) ∧ av = .int .i64 (was : Int) ∧ (∀ v ∈ oks (L k), (∀ x ∈ oks ((L k).take q), x < v) → was < v) ∧ Whole w4 W2.heap.size 3 (metC (i * m + 1) (pre L k ++ oks ((L k).take q))) ∧ Keeps (fun x => x = W2.heap.size) Wm w4) (fun _ _ jv _ => (L k).length - (intOf jv).toNat)
            case atStart => exact ⟨0, 0, Nat.zero_le _, rfl, by simp [oks], rfl, fun v hv _ => by have := (HT.out.fit k hlk v hv).1; omega, by simpa [oks] using MK.out, K3.out⟩
            case round =>
              obtain ⟨q, was, hq, rfl, rfl, rfl, hw, hWq, hK4⟩ := hrel
              rename World => w4
              have MQ := Lib.hid hWq
              have K4 := Lib.hid hK4
              have HW := Lib.hid hw
              clear hWq hK4 hw
              by_cases hlq : q < (L k).length
              · have hlqI : (q : Int) < ((L k).length : Int) := by omega
                have hq0 : (0 : Int) ≤ (q : Int) := by omega
                obtain ⟨ug, hug'⟩ := hug (by omega)
                subst hug'
                have ltug : ug < W2.heap.size := HA.out.lt rfl
                have cell1 : ∀ j, j < 3 → ∀ x, (ansC ((L k).getD q ⟨0, 0, 0⟩))[j]? = some x → w4.cell? ⟨ug, q * 3 + j, none⟩ = some x := fun j hj x hx => by
                  have h1 := (HA.out.at_ rfl hlq hj).trans hx
                  have h2 := (KM.out.cell (p := ⟨ug, q * 3 + j, none⟩) ltug id).trans h1
                  exact (K4.out.cell (p := ⟨ug, q * 3 + j, none⟩) (cell_lt h2) (by show ¬ ug = _; omega)).trans h2
                rcases oks_at (HT.out.told k hlk) (HT.out.rise k hlk) hlq with ⟨e1, e2⟩ | ⟨v, e1, e2, e3, e4⟩
                · rw [e1] at cell1
                  have g0 : w4.cell? ⟨ug, q * 3, none⟩ = some (.int .i64 12) := cell1 0 (by omega) _ rfl
                  have g1 : w4.cell? ⟨ug, q * 3 + 1, none⟩ = some (.int .u64 0) := cell1 1 (by omega) _ rfl
                  have g2 : w4.cell? ⟨ug, q * 3 + 2, none⟩ = some (.int .i64 0) := cell1 2 (by omega) _ rfl
                  have E2 := Lib.hid e2
                  clear cell1 e1 e2
                  go_wp2_with fail
                  go_roundw
                  case rel => exact ⟨q + 1, was, by omega, by go_num, by rw [E2.out], rfl, by rw [E2.out]; exact HW.out, by rw [E2.out]; exact MQ.out.alloc _, K4.out.alloc _⟩
                  case measure => simp [intOf]; omega
                · rw [e1] at cell1
                  have g0 : w4.cell? ⟨ug, q * 3, none⟩ = some (.int .i64 0) := cell1 0 (by omega) _ rfl
                  have g1 : w4.cell? ⟨ug, q * 3 + 1, none⟩ = some (.int .u64 0) := cell1 1 (by omega) _ rfl
                  have g2 : w4.cell? ⟨ug, q * 3 + 2, none⟩ = some (.int .i64 (v : Int)) := cell1 2 (by omega) _ rfl
                  have E := Lib.hid (And.intro e2 (And.intro e3 e4))
                  have hv2 : v ≤ i * m := Nat.le_trans (HT.out.fit k hlk v e3).2 hcN
                  have hvN : (v : Int) ≤ (i : Int) * (m : Int) := by
                    have h : (v : Int) ≤ ((i * m : Nat) : Int) := by omega
                    rw [Int.natCast_mul] at h
                    exact h
                  have hwv : was < v := HW.out v e3 e4
                  have hwvI : (was : Int) < (v : Int) := by omega
                  have hv0 : (0 : Int) ≤ (v : Int) := by omega
                  have hvP : v ∉ pre L k ++ oks ((L k).take q) := fun h => by
                    rcases List.mem_append.1 h with h | h
                    · obtain ⟨j, h1, h2⟩ := mem_pre k h
                      exact HT.out.apart k j hlk (by omega) (by omega) v e3 h2
                    · exact Nat.lt_irrefl v (e4 v h)
                  have hcm0 : w4.cell? ⟨W2.heap.size, v, none⟩ = some (.int .i64 0) := by
                    rw [MQ.out.at_ v, metC_at _ (by omega), if_neg hvP]
                  have MQA := MQ.out.alloc (.cells #[.int .i64 0, .int .u64 0, .int .i64 (v : Int)] 38)
                  have hcmA : (w4.alloc (.cells #[.int .i64 0, .int .u64 0, .int .i64 (v : Int)] 38)).cell? ⟨W2.heap.size, v, none⟩ = some (.int .i64 0) := by
                    rw [MQA.at_ v, metC_at _ (by omega), if_neg hvP]
                  have hfm0 := MQ.out.free v
                  have hfmA := MQA.free v
                  have hmlt : W2.heap.size < w4.heap.size := MQ.out.lt
                  have hd : (pre L k).length + (oks ((L k).take q)).length ≤ 1000 := by
                    have h1 : (pre L k).length ≤ k * m := by rw [pre_len]; exact sumN_le k fun j hj => Nat.le_trans (oks_len _) (HT.out.few j (by omega))
                    have h2 : k * m ≤ i * m := Nat.mul_le_mul hk (Nat.le_refl _)
                    have h3 := oks_len ((L k).take q)
                    have h4 : ((L k).take q).length ≤ (L k).length := by rw [List.length_take]; omega
                    omega
                  have hdI : ((pre L k).length : Int) + ((oks ((L k).take q)).length : Int) ≤ 1000 := by omega
                  clear cell1 e1 e2 e3 e4 MQA hvP
                  go_wp2_with fail
                  go_roundw
                  case rel =>
                    refine ⟨q + 1, v, by omega, by go_num, by rw [E.out.1, List.length_append, List.length_singleton]; go_num, rfl, fun x _ hx => hx v (by rw [E.out.1]; simp), ?_, (K4.out.setCell (p := ⟨W2.heap.size, v, none⟩) (fun _ => rfl) _).alloc _⟩
                    have h := (MQ.out.set_ v (.int .i64 1)).alloc (.cells #[.int .i64 0, .int .u64 0, .int .i64 (v : Int)] 38)
                    rw [metC_set, List.append_assoc, ← E.out.1] at h
                    exact h
                  case measure => simp [intOf]; omega
              · obtain rfl : q = (L k).length := by omega
                go_wp2_with fail
                go_roundw
                case rel => exact ⟨k + 1, by omega, by go_num, by rw [List.take_length]; simp [pre], by have h := MQ.out; rw [List.take_length] at h; exact h, K4.out⟩
                case measure => simp [intOf]; omega
          · obtain rfl : k = i := by omega
            have hmN : (k : Int) * (m : Int) + 1 = ((k * m + 1 : Nat) : Int) := by rw [Int.natCast_add, Int.natCast_mul]; rfl
            have hmN' := Lib.hid hmN
            clear hmN
            go_wp2_with fail
            go_loopw [131] (fun iv w5 => ∃ y : Nat, y ≤ k * m + 1 ∧ iv = .int .i64 (y : Int) ∧ w5 = w3) (fun iv _ => k * m + 1 - (intOf iv).toNat)
            case atStart => exact ⟨0, Nat.zero_le _, rfl, rfl⟩
            case round =>
              obtain ⟨y, hy, rfl, hw5⟩ := hrel
              subst hw5
              by_cases hly : y < k * m + 1
              · have hlyI : (y : Int) < (k : Int) * (m : Int) + 1 := by rw [hmN'.out]; omega
                have hlyI2 : (y : Int) < ((k * m + 1 : Nat) : Int) := by omega
                have hy0 : (0 : Int) ≤ (y : Int) := by omega
                obtain ⟨z, hz, hcy⟩ : ∃ z : Int, z ≤ 1 ∧ _ = some (Value.int .i64 z) := ⟨if y ∈ pre L k then 1 else 0, by split <;> omega, (MK.out.at_ y).trans (metC_at _ hly)⟩
                go_wp2_with fail
                go_roundw
                case rel => exact ⟨y + 1, by omega, by go_num, trivial⟩
                case measure => simp [intOf]; omega
              · obtain rfl : y = k * m + 1 := by omega
                have hdone : (pre L k).length = (view Sf.m).k := by rw [pre_len]; exact HT.out.sum
                rename World => w3
                obtain ⟨W5, hW5⟩ : ∃ V, V = (w3.alloc (.cells #[.int .i64 1, .int .i64 0, .int .i64 0, .int .i64 0, .int .u64 0] 31)).alloc (.cells #[.slice (some ⟨w3.heap.size, 0, none⟩) 1 1] 32) := ⟨_, rfl⟩
                have k5 : Keeps (fun _ => False) w3 W5 := by rw [hW5]; exact ((Keeps.refl _ w3).alloc _).alloc _
                have m1 : Whole W5 w3.heap.size 31 (calCells [⟨1, 0, 0, 0⟩]).toArray := by rw [hW5]; exact (Whole.made w3 31 (calCells [⟨1, 0, 0, 0⟩]).toArray).keeps ((Keeps.refl (fun _ => False) _).alloc _) id
                have m2 : Whole W5 (w3.heap.size + 1) 32 #[.slice (some ⟨w3.heap.size, 0, none⟩) 1 1] := by
                  rw [hW5]
                  have h := Whole.made (w3.alloc (.cells (calCells [⟨1, 0, 0, 0⟩]).toArray 31)) 32 #[.slice (some ⟨w3.heap.size, 0, none⟩) 1 1]
                  rw [World.size_alloc] at h
                  exact h
                have K23 := Lib.hid (show Keeps (fun _ => False) W2 w3 from KM.out.trans K3.out fun x hx hs => by omega)
                have K5 := Lib.hid (K23.out.trans_ k5)
                have S5 := Lib.hid (S2.out.same K5.out)
                have hok : ∀ l ∈ [([⟨1, 0, 0, 0⟩] : List Cal)], (∀ x ∈ l, CalOk x) ∧ l.length ≤ 10 := by
                  intro l hl
                  rw [List.mem_singleton.1 hl]
                  refine ⟨fun x hx => ?_, by decide⟩
                  rw [List.mem_singleton.1 hx]
                  exact ⟨by decide, by decide, by decide, by decide⟩
                have hr2 := Lib.hid (run_any6 (cap1 := 0) (a1 := none) (a1n := 0) (lc := 1) (ls := [[⟨1, 0, 0, 0⟩]]) (row := row) (lg := w3.heap.size + 1) hok (by decide) (by decide) S5.out hst2.out hC2'.out ((K5.out.cell (p := ⟨row, 0, none⟩) (cell_lt rw2.out) id).trans rw2.out) hXr.out
                  (lrow_lit (l := [⟨1, 0, 0, 0⟩]) m1 m2 fun h => by have := S2.out.old _ h; have := K23.out.size; omega) (.inl ⟨rfl, rfl⟩) (fun _ x hx => by cases hx) (by decide))
                have hin2 := Lib.hid (S0_inv (ls := [[⟨1, 0, 0, 0⟩]]) hst2.out S5.out.mm.1 hok 1)
                have hW5' := Lib.hid hW5
                have hdone' := Lib.hid hdone
                clear hW5 k5 m1 m2 hok hdone
                go_wp2_with fail
                rw [← hW5'.out]
                refine hr2.out.mono ?_
                rintro e W6 hR6
                obtain ⟨t, hsolo⟩ := ticks_after (t := view Sf.m) (by omega)
                obtain ⟨vv, uu, X6, m6, rfl, hrow6, hA6, hS6, _, _, _, hm6'⟩ := hR6.solo hin2.out hsolo
                rw [← hdone'.out] at hA6
                obtain ⟨uo, uc, huv, _⟩ := hA6.shape
                subst huv
                obtain ⟨v6, c6, hvv6, _⟩ : ∃ g c, vv = .slice (some ⟨g, 0, none⟩) 1 c ∧ True := by
                  rcases hrow6.2 with ⟨_, hn0⟩ | ⟨g, cap, cur, hv', _⟩
                  · cases hn0
                  · exact ⟨g, cap, hv', trivial⟩
                subst hvv6
                have cu : W6.cell? ⟨v6, 0, none⟩ = some _ := hrow6.cellAt 0 (by decide)
                have K6 := Lib.hid (show Keeps (fun _ => False) w W6 from (hM.out.trans_ K5.out).trans hm6'.keeps fun x hx hz => by have := hX2.out x hz; omega)
                have G6 := Lib.hid hS6.glob
                have cs := Lib.hid (same_yes [⟨0, 0, ((pre L k).length : Int)⟩] (.slice uo 1 uc) (.slice (some ⟨W6.heap.size, 0, none⟩) 1 1) (W6.alloc (.cells (ansCells [⟨0, 0, ((pre L k).length : Int)⟩]).toArray 38)) (hA6.rd.keeps ((Keeps.refl _ _).alloc _)) (ARd.made (Whole.made W6 38 (ansCells [⟨0, 0, ((pre L k).length : Int)⟩]).toArray) 1) (by show (1 : Nat) ≤ 1000; decide))
                clear hR6 hrow6 hA6 hS6 hm6' hsolo hr2
                go_wp2_with (first
                  | (go_at_call 10; refine cs.out.mono ?_; rintro e W7 ⟨rfl, hK⟩; have K7 := Lib.hid (((Keeps.refl (fun _ => False) W6).alloc _).trans_ hK); clear hK)
                  | (go_at_call 8; refine (alive_any6 W7 (G6.out.keeps K7.out id)).mono ?_; rintro e W8 ⟨rfl, hK⟩; have K8 := Lib.hid ((K6.out.trans_ K7.out).trans_ hK); clear hK))
                go_ret
                exact ⟨rfl, K8.out.below (Nat.le_refl _) fun _ _ => id⟩

theorem metaTicks_et : Tryz.prog.globalNamed "errors.errorType" = some 0 := by kernel_rfl
theorem metaTicks_rt : (Tryz.prog.cutTypes.find? (·.1 == "internal/reflectlite.rtype")).map (·.2) = some 129 := by kernel_rfl
theorem metaTicks_oneRow : ((List.range 208).filter fun t => Tryz.prog.rowNamed t [101, 114, 114, 111, 114]) = [50] := by kernel_rfl
theorem metaTicks_size : Tryz.prog.types.size = 208 := by kernel_rfl

/-- What the listed variable gives the walk. -/
theorem metaTicks_glob {W : World} (h : laidMetH Tryz.prog Rows.metaTicksRow.laid W) : Glob W := by
  have h' : laidMet Tryz.prog [] W ∧ handlesMet Tryz.prog Rows.metaTicksRow.laid W := h
  obtain ⟨name, u, ty, e1, e2, e3, e4, e5⟩ := h'.2 _ (List.mem_singleton.2 rfl)
  have en : name = [101, 114, 114, 111, 114] := (Option.some.inj e1).symm
  subst en
  obtain rfl := Option.some.inj (metaTicks_rt.symm.trans e2)
  have hm : ty ∈ (List.range 208).filter fun t => Tryz.prog.rowNamed t [101, 114, 114, 111, 114] := List.mem_filter.2 ⟨List.mem_range.2 (by rw [← metaTicks_size]; exact e3), e4⟩
  rw [metaTicks_oneRow] at hm
  obtain rfl := List.mem_singleton.1 hm
  have hh : typeHandle Tryz.prog 50 = .pointer (some ⟨1, 50, none⟩) := by kernel_rfl
  rw [hh] at e5
  unfold Glob
  simpa using World.var?_cell metaTicks_et e5 0

/-- A world that meets the condition: the settled one, the variable's cell laid. -/
noncomputable def metaTicks_laidWorld (os : Os) : World :=
  let w0 := World.holding Tryz.prog os ⟨#[], #[], []⟩
  { w0 with heap := w0.heap.modify 0 fun
      | .cells _ t frozen => .cells #[.iface 129 (.agg #[.pointer (some ⟨1, 50, none⟩)])] t frozen
      | o => o }
theorem metaTicks_met (os : Os) (args : Array Value) : laidMetH Tryz.prog Rows.metaTicksRow.laid ((metaTicks_laidWorld os).forCall (fun _ _ => 0) ⟨#[], args, []⟩).memory :=
  laidMetH_of_parts (laidMet_nil _ _) (by kernel_rfl)

theorem metaTicks_own : ownKnob Tryz.prog.godebug = none := by kernel_rfl
theorem metaTicks_laidOut : laidOutB Tryz.prog = true := by kernel_rfl

set_option maxRecDepth 100000 in
theorem metaTicks_lifted (os : Os) (started : os.Started) (H : Type) (enc : TypeId × Value → H) :
    ReturnsInHanded {} Tryz.checked os 5 .any (fun w args => (Rows.metaTicksSpec.pre enc Tryz.prog Tryz.f5 [] false w args ∧ laidMetH Tryz.prog Rows.metaTicksRow.laid w) ∧ sizedMet enc Tryz.prog Tryz.f5 (OpenSpec.ofChange Rows.metaTicksSpec) false w args)
      (Rows.metaTicksSpec.post enc Tryz.prog Tryz.f5 false true false false) := by
  refine returnsInHanded_of_change_and (C := Tryz.checked) (X := fun w _ => laidMetH Tryz.prog Rows.metaTicksRow.laid w) (fun _ _ _ hh h => h.of_heap hh) metaTicks_own started (by kernel_rfl) Tryz.func5
    (ChangeSpec.witness_at (enc := enc) (C := Tryz.checked) (os := os) (X := fun w _ => laidMetH Tryz.prog Rows.metaTicksRow.laid w) false (metaTicks_laidWorld os) #[.int .i64 0, .int .i64 0, .slice none 0 0] 8 rfl (by kernel_rfl) (by kernel_rfl) (by kernel_rfl) (by kernel_rfl) (by kernel_rfl) (metaTicks_met os _)) ?_
  intro W base args ds gs before hval0 hW hcnd _ hL _
  have hGl := metaTicks_glob hL
  clear hcnd
  have hval : ∀ (j : Nat) t v, Tryz.f5.params[j]? = some t → args[j]? = some v → Value.okWide Tryz.prog W .any base t v := hval0
  have hW' := hW
  obtain ⟨p, q, hA0, hV, rfl, hfz, hnd⟩ := hW
  have hA : DataW.TrodAll enc Tryz.prog W 0 (fun _ => true) true Tryz.f5.params.toList args.toList ds p := hA0
  rw [Tryz.params5] at hA hval
  obtain ⟨v0, vs0, d0, ds0, p0, q0, hargs, rfl, rfl, h0, r0⟩ := trodAll_cons hA
  obtain ⟨v1, vs1, d1, ds1, p1, q1, rfl, rfl, rfl, h1, r1⟩ := trodAll_cons r0
  obtain ⟨v2, vs2, d2, ds2, p2, q2, rfl, rfl, rfl, h2, r2⟩ := trodAll_cons r1
  obtain ⟨rfl, rfl, rfl⟩ := trodAll_nil r2
  obtain rfl : args = #[v0, v1, v2] := by cases args; simp_all
  obtain ⟨rfl, rfl⟩ := trodVars_none hV
  have k0 := h0
  have lt0 : ∀ x ∈ p0, x.block < W.heap.size := by obtain ⟨m, hm⟩ := k0; exact DataW.trod_lt m _ _ _ hm
  obtain ⟨a0, rfl, e0, f0, w0⟩ := open_int Tryz.underlying3 (hval 0 3 v0 rfl rfl) h0
  clear e0 f0
  have k1 := h1
  have lt1 : ∀ x ∈ p1, x.block < W.heap.size := by obtain ⟨m, hm⟩ := k1; exact DataW.trod_lt m _ _ _ hm
  obtain ⟨a1, rfl, e1, f1, w1⟩ := open_int Tryz.underlying3 (hval 1 3 v1 rfl rfl) h1
  clear e1 f1
  have k2 := h2
  have lt2 : ∀ x ∈ p2, x.block < W.heap.size := by obtain ⟨m, hm⟩ := k2; exact DataW.trod_lt m _ _ _ hm
  obtain ⟨a2, len2, cap2, rfl⟩ := okWide_slice Tryz.underlying22 (hval 2 22 v2 rfl rfl)
  have w2 : Nums W a2 len2 := by
    obtain ⟨fuel, hf⟩ := h2
    rcases open_ints Tryz.underlying22 Tryz.underlying3 (by kernel_rfl) hf with ⟨hcs, _⟩ | ⟨x, l, c, zs, hcs, _, hl, hm, hzl, _, hi, hwf⟩
    · simp [Value.cells] at hcs
      obtain ⟨rfl, rfl, rfl⟩ := hcs
      exact .inl ⟨rfl, rfl⟩
    · have hz : zs.length = c := by simpa using hzl
      simp [Value.cells] at hcs
      obtain ⟨rfl, rfl, rfl⟩ := hcs
      refine .inr ⟨_, rfl, Nat.le_trans hl hm, fun i hlt => ⟨_, hi i (by omega), _, rfl, hwf _ ?_⟩⟩
      have hiz : i < zs.length := by omega
      rw [show zs.getD i 0 = zs[i] by simp [List.getD, hiz]]
      exact List.getElem_mem hiz
  clear hA0 hval0
  refine (metaTicks_walk a0 a1 a2 len2 cap2 W w0 w1 w2 hGl).mono fun e W' ⟨he, bel⟩ => ?_
  subst he
  exact ⟨_, rfl, _, _, _, [], _, [], hW', trodAll_mk1 (shut_bool Tryz.underlying4 _), (trodAll_cons_mk (Below.trod metaTicks_laidOut (by kernel_rfl) (of_decide_eq_true (by kernel_rfl)) k0 bel lt0) (trodAll_cons_mk (Below.trod metaTicks_laidOut (by kernel_rfl) (of_decide_eq_true (by kernel_rfl)) k1 bel lt1) (trodAll_cons_mk (Below.trod metaTicks_laidOut (by kernel_rfl) (of_decide_eq_true (by kernel_rfl)) k2 bel lt2) trodAll_mk0))), rfl, bel.frame _, fun h => by cases h⟩

/-- The statement MetaTicks. -/
theorem metaTicks_holds : Rows.MetaTicksSaid :=
  OpenClaim.holds_of_wide 5 Tryz.f5 rfl rfl rfl rfl rfl rfl rfl ⟨rfl, rfl, rfl, rfl, rfl⟩ rfl rfl rfl rfl rfl (by kernel_rfl) Tryz.func5 (by kernel_rfl)
    (of_decide_eq_true (by kernel_rfl)) (by unfold Func.isWrapper; first | (rw [if_pos (by decide +kernel)]; kernel_rfl) | (rw [if_neg (by decide +kernel)]; exact ⟨rfl, rfl⟩))
    (fun os started H enc _ => metaTicks_lifted os started H enc)
#print axioms metaTicks_holds

/-- The card: the row, what it lists tied to the program's text. -/
theorem metaTicks_card : Rows.MetaTicksCardSaid :=
  Claim7.holds_tied_plain_at .later [] [.handle] true Rows.metaTicksCard.stood.harness true
    metaTicks_holds (fun _ h => by cases h) (by kernel_rfl) (fun _ h => by cases h) metaTicks_row_tie rfl ⟨rfl, rfl⟩ (by kernel_rfl) rfl
    (fun f fn hf hfn => by
      obtain rfl : f = 5 := Option.some.inj ((show Tryz.prog.funcNamed "concord/concordlaw06.MetaTicks" = some 5 by kernel_rfl).symm.trans hf) |>.symm
      obtain rfl : fn = Tryz.f5 := (Option.some.inj (Tryz.func5.symm.trans hfn)).symm
      exact ⟨by kernel_rfl, fun j t ht => by
        rw [Tryz.params5] at ht
        have hm : t ∈ Tryz.f5.params.toList := by rw [Tryz.params5]; simpa using Array.mem_of_getElem? ht
        have hall : (Tryz.f5.params.toList.all fun u => !Tryz.prog.wantsStandIn u) = true := by kernel_rfl
        exact (show Tryz.prog.wantsStandIn t = false by simpa using List.all_eq_true.1 hall t hm)⟩)
    (by kernel_rfl)
#print axioms metaTicks_card

end Go.Proofs.YtenhmficiegpiaaGreatDoor
