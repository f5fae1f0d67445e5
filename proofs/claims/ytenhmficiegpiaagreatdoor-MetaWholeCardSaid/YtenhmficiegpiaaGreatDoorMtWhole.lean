/-
  MetaWhole: called with any two numbers and any picks, concordlaw06.MetaWhole returns true and changes nothing; the library's variable errors.errorType holds what the program's text lays in it (the card ties it). The card says nothing of code outside the pruned copy.
-/
import Derived.Test.YtenhmficiegpiaaGreatDoorMtWholeP
import Derived.Test.YtenhmficiegpiaaGreatDoorTie
import Derived.Test.YtenhmficiegpiaaGreatDoorCards
import Derived.ProofKit
import Derived.OpenShut
import Derived.ShutString
import Derived.ChangeOld
import Derived.RowKitTokens
import Derived.LaidLaws
import Derived.LaidHandle
import Derived.LaidMore
import Derived.Stop.Joined
import Derived.SevenTiedAt
import Derived.Lib.SmallJoins
namespace Go.Proofs.YtenhmficiegpiaaGreatDoor
open Go.RowKit Go.Extern.Stop Go.Stop Go.Extern
open Go.ChangeShapes Go.WideShapes Go.ChangeAt

theorem scM_view1 : view scM = ⟨0, 0, 10⟩ := rfl
theorem writeLs_len (n : Nat) : (writeLs n).length = n := by simp [writeLs]
theorem writeLs_succ (i : Nat) : writeLs (i + 1) = writeLs i ++ [wcal i] := by simp [writeLs, List.range_succ]
theorem wholeLs_zero (W : Nat) : wholeLs W 0 = writeLs W := by simp [wholeLs]
theorem wholeLs_succ (W R : Nat) : wholeLs W (R + 1) = wholeLs W R ++ [List.replicate 3 c3] := by
  unfold wholeLs
  rw [List.replicate_succ', List.append_assoc]
theorem wholeLs_ok (W R : Nat) (hW : W ≤ 3) : ∀ l ∈ wholeLs W R, (∀ x ∈ l, CalOk x) ∧ l.length ≤ 10 := by
  intro l hl
  rcases List.mem_append.1 hl with hl | hl
  · obtain ⟨i, hi, rfl⟩ := List.mem_map.1 hl
    have hi := List.mem_range.1 hi
    refine ⟨fun x hx => ?_, by show (3 : Nat) ≤ 10; decide⟩
    simp only [wcal, List.mem_cons, List.not_mem_nil, or_false] at hx
    rcases hx with rfl | rfl | rfl
    · exact ⟨by dsimp only; decide, by dsimp only; omega, by dsimp only; omega, by dsimp only; omega⟩
    · exact ⟨by decide, by decide, by decide, by decide⟩
    · exact ⟨by unfold c6; dsimp only; decide, by unfold c6; dsimp only; omega, by unfold c6; dsimp only; omega, by unfold c6; dsimp only; omega⟩
  · rw [(List.mem_replicate.1 hl).2]
    refine ⟨fun x hx => ?_, by decide⟩
    rw [(List.mem_replicate.1 hx).2]
    exact ⟨by decide, by decide, by decide, by decide⟩

set_option maxRecDepth 100000 in
set_option maxHeartbeats 8000000 in
theorem metaWhole_walk (a0 a1 : Int) (a2 : Option Addr) (len2 cap2 : Nat) (w : World) (_ : (Lit.int .i64 a0).wf = true) (_ : (Lit.int .i64 a1).wf = true) (w2 : Nums w a2 len2) (hG : Glob w) :
    Calls Tryz.prog 3 #[.int .i64 a0, .int .i64 a1, .slice a2 len2 cap2] w fun e w' => e = .returned (.bool true) ∧ Below w.heap.size w w' := by
  have hb : -3 < a0.tmod 3 ∧ a0.tmod 3 < 3 := ⟨by have := Int.lt_tmod_of_pos a0 (b := 3) (by decide); omega, Int.tmod_lt_of_pos a0 (by decide)⟩
  have hc : -3 < a1.tmod 3 ∧ a1.tmod 3 < 3 := ⟨by have := Int.lt_tmod_of_pos a1 (b := 3) (by decide); omega, Int.tmod_lt_of_pos a1 (by decide)⟩
  obtain ⟨hb1, hb2⟩ := hb
  obtain ⟨hc1, hc2⟩ := hc
  obtain ⟨n, hn, hn2, hn4⟩ : ∃ n : Nat, 1 + (a0.tmod 3 + 3) % 3 = (n : Int) ∧ 1 ≤ n ∧ n ≤ 3 := ⟨(1 + (a0.tmod 3 + 3) % 3).toNat, by omega, by omega, by omega⟩
  obtain ⟨m, hm, hm2, hm4⟩ : ∃ m : Nat, 1 + (a1.tmod 3 + 3) % 3 = (m : Int) ∧ 1 ≤ m ∧ m ≤ 3 := ⟨(1 + (a1.tmod 3 + 3) % 3).toNat, by omega, by omega, by omega⟩
  have hn2' : 1 + a0.tmod 3 % 3 = (n : Int) := by omega
  have hm2' : 1 + a1.tmod 3 % 3 = (m : Int) := by omega
  have hn' := Lib.hid hn
  have hm' := Lib.hid hm
  have hG' := Lib.hid hG
  have hp := Lib.hid w2
  have hlb : (len2 : Int) ≤ 9223372036854775807 := by have := Cells1.le w2; unfold maxLen at this; omega
  have hnI : (n : Int) ≤ 3 := by omega
  have hnI2 : (1 : Int) ≤ (n : Int) := by omega
  have hmI : (m : Int) ≤ 3 := by omega
  have hmI2 : (1 : Int) ≤ (m : Int) := by omega
  have hI3 := Lib.hid (info_parts info_rowC)
  clear hn hm hG w2
  go_enter Tryz.func3, Tryz.ntmps3
  go_wp2_with fail
  refine (scene_any w hG'.out).mono ?_
  rintro e W0 ⟨b, a, X, row, rfl, hS, hrow, hK, hX, hrw, hrX⟩
  have S0 := Lib.hid hS
  have K0 := Lib.hid hK
  have X0 := Lib.hid hX
  have RW := Lib.hid (And.intro hrow (And.intro hrw hrX))
  clear hS hrow hK hX hrw hrX
  by_cases hlen : (100 : Int) < (len2 : Int)
  · go_wp2_with (go_at_call 8; refine (alive_any6 W0 S0.out.glob).mono ?_; rintro e W4 ⟨rfl, hK⟩; have K4 := Lib.hid (K0.out.trans_ hK); clear hK)
    go_ret
    exact ⟨rfl, K4.out.below (Nat.le_refl _) fun _ _ => id⟩
  · have hlen2 : (len2 : Int) ≤ 100 := by omega
    have L0 := Lib.hid (LR.nil W0)
    go_wp2_with fail
    go_loopw [10, 11] (fun lv iv wr => ∃ (i : Nat) (xs : List Value), iv = .int .i64 (i : Int) ∧ i ≤ n ∧ LR W0 wr lv (writeLs i) xs) (fun _ iv _ => n - (intOf iv).toNat)
    case atStart => exact ⟨0, [], rfl, Nat.zero_le _, L0.out⟩
    case round =>
      obtain ⟨i, xs, rfl, hi, hR⟩ := hrel
      have R1 := Lib.hid hR
      obtain ⟨lo, lc, hlv, hlo⟩ := hR.head
      rw [writeLs_len] at hlv hlo
      subst hlv
      clear hR
      by_cases hlt : i < n
      · have hltI : (i : Int) < (n : Int) := by omega
        have hi0 : (0 : Int) ≤ (i : Int) := by omega
        obtain ⟨i0, hi0', hz0, hz1, hz2⟩ := hI3.out
        have J1 := Lib.hid (And.intro hi0' (And.intro hz0 (And.intro hz1 hz2)))
        have own := Lib.hid (show World.ownsRow ((wr.alloc (.cells #[.int .i64 5, .int .i64 0, .int .i64 (i : Int), .int .i64 ((i : Int) + 1), .int .u64 0, .int .i64 9, .int .i64 0, .int .i64 0, .int .i64 0, .int .u64 0, .int .i64 6, .int .i64 0, .int .i64 ((i : Int) + 1), .int .i64 0, .int .u64 (100 * ((i : Int) + 1))] 31)).alloc (.cells #[.slice (some ⟨wr.heap.size, 0, none⟩) 3 3] 32)) 0 32 1 (.slice lo i lc) i xs from by
          have h := R1.out.row
          rw [writeLs_len] at h
          exact ownsRow_keeps h (((Keeps.refl (fun _ => False) wr).alloc _).alloc _) fun _ _ => id)
        have cel := Lib.hid (show World.cell? ((wr.alloc (.cells #[.int .i64 5, .int .i64 0, .int .i64 (i : Int), .int .i64 ((i : Int) + 1), .int .u64 0, .int .i64 9, .int .i64 0, .int .i64 0, .int .i64 0, .int .u64 0, .int .i64 6, .int .i64 0, .int .i64 ((i : Int) + 1), .int .i64 0, .int .u64 (100 * ((i : Int) + 1))] 31)).alloc (.cells #[.slice (some ⟨wr.heap.size, 0, none⟩) 3 3] 32)) ⟨wr.heap.size + 1, 0, none⟩ = some (.slice (some ⟨wr.heap.size, 0, none⟩) 3 3) from by
          have h := cell_one (wr.alloc (.cells #[.int .i64 5, .int .i64 0, .int .i64 (i : Int), .int .i64 ((i : Int) + 1), .int .u64 0, .int .i64 9, .int .i64 0, .int .i64 0, .int .i64 0, .int .u64 0, .int .i64 6, .int .i64 0, .int .i64 ((i : Int) + 1), .int .i64 0, .int .u64 (100 * ((i : Int) + 1))] 31)) (.slice (some ⟨wr.heap.size, 0, none⟩) 3 3) 32
          rw [World.size_alloc] at h
          exact h)
        clear hi0' hz0 hz1 hz2
        go_wp2_with (at_builtin; refine wpList_append_mine _ rfl _ _ 29 rfl 32 i0 (.slice none 0 0) 24 Tryz.underlying29 J1.out.1 J1.out.2.1 J1.out.2.2.1 J1.out.2.2.2 rfl (.slice lo i lc) i xs rfl own.out ⟨wr.heap.size + 1, 0, none⟩ 1 (.slice (some ⟨wr.heap.size, 0, none⟩) 3 3) rfl cel.out rfl (by unfold maxLen; omega) (by omega) ?_; intro g1 cc1 V1 hO1 hG1 hl1; have A1 := Lib.hid hO1; have A2 := Lib.hid hG1; have A3 := Lib.hid hl1; clear hO1 hG1 hl1)
        go_roundw
        case rel =>
          refine ⟨i + 1, xs ++ [.slice (some ⟨wr.heap.size, 0, none⟩) 3 3], by go_num, by omega, ?_⟩
          rw [writeLs_succ]
          exact R1.out.next (l := wcal i) (c := 3) (writeLs_len i) A1.out A2.out A3.out
        case measure => simp [intOf]; omega
      · obtain rfl : i = n := by omega
        have L1 := Lib.hid (show LR W0 wr (.slice lo i lc) (wholeLs i 0) xs by rw [wholeLs_zero]; exact R1.out)
        go_wp2_with fail
        go_loopw [10, 12] (fun lv iv wr => ∃ (j : Nat) (xs : List Value), iv = .int .i64 (j : Int) ∧ j ≤ m ∧ LR W0 wr lv (wholeLs i j) xs) (fun _ iv _ => m - (intOf iv).toNat)
        case atStart => exact ⟨0, xs, rfl, Nat.zero_le _, L1.out⟩
        case round =>
          obtain ⟨j, xs, rfl, hj, hR⟩ := hrel
          rename World => wq
          have R1 := Lib.hid hR
          obtain ⟨lo, lc, hlv, hlo⟩ := hR.head
          rw [wholeLs_len] at hlv hlo
          subst hlv
          clear hR
          by_cases hlj : j < m
          · have hljI : (j : Int) < (m : Int) := by omega
            have hj0 : (0 : Int) ≤ (j : Int) := by omega
            obtain ⟨i0, hi0', hz0, hz1, hz2⟩ := hI3.out
            have J1 := Lib.hid (And.intro hi0' (And.intro hz0 (And.intro hz1 hz2)))
            have own := Lib.hid (show World.ownsRow ((wq.alloc (.cells #[.int .i64 3, .int .i64 0, .int .i64 0, .int .i64 0, .int .u64 0, .int .i64 3, .int .i64 0, .int .i64 0, .int .i64 0, .int .u64 0, .int .i64 3, .int .i64 0, .int .i64 0, .int .i64 0, .int .u64 0] 31)).alloc (.cells #[.slice (some ⟨wq.heap.size, 0, none⟩) 3 3] 32)) 0 32 1 (.slice lo (i + j) lc) (i + j) xs from by
              have h := R1.out.row
              rw [wholeLs_len] at h
              exact ownsRow_keeps h (((Keeps.refl (fun _ => False) wq).alloc _).alloc _) fun _ _ => id)
            have cel := Lib.hid (show World.cell? ((wq.alloc (.cells #[.int .i64 3, .int .i64 0, .int .i64 0, .int .i64 0, .int .u64 0, .int .i64 3, .int .i64 0, .int .i64 0, .int .i64 0, .int .u64 0, .int .i64 3, .int .i64 0, .int .i64 0, .int .i64 0, .int .u64 0] 31)).alloc (.cells #[.slice (some ⟨wq.heap.size, 0, none⟩) 3 3] 32)) ⟨wq.heap.size + 1, 0, none⟩ = some (.slice (some ⟨wq.heap.size, 0, none⟩) 3 3) from by
              have h := cell_one (wq.alloc (.cells #[.int .i64 3, .int .i64 0, .int .i64 0, .int .i64 0, .int .u64 0, .int .i64 3, .int .i64 0, .int .i64 0, .int .i64 0, .int .u64 0, .int .i64 3, .int .i64 0, .int .i64 0, .int .i64 0, .int .u64 0] 31)) (.slice (some ⟨wq.heap.size, 0, none⟩) 3 3) 32
              rw [World.size_alloc] at h
              exact h)
            clear hi0' hz0 hz1 hz2
            go_wp2_with (at_builtin; refine wpList_append_mine _ rfl _ _ 29 rfl 32 i0 (.slice none 0 0) 24 Tryz.underlying29 J1.out.1 J1.out.2.1 J1.out.2.2.1 J1.out.2.2.2 rfl (.slice lo (i + j) lc) (i + j) xs rfl own.out ⟨wq.heap.size + 1, 0, none⟩ 1 (.slice (some ⟨wq.heap.size, 0, none⟩) 3 3) rfl cel.out rfl (by unfold maxLen; omega) (by omega) ?_; intro g1 cc1 V1 hO1 hG1 hl1; have A1 := Lib.hid hO1; have A2 := Lib.hid hG1; have A3 := Lib.hid hl1; clear hO1 hG1 hl1)
            go_roundw
            case rel =>
              refine ⟨j + 1, xs ++ [.slice (some ⟨wq.heap.size, 0, none⟩) 3 3], by go_num, by omega, ?_⟩
              rw [wholeLs_succ]
              exact R1.out.next (l := List.replicate 3 c3) (c := 3) (wholeLs_len i j) A1.out A2.out A3.out
            case measure => simp [intOf]; omega
          · obtain rfl : j = m := by omega
            obtain ⟨lg, hlg⟩ := hlo (by omega)
            subst hlg
            have KR := Lib.hid R1.out.k
            have hrun := Lib.hid (show Calls Tryz.prog 9 #[.pointer (some ⟨b, 0, none⟩), .int .u64 1, .slice (some ⟨row, 0, none⟩) 1 1, .slice (some ⟨lg, 0, none⟩) (i + j) lc, .slice a2 len2 cap2] wq (fun e w' => RunTo wq b a (i + j) (S0of scM (wholeLs i j)) (scM.cnt + 3200) X e w') from by
              have h := run_any6 (cap1 := cap2) (lc := lc) (ls := wholeLs i j) (a1 := a2) (a1n := len2) (row := row) (lg := lg) (wholeLs_ok i j hn4) (by rw [wholeLs_len]; omega) (by rw [wholeLs_len]; omega) (S0.out.same KR.out) rfl (by decide) ((KR.out.cell (p := ⟨row, 0, none⟩) (cell_lt RW.out.1) id).trans RW.out.1) RW.out.2.2
                (R1.out.rows fun x hx => S0.out.old x hx) (Cells1.keeps hp.out (K0.out.trans_ KR.out) fun _ _ => id)
                (fun hl x hx hXx => by
                  obtain ⟨cb, off, v, h1, h2, _⟩ := Cells1.at_ hp.out 0 hl
                  rw [h1] at hx
                  injection hx with hx
                  subst hx
                  have := X0.out _ hXx
                  have := cell_lt h2
                  simp only at *
                  omega) (by omega)
              rw [wholeLs_len] at h
              exact h)
            have hin := Lib.hid (S0_inv (m := scM) rfl S0.out.mm.1 (wholeLs_ok i j hn4) (i + j))
            go_wp2_with fail
            refine hrun.out.mono ?_
            rintro e W2 ⟨v, us, Sf, X', rfl, hv, hul, hus, hI, hS2, hC2, hM2⟩
            obtain ⟨L, hL⟩ : ∃ L : Nat → List Ans, ∀ k, k < i + j → Sf.p k = .ret (L k) ∧ ∃ u, us[k]? = some u ∧ ARow W2 u (L k) := by
              have hc : ∀ k, ∃ l : List Ans, k < i + j → Sf.p k = .ret l ∧ ∃ u, us[k]? = some u ∧ ARow W2 u l := fun k => by
                by_cases hk : k < i + j
                · obtain ⟨u, l, h1, h2, h3⟩ := hus k hk
                  exact ⟨l, fun _ => ⟨h2, u, h1, h3⟩⟩
                · exact ⟨[], fun h => absurd h hk⟩
              exact ⟨fun k => Classical.choose (hc k), fun k => Classical.choose_spec (hc k)⟩
            have hT := whole_end hn4 scM_view1 hin.out hI fun k hk => (hL k hk).1
            obtain ⟨vg, vc, hvv, hvc⟩ : ∃ g c, v = .slice (some ⟨g, 0, none⟩) (i + j) c ∧ i + j ≤ c := by
              rcases hv.2 with ⟨_, hn0⟩ | ⟨g, cap, cur, hv', _, _, h5, _⟩
              · omega
              · exact ⟨g, cap, hv', h5⟩
            subst hvv
            have HV := Lib.hid hv
            have HL := Lib.hid hL
            have HT := Lib.hid hT
            have G2 := Lib.hid hS2.glob
            have hM := Lib.hid (show Keeps (fun _ => False) w W2 from (K0.out.trans_ KR.out).trans hM2.keeps fun x hx hz => by have := X0.out x hz; omega)
            have hvcI : (i : Int) + (j : Int) ≤ (vc : Int) := by omega
            have hvcI2 : (i : Int) ≤ (vc : Int) := by omega
            have hij : i + j - i = j := by omega
            clear hrun hv hus hI hS2 hC2 hM2 hL hT
            go_wp2_with fail
            go_loopw [96] (fun iv w3 => ∃ k : Nat, k ≤ j ∧ iv = .int .i64 (k : Int) ∧ Keeps (fun _ => False) W2 w3) (fun iv _ => j - (intOf iv).toNat)
            case atStart => exact ⟨0, Nat.zero_le _, rfl, Keeps.refl _ _⟩
            case round =>
              obtain ⟨k, hk, rfl, hK3⟩ := hrel
              rename World => w3
              have K3 := Lib.hid hK3
              clear hK3
              by_cases hlk : k < j
              · have hlkI : (k : Int) < (j : Int) := by omega
                have hk0 : (0 : Int) ≤ (k : Int) := by omega
                obtain ⟨_, u, hu, hA⟩ := HL.out (i + k) (by omega)
                obtain ⟨ht1, ht2, ht3⟩ := HT.out (i + k) (by omega) (by omega)
                obtain ⟨uo, uc, huv, hug⟩ := hA.shape
                subst huv
                have hcu0 : W2.cell? ⟨vg, i + k, none⟩ = some _ := (World.ownsRow.cellAt HV.out (i + k) (by omega)).trans hu
                have hcu := (K3.out.cell (p := ⟨vg, i + k, none⟩) (cell_lt hcu0) id).trans hcu0
                obtain ⟨Lk, hLk⟩ : ∃ l, l = L (i + k) := ⟨_, rfl⟩
                rw [← hLk] at hA ht1 ht2 ht3 hcu hug
                have HA := Lib.hid hA
                have H1 := Lib.hid (And.intro ht1 (And.intro ht2 ht3))
                have hlb2 : (Lk.length : Int) ≤ 9223372036854775807 := by
                  have hl : Lk.length ≤ maxLen := by
                    rcases hA.2 with ⟨_, h0⟩ | ⟨_, _, _, _, _, _, h1, h2, _⟩
                    · omega
                    · exact Nat.le_trans h1 h2
                  unfold maxLen at hl
                  omega
                clear hA hu hcu0 ht1 ht2 ht3 hLk
                go_wp2_with fail
                go_loopw [17, 102] (fun av jv w4 => ∃ (q was : Nat), q ≤ Lk.length ∧ jv = .int .i64 (q : Int) ∧ av = .int .i64 (was : Int) ∧ (∀ v ∈ oks Lk, (∀ x ∈ oks (Lk.take q), x ≤ v) → was ≤ v) ∧ Keeps (fun _ => False) W2 w4) (fun _ jv _ => Lk.length - (intOf jv).toNat)
                case atStart => exact ⟨0, 0, Nat.zero_le _, rfl, rfl, fun v _ _ => Nat.zero_le _, K3.out⟩
                case round =>
                  obtain ⟨q, was, hq, rfl, rfl, hw, hK4⟩ := hrel
                  rename World => w4
                  have K4 := Lib.hid hK4
                  have HW := Lib.hid hw
                  clear hK4 hw
                  by_cases hlq : q < Lk.length
                  · have hlqI : (q : Int) < (Lk.length : Int) := by omega
                    have hq0 : (0 : Int) ≤ (q : Int) := by omega
                    obtain ⟨ug, hug'⟩ := hug (by omega)
                    subst hug'
                    have cell1 : ∀ j, j < 3 → ∀ x, (ansC (Lk.getD q ⟨0, 0, 0⟩))[j]? = some x → w4.cell? ⟨ug, q * 3 + j, none⟩ = some x := fun j hj x hx => by
                      have h1 := (HA.out.at_ rfl hlq hj).trans hx
                      exact (K4.out.cell (p := ⟨ug, q * 3 + j, none⟩) (cell_lt h1) id).trans h1
                    rcases told_at H1.out.1 H1.out.2.1 hlq with ⟨e1, e2⟩ | ⟨v, e1, e2, e3, e4⟩
                    · rw [e1] at cell1
                      have g0 : w4.cell? ⟨ug, q * 3, none⟩ = some (.int .i64 12) := cell1 0 (by omega) _ rfl
                      have g1 : w4.cell? ⟨ug, q * 3 + 1, none⟩ = some (.int .u64 0) := cell1 1 (by omega) _ rfl
                      have g2 : w4.cell? ⟨ug, q * 3 + 2, none⟩ = some (.int .i64 0) := cell1 2 (by omega) _ rfl
                      have E2 := Lib.hid e2
                      clear cell1 e1 e2
                      go_wp2_with fail
                      go_roundw
                      case rel => exact ⟨q + 1, was, by omega, by go_num, rfl, by rw [E2.out]; exact HW.out, K4.out.alloc _⟩
                      case measure => simp [intOf]; omega
                    · have hv3 := H1.out.2.2 v e3
                      rw [e1] at cell1
                      have E := Lib.hid e2
                      have hwv : was ≤ v := HW.out v e3 e4
                      clear e1 e2 e3 e4
                      obtain rfl | rfl | rfl | rfl : v = 0 ∨ v = 1 ∨ v = 2 ∨ v = 3 := by omega
                      · have g0 : w4.cell? ⟨ug, q * 3, none⟩ = some (.int .i64 0) := cell1 0 (by omega) _ rfl
                        have g1 : w4.cell? ⟨ug, q * 3 + 1, none⟩ = some (.int .u64 10) := cell1 1 (by omega) _ rfl
                        have g2 : w4.cell? ⟨ug, q * 3 + 2, none⟩ = some (.int .i64 0) := cell1 2 (by omega) _ rfl
                        have hwvI : (was : Int) ≤ 0 := by omega
                        clear cell1
                        go_wp2_with fail
                        go_roundw
                        case rel => exact ⟨q + 1, 0, by omega, by go_num, rfl, fun x _ hx => hx 0 (by rw [E.out]; simp), K4.out.alloc _⟩
                        case measure => simp [intOf]; omega
                      · have g0 : w4.cell? ⟨ug, q * 3, none⟩ = some (.int .i64 0) := cell1 0 (by omega) _ rfl
                        have g1 : w4.cell? ⟨ug, q * 3 + 1, none⟩ = some (.int .u64 100) := cell1 1 (by omega) _ rfl
                        have g2 : w4.cell? ⟨ug, q * 3 + 2, none⟩ = some (.int .i64 1) := cell1 2 (by omega) _ rfl
                        have hwvI : (was : Int) ≤ 1 := by omega
                        clear cell1
                        go_wp2_with fail
                        go_roundw
                        case rel => exact ⟨q + 1, 1, by omega, by go_num, rfl, fun x _ hx => hx 1 (by rw [E.out]; simp), K4.out.alloc _⟩
                        case measure => simp [intOf]; omega
                      · have g0 : w4.cell? ⟨ug, q * 3, none⟩ = some (.int .i64 0) := cell1 0 (by omega) _ rfl
                        have g1 : w4.cell? ⟨ug, q * 3 + 1, none⟩ = some (.int .u64 200) := cell1 1 (by omega) _ rfl
                        have g2 : w4.cell? ⟨ug, q * 3 + 2, none⟩ = some (.int .i64 2) := cell1 2 (by omega) _ rfl
                        have hwvI : (was : Int) ≤ 2 := by omega
                        clear cell1
                        go_wp2_with fail
                        go_roundw
                        case rel => exact ⟨q + 1, 2, by omega, by go_num, rfl, fun x _ hx => hx 2 (by rw [E.out]; simp), K4.out.alloc _⟩
                        case measure => simp [intOf]; omega
                      · have g0 : w4.cell? ⟨ug, q * 3, none⟩ = some (.int .i64 0) := cell1 0 (by omega) _ rfl
                        have g1 : w4.cell? ⟨ug, q * 3 + 1, none⟩ = some (.int .u64 300) := cell1 1 (by omega) _ rfl
                        have g2 : w4.cell? ⟨ug, q * 3 + 2, none⟩ = some (.int .i64 3) := cell1 2 (by omega) _ rfl
                        have hwvI : (was : Int) ≤ 3 := by omega
                        clear cell1
                        go_wp2_with fail
                        go_roundw
                        case rel => exact ⟨q + 1, 3, by omega, by go_num, rfl, fun x _ hx => hx 3 (by rw [E.out]; simp), K4.out.alloc _⟩
                        case measure => simp [intOf]; omega
                  · obtain rfl : q = Lk.length := by omega
                    go_wp2_with fail
                    go_roundw
                    case rel => exact ⟨k + 1, by omega, by go_num, K4.out⟩
                    case measure => simp [intOf]; omega
              · obtain rfl : k = j := by omega
                go_wp2_with (go_at_call 8; refine (alive_any6 w3 (G2.out.keeps K3.out id)).mono ?_; rintro e W8 ⟨rfl, hK⟩; have K8 := Lib.hid ((hM.out.trans_ K3.out).trans_ hK); clear hK)
                go_ret
                exact ⟨rfl, K8.out.below (Nat.le_refl _) fun _ _ => id⟩

theorem metaWhole_et : Tryz.prog.globalNamed "errors.errorType" = some 0 := by kernel_rfl
theorem metaWhole_rt : (Tryz.prog.cutTypes.find? (·.1 == "internal/reflectlite.rtype")).map (·.2) = some 129 := by kernel_rfl
theorem metaWhole_oneRow : ((List.range 208).filter fun t => Tryz.prog.rowNamed t [101, 114, 114, 111, 114]) = [50] := by kernel_rfl
theorem metaWhole_size : Tryz.prog.types.size = 208 := by kernel_rfl

/-- What the listed variable gives the walk. -/
theorem metaWhole_glob {W : World} (h : laidMetH Tryz.prog Rows.metaWholeRow.laid W) : Glob W := by
  have h' : laidMet Tryz.prog [] W ∧ handlesMet Tryz.prog Rows.metaWholeRow.laid W := h
  obtain ⟨name, u, ty, e1, e2, e3, e4, e5⟩ := h'.2 _ (List.mem_singleton.2 rfl)
  have en : name = [101, 114, 114, 111, 114] := (Option.some.inj e1).symm
  subst en
  obtain rfl := Option.some.inj (metaWhole_rt.symm.trans e2)
  have hm : ty ∈ (List.range 208).filter fun t => Tryz.prog.rowNamed t [101, 114, 114, 111, 114] := List.mem_filter.2 ⟨List.mem_range.2 (by rw [← metaWhole_size]; exact e3), e4⟩
  rw [metaWhole_oneRow] at hm
  obtain rfl := List.mem_singleton.1 hm
  have hh : typeHandle Tryz.prog 50 = .pointer (some ⟨1, 50, none⟩) := by kernel_rfl
  rw [hh] at e5
  unfold Glob
  simpa using World.var?_cell metaWhole_et e5 0

/-- A world that meets the condition: the settled one, the variable's cell laid. -/
noncomputable def metaWhole_laidWorld (os : Os) : World :=
  let w0 := World.holding Tryz.prog os ⟨#[], #[], []⟩
  { w0 with heap := w0.heap.modify 0 fun
      | .cells _ t frozen => .cells #[.iface 129 (.agg #[.pointer (some ⟨1, 50, none⟩)])] t frozen
      | o => o }
theorem metaWhole_met (os : Os) (args : Array Value) : laidMetH Tryz.prog Rows.metaWholeRow.laid ((metaWhole_laidWorld os).forCall (fun _ _ => 0) ⟨#[], args, []⟩).memory :=
  laidMetH_of_parts (laidMet_nil _ _) (by kernel_rfl)

theorem metaWhole_own : ownKnob Tryz.prog.godebug = none := by kernel_rfl
theorem metaWhole_laidOut : laidOutB Tryz.prog = true := by kernel_rfl

set_option maxRecDepth 100000 in
theorem metaWhole_lifted (os : Os) (started : os.Started) (H : Type) (enc : TypeId × Value → H) :
    ReturnsInHanded {} Tryz.checked os 3 .any (fun w args => (Rows.metaWholeSpec.pre enc Tryz.prog Tryz.f3 [] false w args ∧ laidMetH Tryz.prog Rows.metaWholeRow.laid w) ∧ sizedMet enc Tryz.prog Tryz.f3 (OpenSpec.ofChange Rows.metaWholeSpec) false w args)
      (Rows.metaWholeSpec.post enc Tryz.prog Tryz.f3 false true false false) := by
  refine returnsInHanded_of_change_and (C := Tryz.checked) (X := fun w _ => laidMetH Tryz.prog Rows.metaWholeRow.laid w) (fun _ _ _ hh h => h.of_heap hh) metaWhole_own started (by kernel_rfl) Tryz.func3
    (ChangeSpec.witness_at (enc := enc) (C := Tryz.checked) (os := os) (X := fun w _ => laidMetH Tryz.prog Rows.metaWholeRow.laid w) false (metaWhole_laidWorld os) #[.int .i64 0, .int .i64 0, .slice none 0 0] 8 rfl (by kernel_rfl) (by kernel_rfl) (by kernel_rfl) (by kernel_rfl) (by kernel_rfl) (metaWhole_met os _)) ?_
  intro W base args ds gs before hval0 hW hcnd _ hL _
  have hGl := metaWhole_glob hL
  clear hcnd
  have hval : ∀ (j : Nat) t v, Tryz.f3.params[j]? = some t → args[j]? = some v → Value.okWide Tryz.prog W .any base t v := hval0
  have hW' := hW
  obtain ⟨p, q, hA0, hV, rfl, hfz, hnd⟩ := hW
  have hA : DataW.TrodAll enc Tryz.prog W 0 (fun _ => true) true Tryz.f3.params.toList args.toList ds p := hA0
  rw [Tryz.params3] at hA hval
  obtain ⟨v0, vs0, d0, ds0, p0, q0, hargs, rfl, rfl, h0, r0⟩ := trodAll_cons hA
  obtain ⟨v1, vs1, d1, ds1, p1, q1, rfl, rfl, rfl, h1, r1⟩ := trodAll_cons r0
  obtain ⟨v2, vs2, d2, ds2, p2, q2, rfl, rfl, rfl, h2, r2⟩ := trodAll_cons r1
  obtain ⟨rfl, rfl, rfl⟩ := trodAll_nil r2
  obtain rfl : args = #[v0, v1, v2] := by cases args; simp_all
  obtain ⟨rfl, rfl⟩ := trodVars_none hV
  have k0 := h0
  have lt0 : ∀ x ∈ p0, x.block < W.heap.size := by obtain ⟨m, hm⟩ := k0; exact DataW.trod_lt m _ _ _ hm
  obtain ⟨a0, rfl, e0, f0, w0⟩ := open_int Tryz.underlying3 (hval 0 3 v0 rfl rfl) h0
  clear e0 f0
  have k1 := h1
  have lt1 : ∀ x ∈ p1, x.block < W.heap.size := by obtain ⟨m, hm⟩ := k1; exact DataW.trod_lt m _ _ _ hm
  obtain ⟨a1, rfl, e1, f1, w1⟩ := open_int Tryz.underlying3 (hval 1 3 v1 rfl rfl) h1
  clear e1 f1
  have k2 := h2
  have lt2 : ∀ x ∈ p2, x.block < W.heap.size := by obtain ⟨m, hm⟩ := k2; exact DataW.trod_lt m _ _ _ hm
  obtain ⟨a2, len2, cap2, rfl⟩ := okWide_slice Tryz.underlying22 (hval 2 22 v2 rfl rfl)
  have w2 : Nums W a2 len2 := by
    obtain ⟨fuel, hf⟩ := h2
    rcases open_ints Tryz.underlying22 Tryz.underlying3 (by kernel_rfl) hf with ⟨hcs, _⟩ | ⟨x, l, c, zs, hcs, _, hl, hm, hzl, _, hi, hwf⟩
    · simp [Value.cells] at hcs
      obtain ⟨rfl, rfl, rfl⟩ := hcs
      exact .inl ⟨rfl, rfl⟩
    · have hz : zs.length = c := by simpa using hzl
      simp [Value.cells] at hcs
      obtain ⟨rfl, rfl, rfl⟩ := hcs
      refine .inr ⟨_, rfl, Nat.le_trans hl hm, fun i hlt => ⟨_, hi i (by omega), _, rfl, hwf _ ?_⟩⟩
      have hiz : i < zs.length := by omega
      rw [show zs.getD i 0 = zs[i] by simp [List.getD, hiz]]
      exact List.getElem_mem hiz
  clear hA0 hval0
  refine (metaWhole_walk a0 a1 a2 len2 cap2 W w0 w1 w2 hGl).mono fun e W' ⟨he, bel⟩ => ?_
  subst he
  exact ⟨_, rfl, _, _, _, [], _, [], hW', trodAll_mk1 (shut_bool Tryz.underlying4 _), (trodAll_cons_mk (Below.trod metaWhole_laidOut (by kernel_rfl) (of_decide_eq_true (by kernel_rfl)) k0 bel lt0) (trodAll_cons_mk (Below.trod metaWhole_laidOut (by kernel_rfl) (of_decide_eq_true (by kernel_rfl)) k1 bel lt1) (trodAll_cons_mk (Below.trod metaWhole_laidOut (by kernel_rfl) (of_decide_eq_true (by kernel_rfl)) k2 bel lt2) trodAll_mk0))), rfl, bel.frame _, fun h => by cases h⟩

/-- The statement MetaWhole. -/
theorem metaWhole_holds : Rows.MetaWholeSaid :=
  OpenClaim.holds_of_wide 3 Tryz.f3 rfl rfl rfl rfl rfl rfl rfl ⟨rfl, rfl, rfl, rfl, rfl⟩ rfl rfl rfl rfl rfl (by kernel_rfl) Tryz.func3 (by kernel_rfl)
    (of_decide_eq_true (by kernel_rfl)) (by unfold Func.isWrapper; first | (rw [if_pos (by decide +kernel)]; kernel_rfl) | (rw [if_neg (by decide +kernel)]; exact ⟨rfl, rfl⟩))
    (fun os started H enc _ => metaWhole_lifted os started H enc)
#print axioms metaWhole_holds

/-- The card: the row, what it lists tied to the program's text. -/
theorem metaWhole_card : Rows.MetaWholeCardSaid :=
  Claim7.holds_tied_plain_at .later [] [.handle] true Rows.metaWholeCard.stood.harness true
    metaWhole_holds (fun _ h => by cases h) (by kernel_rfl) (fun _ h => by cases h) metaWhole_row_tie rfl ⟨rfl, rfl⟩ (by kernel_rfl) rfl
    (fun f fn hf hfn => by
      obtain rfl : f = 3 := Option.some.inj ((show Tryz.prog.funcNamed "concord/concordlaw06.MetaWhole" = some 3 by kernel_rfl).symm.trans hf) |>.symm
      obtain rfl : fn = Tryz.f3 := (Option.some.inj (Tryz.func3.symm.trans hfn)).symm
      exact ⟨by kernel_rfl, fun j t ht => by
        rw [Tryz.params3] at ht
        have hm : t ∈ Tryz.f3.params.toList := by rw [Tryz.params3]; simpa using Array.mem_of_getElem? ht
        have hall : (Tryz.f3.params.toList.all fun u => !Tryz.prog.wantsStandIn u) = true := by kernel_rfl
        exact (show Tryz.prog.wantsStandIn t = false by simpa using List.all_eq_true.1 hall t hm)⟩)
    (by kernel_rfl)
#print axioms metaWhole_card

end Go.Proofs.YtenhmficiegpiaaGreatDoor
