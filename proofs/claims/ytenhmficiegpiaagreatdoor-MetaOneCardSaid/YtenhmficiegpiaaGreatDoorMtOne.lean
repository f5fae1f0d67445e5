/-
  MetaOne: called with any number and any picks, concordlaw06.MetaOne returns true and changes nothing; the library's variable errors.errorType holds what the program's text lays in it (the card ties it). The card says nothing of code outside the pruned copy.
-/
import Derived.Test.YtenhmficiegpiaaGreatDoorMtOneP
import Derived.Test.YtenhmficiegpiaaGreatDoorTie
import Derived.Test.YtenhmficiegpiaaGreatDoorCards
import Derived.ProofKit
import Derived.OpenShut
import Derived.ShutString
import Derived.ChangeOld
import Derived.RowKitTokens
import Derived.LaidLaws
import Derived.LaidHandle
import Derived.LaidMore
import Derived.Stop.Joined
import Derived.SevenTiedAt
import Derived.Lib.SmallJoins
namespace Go.Proofs.YtenhmficiegpiaaGreatDoor
open Go.RowKit Go.Extern.Stop Go.Stop Go.Extern
open Go.ChangeShapes Go.WideShapes Go.ChangeAt

theorem scM_view0 : view scM = ⟨0, 0, 10⟩ := rfl
theorem oneLs_succ (i : Nat) : oneLs (i + 1) = oneLs i ++ [[⟨5, 0, i + 1, 0⟩]] := by simp [oneLs, List.range_succ]
theorem oneLs_ok (n : Nat) (hn : n ≤ 4) : ∀ l ∈ oneLs n, (∀ x ∈ l, CalOk x) ∧ l.length ≤ 10 := by
  intro l hl
  obtain ⟨i, hi, rfl⟩ := List.mem_map.1 hl
  have hi := List.mem_range.1 hi
  refine ⟨fun x hx => ?_, by show (1 : Nat) ≤ 10; decide⟩
  rw [List.mem_singleton.1 hx]
  exact ⟨by dsimp only; decide, by dsimp only; omega, by dsimp only; omega, by dsimp only; omega⟩

/-- The calls behind. -/
def afterL : List Cal := [⟨7, 0, 0, 0⟩, ⟨5, 0, 0, 0⟩, ⟨6, 4, 0, 1⟩, ⟨5, 0, 0, 0⟩, ⟨7, 0, 0, 0⟩]
def afterA : List Ans := [⟨0, 0, 0⟩, ⟨0, 0, 0⟩, ⟨0, 0, 0⟩, ⟨12, 0, 0⟩, ⟨2, 0, 0⟩]
theorem afterL_ok : ∀ l ∈ [afterL], (∀ x ∈ l, CalOk x) ∧ l.length ≤ 10 := by
  intro l hl
  rw [List.mem_singleton.1 hl]
  refine ⟨fun x hx => ?_, by decide⟩
  simp only [afterL, List.mem_cons, List.not_mem_nil, or_false] at hx
  rcases hx with rfl | rfl | rfl | rfl | rfl <;> exact ⟨by decide, by decide, by decide, by decide⟩

set_option maxRecDepth 100000 in
set_option maxHeartbeats 8000000 in
theorem metaOne_walk (a0 : Int) (a1 : Option Addr) (len1 cap1 : Nat) (w : World) (_ : (Lit.int .i64 a0).wf = true) (w1 : Nums w a1 len1) (hG : Glob w) :
    Calls Tryz.prog 4 #[.int .i64 a0, .slice a1 len1 cap1] w fun e w' => e = .returned (.bool true) ∧ Below w.heap.size w w' := by
  have hb : -3 < a0.tmod 3 ∧ a0.tmod 3 < 3 := ⟨by have := Int.lt_tmod_of_pos a0 (b := 3) (by decide); omega, Int.tmod_lt_of_pos a0 (by decide)⟩
  obtain ⟨hb1, hb2⟩ := hb
  obtain ⟨n, hn, hn2, hn4⟩ : ∃ n : Nat, 2 + (a0.tmod 3 + 3) % 3 = (n : Int) ∧ 2 ≤ n ∧ n ≤ 4 := ⟨(2 + (a0.tmod 3 + 3) % 3).toNat, by omega, by omega, by omega⟩
  have hve : (a0.tmod 3 + 3) % 3 = a0.tmod 3 % 3 := by omega
  have hn2' : 2 + a0.tmod 3 % 3 = (n : Int) := by omega
  have hn' := Lib.hid hn
  have hG' := Lib.hid hG
  have hp := Lib.hid w1
  have hlb : (len1 : Int) ≤ 9223372036854775807 := by have := Cells1.le w1; unfold maxLen at this; omega
  have hnI : (n : Int) ≤ 4 := by omega
  have hnI2 : (2 : Int) ≤ (n : Int) := by omega
  have hI3 := Lib.hid (info_parts info_rowC)
  clear hn hG hve w1
  go_enter Tryz.func4, Tryz.ntmps4
  go_wp2_with fail
  refine (scene_any w hG'.out).mono ?_
  rintro e W0 ⟨b, a, X, row, rfl, hS, hrow, hK, hX, hrw, hrX⟩
  have S0 := Lib.hid hS
  have K0 := Lib.hid hK
  have X0 := Lib.hid hX
  have RW := Lib.hid (And.intro hrow (And.intro hrw hrX))
  clear hS hrow hK hX hrw hrX
  by_cases hlen : (100 : Int) < (len1 : Int)
  · go_wp2_with (go_at_call 8; refine (alive_any6 W0 S0.out.glob).mono ?_; rintro e W4 ⟨rfl, hK⟩; have K4 := Lib.hid (K0.out.trans_ hK); clear hK)
    go_ret
    exact ⟨rfl, K4.out.below (Nat.le_refl _) fun _ _ => id⟩
  · have hlen2 : (len1 : Int) ≤ 100 := by omega
    have L0 := Lib.hid (LR.nil W0)
    go_wp2_with fail
    go_loopw [8, 9] (fun lv iv wr => ∃ (i : Nat) (xs : List Value), iv = .int .i64 (i : Int) ∧ i ≤ n ∧ LR W0 wr lv (oneLs i) xs) (fun _ iv _ => n - (intOf iv).toNat)
    case atStart => exact ⟨0, [], rfl, Nat.zero_le _, L0.out⟩
    case round =>
      obtain ⟨i, xs, rfl, hi, hR⟩ := hrel
      have R1 := Lib.hid hR
      obtain ⟨lo, lc, hlv, hlo⟩ := hR.head
      rw [oneLs_len] at hlv hlo
      subst hlv
      clear hR
      by_cases hlt : i < n
      · have hltI : (i : Int) < (n : Int) := by omega
        have hi0 : (0 : Int) ≤ (i : Int) := by omega
        obtain ⟨i0, hi0', hz0, hz1, hz2⟩ := hI3.out
        have J1 := Lib.hid (And.intro hi0' (And.intro hz0 (And.intro hz1 hz2)))
        have own := Lib.hid (show World.ownsRow ((wr.alloc (.cells #[.int .i64 5, .int .i64 0, .int .i64 0, .int .i64 ((i : Int) + 1), .int .u64 0] 31)).alloc (.cells #[.slice (some ⟨wr.heap.size, 0, none⟩) 1 1] 32)) 0 32 1 (.slice lo i lc) i xs from by
          have h := R1.out.row
          rw [oneLs_len] at h
          exact ownsRow_keeps h (((Keeps.refl (fun _ => False) wr).alloc _).alloc _) fun _ _ => id)
        have cel := Lib.hid (show World.cell? ((wr.alloc (.cells #[.int .i64 5, .int .i64 0, .int .i64 0, .int .i64 ((i : Int) + 1), .int .u64 0] 31)).alloc (.cells #[.slice (some ⟨wr.heap.size, 0, none⟩) 1 1] 32)) ⟨wr.heap.size + 1, 0, none⟩ = some (.slice (some ⟨wr.heap.size, 0, none⟩) 1 1) from by
          have h := cell_one (wr.alloc (.cells #[.int .i64 5, .int .i64 0, .int .i64 0, .int .i64 ((i : Int) + 1), .int .u64 0] 31)) (.slice (some ⟨wr.heap.size, 0, none⟩) 1 1) 32
          rw [World.size_alloc] at h
          exact h)
        clear hi0' hz0 hz1 hz2
        go_wp2_with (at_builtin; refine wpList_append_mine _ rfl _ _ 29 rfl 32 i0 (.slice none 0 0) 24 Tryz.underlying29 J1.out.1 J1.out.2.1 J1.out.2.2.1 J1.out.2.2.2 rfl (.slice lo i lc) i xs rfl own.out ⟨wr.heap.size + 1, 0, none⟩ 1 (.slice (some ⟨wr.heap.size, 0, none⟩) 1 1) rfl cel.out rfl (by unfold maxLen; omega) (by omega) ?_; intro g1 cc1 V1 hO1 hG1 hl1; have A1 := Lib.hid hO1; have A2 := Lib.hid hG1; have A3 := Lib.hid hl1; clear hO1 hG1 hl1)
        go_roundw
        case rel =>
          refine ⟨i + 1, xs ++ [.slice (some ⟨wr.heap.size, 0, none⟩) 1 1], by go_num, by omega, ?_⟩
          rw [oneLs_succ]
          exact R1.out.next (l := [⟨5, 0, i + 1, 0⟩]) (c := 1) (oneLs_len i) A1.out A2.out A3.out
        case measure => simp [intOf]; omega
      · obtain rfl : i = n := by omega
        obtain ⟨lg, hlg⟩ := hlo (by omega)
        subst hlg
        have KR := Lib.hid R1.out.k
        have hrun := Lib.hid (show Calls Tryz.prog 9 #[.pointer (some ⟨b, 0, none⟩), .int .u64 1, .slice (some ⟨row, 0, none⟩) 1 1, .slice (some ⟨lg, 0, none⟩) i lc, .slice a1 len1 cap1] wr (fun e w' => RunTo wr b a i (S0of scM (oneLs i)) (scM.cnt + 2200) X e w') from by
          have h := run_any6 (cap1 := cap1) (lc := lc) (ls := oneLs i) (a1 := a1) (a1n := len1) (row := row) (lg := lg) (oneLs_ok i hn4) (by rw [oneLs_len]; omega) (by rw [oneLs_len]; omega) (S0.out.same KR.out) rfl (by decide) ((KR.out.cell (p := ⟨row, 0, none⟩) (cell_lt RW.out.1) id).trans RW.out.1) RW.out.2.2
            (R1.out.rows fun x hx => S0.out.old x hx) (Cells1.keeps hp.out (K0.out.trans_ KR.out) fun _ _ => id)
            (fun hl x hx hXx => by
              obtain ⟨cb, off, v, h1, h2, _⟩ := Cells1.at_ hp.out 0 hl
              rw [h1] at hx
              injection hx with hx
              subst hx
              have := X0.out _ hXx
              have := cell_lt h2
              simp only at *
              omega) (by omega)
          rw [oneLs_len] at h
          exact h)
        have hin := Lib.hid (S0_inv (m := scM) rfl S0.out.mm.1 (oneLs_ok i hn4) i)
        go_wp2_with fail
        refine hrun.out.mono ?_
        rintro e W2 ⟨v, us, Sf, X', rfl, hv, hul, hus, hI, hS2, hC2, hM2⟩
        obtain ⟨L, hL⟩ : ∃ L : Nat → List Ans, ∀ j, j < i → Sf.p j = .ret (L j) ∧ ∃ u, us[j]? = some u ∧ ARow W2 u (L j) := by
          have hc : ∀ j, ∃ l : List Ans, j < i → Sf.p j = .ret l ∧ ∃ u, us[j]? = some u ∧ ARow W2 u l := fun j => by
            by_cases hj : j < i
            · obtain ⟨u, l, h1, h2, h3⟩ := hus j hj
              exact ⟨l, fun _ => ⟨h2, u, h1, h3⟩⟩
            · exact ⟨[], fun h => absurd h hj⟩
          exact ⟨fun j => Classical.choose (hc j), fun j => Classical.choose_spec (hc j)⟩
        obtain ⟨hinv2, j, hj, hlw, hLj, hLo⟩ := one_end (by omega) hn4 scM_view0 hin.out hI fun k hk => (hL k hk).1
        obtain ⟨vg, vc, hvv, _⟩ : ∃ g c, v = .slice (some ⟨g, 0, none⟩) i c ∧ True := by
          rcases hv.2 with ⟨_, hn0⟩ | ⟨g, cap, cur, hv', _⟩
          · omega
          · exact ⟨g, cap, hv', trivial⟩
        subst hvv
        have HV := Lib.hid hv
        have HL := Lib.hid hL
        have HLJ := Lib.hid (And.intro hLj hLo)
        have S2 := Lib.hid hS2
        have hst2 := Lib.hid (show Sf.m.st = scM.st from hinv2.st)
        have hlw2 := Lib.hid hlw
        have hC2' := Lib.hid (show Sf.m.cnt ≤ 3000 from Nat.le_trans hC2 (by rw [scM_cnt]; omega))
        have hM := Lib.hid (show Keeps (fun _ => False) w W2 from (K0.out.trans_ KR.out).trans hM2.keeps fun x hx hz => by have := X0.out x hz; omega)
        have rw2 := Lib.hid (show W2.cell? ⟨row, 0, none⟩ = some (.int .u64 3) from (hM2.keeps.cell (p := ⟨row, 0, none⟩) (Nat.lt_of_lt_of_le (cell_lt RW.out.1) KR.out.size) RW.out.2.2).trans ((KR.out.cell (p := ⟨row, 0, none⟩) (cell_lt RW.out.1) id).trans RW.out.1))
        have hXr := Lib.hid (show ¬ X' row from fun h => by
          rcases hM2.new row h with h | h
          · exact RW.out.2.2 h
          · have h1 : row < W0.heap.size := cell_lt RW.out.1
            have h2 := KR.out.size
            omega)
        have hX2 := Lib.hid (show ∀ x, X' x → w.heap.size ≤ x from fun x h => by
          rcases hM2.new x h with h | h
          · exact X0.out x h
          · have h2 := KR.out.size
            have h3 := K0.out.size
            omega)
        clear hrun hv hus hI hS2 hC2 hM2 hinv2 hL hLj hLo hlw
        have hi1 : (1 : Int) ≤ (i : Int) := by omega
        go_wp2_with fail
        go_loopw [12, 63] (fun wv iv w2 => ∃ k : Nat, k ≤ i ∧ iv = .int .i64 (k : Int) ∧ wv = .int .i64 (if j < k then 1 else 0) ∧ Keeps (fun _ => False) W2 w2) (fun _ iv _ => i - (intOf iv).toNat)
        case atStart => exact ⟨0, Nat.zero_le _, rfl, by simp, Keeps.refl _ _⟩
        case round =>
          obtain ⟨k, hk, rfl, rfl, hK3⟩ := hrel
          have K3 := Lib.hid hK3
          clear hK3
          by_cases hlk : k < i
          · have hlkI : (k : Int) < (i : Int) := by omega
            have hk0 : (0 : Int) ≤ (k : Int) := by omega
            obtain ⟨_, u, hu, hA⟩ := HL.out k hlk
            have hcu0 : W2.cell? ⟨vg, k, none⟩ = some u := (World.ownsRow.cellAt HV.out k (by omega)).trans hu
            have hcu := (K3.out.cell (p := ⟨vg, k, none⟩) (cell_lt hcu0) id).trans hcu0
            have hA2 := hA.rd.keeps K3.out
            by_cases hkj : k = j
            · subst hkj
              rw [HLJ.out.1] at hA2
              obtain ⟨uo, uc, rfl, hg⟩ := hA2
              obtain ⟨ug, rfl, hc⟩ := hg (by decide)
              have c0 : _ = some (Value.int .i64 0) := hc 0 (by decide) 0 (by decide)
              simp only [Nat.zero_mul, Nat.zero_add] at c0
              have hw : ¬ k < k := Nat.lt_irrefl k
              clear hc hcu0 hu hA
              go_wp2_with fail
              go_roundw
              case rel => exact ⟨k + 1, by omega, by go_num, by simp, K3.out⟩
              case measure => simp [intOf]; omega
            · rw [HLJ.out.2 k hlk hkj] at hA2
              obtain ⟨uo, uc, rfl, hg⟩ := hA2
              obtain ⟨ug, rfl, hc⟩ := hg (by decide)
              have c0 : _ = some (Value.int .i64 12) := hc 0 (by decide) 0 (by decide)
              simp only [Nat.zero_mul, Nat.zero_add] at c0
              clear hc hcu0 hu hA
              go_wp2_with fail
              go_roundw
              case rel =>
                have e : (if j < k + 1 then (1 : Int) else 0) = if j < k then 1 else 0 := by
                  have h : (j < k + 1) ↔ (j < k) := by omega
                  simp only [h]
                exact ⟨k + 1, by omega, by go_num, by rw [e], K3.out⟩
              case measure => simp [intOf]; omega
          · obtain rfl : k = i := by omega
            rename World => w3
            obtain ⟨W5, hW5⟩ : ∃ V, V = (w3.alloc (.cells #[.int .i64 7, .int .i64 0, .int .i64 0, .int .i64 0, .int .u64 0, .int .i64 5, .int .i64 0, .int .i64 0, .int .i64 0, .int .u64 0, .int .i64 6, .int .i64 0, .int .i64 4, .int .i64 0, .int .u64 1, .int .i64 5, .int .i64 0, .int .i64 0, .int .i64 0, .int .u64 0, .int .i64 7, .int .i64 0, .int .i64 0, .int .i64 0, .int .u64 0] 31)).alloc (.cells #[.slice (some ⟨w3.heap.size, 0, none⟩) 5 5] 32) := ⟨_, rfl⟩
            have k5 : Keeps (fun _ => False) w3 W5 := by rw [hW5]; exact ((Keeps.refl _ w3).alloc _).alloc _
            have m1 : Whole W5 w3.heap.size 31 (calCells afterL).toArray := by rw [hW5]; exact (Whole.made w3 31 (calCells afterL).toArray).keeps ((Keeps.refl (fun _ => False) _).alloc _) id
            have m2 : Whole W5 (w3.heap.size + 1) 32 #[.slice (some ⟨w3.heap.size, 0, none⟩) 5 5] := by
              rw [hW5]
              have h := Whole.made (w3.alloc (.cells (calCells afterL).toArray 31)) 32 #[.slice (some ⟨w3.heap.size, 0, none⟩) 5 5]
              rw [World.size_alloc] at h
              exact h
            have K5 := Lib.hid (K3.out.trans_ k5)
            have S5 := Lib.hid (S2.out.same K5.out)
            have hr2 := Lib.hid (run_any6 (cap1 := 0) (a1 := none) (a1n := 0) (lc := 1) (ls := [afterL]) (row := row) (lg := w3.heap.size + 1) afterL_ok (by decide) (by decide) S5.out hst2.out hC2'.out ((K5.out.cell (p := ⟨row, 0, none⟩) (cell_lt rw2.out) id).trans rw2.out) hXr.out
              (lrow_lit (l := afterL) m1 m2 fun h => by have := S2.out.old _ h; have := K3.out.size; omega) (.inl ⟨rfl, rfl⟩) (fun _ x hx => by cases hx) (by decide))
            have hin2 := Lib.hid (S0_inv (ls := [afterL]) hst2.out S5.out.mm.1 afterL_ok 1)
            have hW5' := Lib.hid hW5
            clear hW5 k5 m1 m2
            have hjk : j < k := hj
            go_wp2_with fail
            rw [← hW5'.out]
            refine hr2.out.mono ?_
            rintro e W6 hR6
            obtain ⟨t, hsolo⟩ : ∃ t, (callsT 1 3 afterL []).solo (view Sf.m) = (afterA, t) := by
              have h := one_after (k := (view Sf.m).k) (v := (view Sf.m).v) (j := j) (by omega)
              rw [← hlw2.out] at h
              exact h
            obtain ⟨vv, uu, X6, m6, rfl, hrow6, hA6, hS6, _, _, _, hm6⟩ := hR6.solo hin2.out hsolo
            obtain ⟨uo, uc, huv, _⟩ := hA6.shape
            subst huv
            obtain ⟨v6, c6, hvv6, _⟩ : ∃ g c, vv = .slice (some ⟨g, 0, none⟩) 1 c ∧ True := by
              rcases hrow6.2 with ⟨_, hn0⟩ | ⟨g, cap, cur, hv', _⟩
              · cases hn0
              · exact ⟨g, cap, hv', trivial⟩
            subst hvv6
            have cu : W6.cell? ⟨v6, 0, none⟩ = some _ := hrow6.cellAt 0 (by decide)
            have K6 := Lib.hid (show Keeps (fun _ => False) w W6 from (hM.out.trans_ K5.out).trans hm6.keeps fun x hx hz => by have := hX2.out x hz; omega)
            have G6 := Lib.hid hS6.glob
            have cs := Lib.hid (same_yes afterA (.slice uo 5 uc) (.slice (some ⟨W6.heap.size, 0, none⟩) 5 5) (W6.alloc (.cells (ansCells afterA).toArray 38)) (hA6.rd.keeps ((Keeps.refl _ _).alloc _)) (ARd.made (Whole.made W6 38 (ansCells afterA).toArray) 5) (by decide))
            clear hR6 hrow6 hA6 hS6 hm6 hsolo hr2
            go_wp2_with (first
              | (go_at_call 10; refine cs.out.mono ?_; rintro e W7 ⟨rfl, hK⟩; have K7 := Lib.hid (((Keeps.refl (fun _ => False) W6).alloc _).trans_ hK); clear hK)
              | (go_at_call 8; refine (alive_any6 W7 (G6.out.keeps K7.out id)).mono ?_; rintro e W8 ⟨rfl, hK⟩; have K8 := Lib.hid ((K6.out.trans_ K7.out).trans_ hK); clear hK))
            go_ret
            exact ⟨rfl, K8.out.below (Nat.le_refl _) fun _ _ => id⟩

theorem metaOne_et : Tryz.prog.globalNamed "errors.errorType" = some 0 := by kernel_rfl
theorem metaOne_rt : (Tryz.prog.cutTypes.find? (·.1 == "internal/reflectlite.rtype")).map (·.2) = some 129 := by kernel_rfl
theorem metaOne_oneRow : ((List.range 208).filter fun t => Tryz.prog.rowNamed t [101, 114, 114, 111, 114]) = [50] := by kernel_rfl
theorem metaOne_size : Tryz.prog.types.size = 208 := by kernel_rfl

/-- What the listed variable gives the walk. -/
theorem metaOne_glob {W : World} (h : laidMetH Tryz.prog Rows.metaOneRow.laid W) : Glob W := by
  have h' : laidMet Tryz.prog [] W ∧ handlesMet Tryz.prog Rows.metaOneRow.laid W := h
  obtain ⟨name, u, ty, e1, e2, e3, e4, e5⟩ := h'.2 _ (List.mem_singleton.2 rfl)
  have en : name = [101, 114, 114, 111, 114] := (Option.some.inj e1).symm
  subst en
  obtain rfl := Option.some.inj (metaOne_rt.symm.trans e2)
  have hm : ty ∈ (List.range 208).filter fun t => Tryz.prog.rowNamed t [101, 114, 114, 111, 114] := List.mem_filter.2 ⟨List.mem_range.2 (by rw [← metaOne_size]; exact e3), e4⟩
  rw [metaOne_oneRow] at hm
  obtain rfl := List.mem_singleton.1 hm
  have hh : typeHandle Tryz.prog 50 = .pointer (some ⟨1, 50, none⟩) := by kernel_rfl
  rw [hh] at e5
  unfold Glob
  simpa using World.var?_cell metaOne_et e5 0

/-- A world that meets the condition: the settled one, the variable's cell laid. -/
noncomputable def metaOne_laidWorld (os : Os) : World :=
  let w0 := World.holding Tryz.prog os ⟨#[], #[], []⟩
  { w0 with heap := w0.heap.modify 0 fun
      | .cells _ t frozen => .cells #[.iface 129 (.agg #[.pointer (some ⟨1, 50, none⟩)])] t frozen
      | o => o }
theorem metaOne_met (os : Os) (args : Array Value) : laidMetH Tryz.prog Rows.metaOneRow.laid ((metaOne_laidWorld os).forCall (fun _ _ => 0) ⟨#[], args, []⟩).memory :=
  laidMetH_of_parts (laidMet_nil _ _) (by kernel_rfl)

theorem metaOne_own : ownKnob Tryz.prog.godebug = none := by kernel_rfl
theorem metaOne_laidOut : laidOutB Tryz.prog = true := by kernel_rfl

set_option maxRecDepth 100000 in
theorem metaOne_lifted (os : Os) (started : os.Started) (H : Type) (enc : TypeId × Value → H) :
    ReturnsInHanded {} Tryz.checked os 4 .any (fun w args => (Rows.metaOneSpec.pre enc Tryz.prog Tryz.f4 [] false w args ∧ laidMetH Tryz.prog Rows.metaOneRow.laid w) ∧ sizedMet enc Tryz.prog Tryz.f4 (OpenSpec.ofChange Rows.metaOneSpec) false w args)
      (Rows.metaOneSpec.post enc Tryz.prog Tryz.f4 false true false false) := by
  refine returnsInHanded_of_change_and (C := Tryz.checked) (X := fun w _ => laidMetH Tryz.prog Rows.metaOneRow.laid w) (fun _ _ _ hh h => h.of_heap hh) metaOne_own started (by kernel_rfl) Tryz.func4
    (ChangeSpec.witness_at (enc := enc) (C := Tryz.checked) (os := os) (X := fun w _ => laidMetH Tryz.prog Rows.metaOneRow.laid w) false (metaOne_laidWorld os) #[.int .i64 0, .slice none 0 0] 8 rfl (by kernel_rfl) (by kernel_rfl) (by kernel_rfl) (by kernel_rfl) (by kernel_rfl) (metaOne_met os _)) ?_
  intro W base args ds gs before hval0 hW hcnd _ hL _
  have hGl := metaOne_glob hL
  clear hcnd
  have hval : ∀ (j : Nat) t v, Tryz.f4.params[j]? = some t → args[j]? = some v → Value.okWide Tryz.prog W .any base t v := hval0
  have hW' := hW
  obtain ⟨p, q, hA0, hV, rfl, hfz, hnd⟩ := hW
  have hA : DataW.TrodAll enc Tryz.prog W 0 (fun _ => true) true Tryz.f4.params.toList args.toList ds p := hA0
  rw [Tryz.params4] at hA hval
  obtain ⟨v0, vs0, d0, ds0, p0, q0, hargs, rfl, rfl, h0, r0⟩ := trodAll_cons hA
  obtain ⟨v1, vs1, d1, ds1, p1, q1, rfl, rfl, rfl, h1, r1⟩ := trodAll_cons r0
  obtain ⟨rfl, rfl, rfl⟩ := trodAll_nil r1
  obtain rfl : args = #[v0, v1] := by cases args; simp_all
  obtain ⟨rfl, rfl⟩ := trodVars_none hV
  have k0 := h0
  have lt0 : ∀ x ∈ p0, x.block < W.heap.size := by obtain ⟨m, hm⟩ := k0; exact DataW.trod_lt m _ _ _ hm
  obtain ⟨a0, rfl, e0, f0, w0⟩ := open_int Tryz.underlying3 (hval 0 3 v0 rfl rfl) h0
  clear e0 f0
  have k1 := h1
  have lt1 : ∀ x ∈ p1, x.block < W.heap.size := by obtain ⟨m, hm⟩ := k1; exact DataW.trod_lt m _ _ _ hm
  obtain ⟨a1, len1, cap1, rfl⟩ := okWide_slice Tryz.underlying22 (hval 1 22 v1 rfl rfl)
  have w1 : Nums W a1 len1 := by
    obtain ⟨fuel, hf⟩ := h1
    rcases open_ints Tryz.underlying22 Tryz.underlying3 (by kernel_rfl) hf with ⟨hcs, _⟩ | ⟨x, l, c, zs, hcs, _, hl, hm, hzl, _, hi, hwf⟩
    · simp [Value.cells] at hcs
      obtain ⟨rfl, rfl, rfl⟩ := hcs
      exact .inl ⟨rfl, rfl⟩
    · have hz : zs.length = c := by simpa using hzl
      simp [Value.cells] at hcs
      obtain ⟨rfl, rfl, rfl⟩ := hcs
      refine .inr ⟨_, rfl, Nat.le_trans hl hm, fun i hlt => ⟨_, hi i (by omega), _, rfl, hwf _ ?_⟩⟩
      have hiz : i < zs.length := by omega
      rw [show zs.getD i 0 = zs[i] by simp [List.getD, hiz]]
      exact List.getElem_mem hiz
  clear hA0 hval0
  refine (metaOne_walk a0 a1 len1 cap1 W w0 w1 hGl).mono fun e W' ⟨he, bel⟩ => ?_
  subst he
  exact ⟨_, rfl, _, _, _, [], _, [], hW', trodAll_mk1 (shut_bool Tryz.underlying4 _), (trodAll_cons_mk (Below.trod metaOne_laidOut (by kernel_rfl) (of_decide_eq_true (by kernel_rfl)) k0 bel lt0) (trodAll_cons_mk (Below.trod metaOne_laidOut (by kernel_rfl) (of_decide_eq_true (by kernel_rfl)) k1 bel lt1) trodAll_mk0)), rfl, bel.frame _, fun h => by cases h⟩

/-- The statement MetaOne. -/
theorem metaOne_holds : Rows.MetaOneSaid :=
  OpenClaim.holds_of_wide 4 Tryz.f4 rfl rfl rfl rfl rfl rfl rfl ⟨rfl, rfl, rfl, rfl, rfl⟩ rfl rfl rfl rfl rfl (by kernel_rfl) Tryz.func4 (by kernel_rfl)
    (of_decide_eq_true (by kernel_rfl)) (by unfold Func.isWrapper; first | (rw [if_pos (by decide +kernel)]; kernel_rfl) | (rw [if_neg (by decide +kernel)]; exact ⟨rfl, rfl⟩))
    (fun os started H enc _ => metaOne_lifted os started H enc)
#print axioms metaOne_holds

/-- The card: the row, what it lists tied to the program's text. -/
theorem metaOne_card : Rows.MetaOneCardSaid :=
  Claim7.holds_tied_plain_at .later [] [.handle] true Rows.metaOneCard.stood.harness true
    metaOne_holds (fun _ h => by cases h) (by kernel_rfl) (fun _ h => by cases h) metaOne_row_tie rfl ⟨rfl, rfl⟩ (by kernel_rfl) rfl
    (fun f fn hf hfn => by
      obtain rfl : f = 4 := Option.some.inj ((show Tryz.prog.funcNamed "concord/concordlaw06.MetaOne" = some 4 by kernel_rfl).symm.trans hf) |>.symm
      obtain rfl : fn = Tryz.f4 := (Option.some.inj (Tryz.func4.symm.trans hfn)).symm
      exact ⟨by kernel_rfl, fun j t ht => by
        rw [Tryz.params4] at ht
        have hm : t ∈ Tryz.f4.params.toList := by rw [Tryz.params4]; simpa using Array.mem_of_getElem? ht
        have hall : (Tryz.f4.params.toList.all fun u => !Tryz.prog.wantsStandIn u) = true := by kernel_rfl
        exact (show Tryz.prog.wantsStandIn t = false by simpa using List.all_eq_true.1 hall t hm)⟩)
    (by kernel_rfl)
#print axioms metaOne_card

end Go.Proofs.YtenhmficiegpiaaGreatDoor
