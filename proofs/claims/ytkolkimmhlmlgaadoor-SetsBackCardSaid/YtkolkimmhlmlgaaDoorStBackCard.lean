/-
  SetsBack: called with any calls and any more, concordlaw07.SetsBack returns true and changes nothing; the library's variable errors.errorType holds what the program's text lays in it (the card ties it). The card says nothing of code outside the pruned copy.
-/
import Derived.Test.YtkolkimmhlmlgaaDoorStTwoP
import Derived.Test.YtkolkimmhlmlgaaDoorStKeepCard
import Derived.Deep.QuietTactic
import Derived.BigQuiet
namespace Go.Proofs.YtkolkimmhlmlgaaDoor
open Go.RowKit Go.Maps Go.Extern.Stop Go.Stop Go.Extern
open Go.ChangeShapes Go.WideShapes Go.ChangeAt Go.Deep

set_option maxRecDepth 100000 in
set_option maxHeartbeats 4000000 in
theorem setsBack_walk (a0 : Option Addr) (len0 cap0 : Nat) (a1 : Option Addr) (len1 cap1 : Nat) (w : World) (w0 : Acts7 w a0 len0 cap0) (w1 : Acts7 w a1 len1 cap1) (hg : Glob w) :
    Calls Tryd.prog 4 #[.slice a0 len0 cap0, .slice a1 len1 cap1] w fun e w' => e = .returned (.bool true) ∧ Below w.heap.size w w' := by
  obtain ⟨L0, hL0⟩ := w0.list
  obtain ⟨L1, hL1⟩ := w1.list
  have LL1 := Lib.hid hL1
  by_cases hlong : 80 < len0
  · have CP := Lib.hid (play_long (w := w) (a := a0) (cap := cap0) hlong)
    clear hL0 hL1 w0 w1 hlong
    go_enter Tryd.func4, Tryd.ntmps4
    go_wp2_with (first
      | (go_at_call 10; refine CP.out.mono ?_; rintro e w1 ⟨rfl, hK⟩; have K6 := Lib.hid hK; clear hK)
      | (go_at_call 7; refine (alive_any _).mono ?_; rintro e w5 ⟨rfl, k5⟩; have K5 := Lib.hid k5; clear k5))
    go_ret
    exact ⟨rfl, (K6.out.trans_ K5.out).below (Nat.le_refl _) (fun _ _ h => h)⟩
  have CP := Lib.hid (play_any hL0 (by omega) hg)
  have HG := Lib.hid hg
  clear hL0 hL1 w0 w1 hlong hg
  by_cases h1 : 80 < len1
  · have b1 : (80 : Int) < (len1 : Int) := by omega
    go_enter Tryd.func4, Tryd.ntmps4
    go_wp2_with fail
    refine CP.out.mono ?_
    rintro e w1 ⟨s, A, rfl, hO⟩
    have K6 := Lib.hid hO.keeps
    clear hO
    go_wp2_with (first | (go_at_call 7; refine (alive_any _).mono ?_; rintro e w5 ⟨rfl, k5⟩; have K5 := Lib.hid k5; clear k5))
    go_ret
    exact ⟨rfl, (K6.out.trans_ K5.out).below (Nat.le_refl _) (fun _ _ h => h)⟩
  have b1 : ¬ (80 : Int) < (len1 : Int) := by omega
  have hn1 : len1 ≤ 80 := by omega
  clear h1
  go_enter Tryd.func4, Tryd.ntmps4
  go_wp2_with fail
  refine CP.out.mono ?_
  rintro e w1 ⟨s, A, rfl, hO⟩
  have C1 := Lib.hid (writes_p hO.kept)
  clear hO
  go_wp2_with fail
  refine C1.out.mono ?_
  rintro e w2 ⟨u1, rfl, hO⟩
  by_cases hfull : 20 ≤ A.M.length
  · have C2 := Lib.hid (mark_fp hO hfull)
    clear hO hfull
    go_wp2_with fail
    refine C2.out.mono ?_
    rintro e w3 ⟨rfl, hO⟩
    have K6 := Lib.hid hO.keeps
    clear hO
    go_wp2_with (first | (go_at_call 13; refine (no_err10' _).mono ?_; rintro e w' ⟨rfl, rfl⟩) | (go_at_call 7; refine (alive_any _).mono ?_; rintro e w5 ⟨rfl, k5⟩; have K5 := Lib.hid k5; clear k5))
    go_ret
    exact ⟨rfl, (K6.out.trans_ K5.out).below (Nat.le_refl _) (fun _ _ h => h)⟩
  obtain ⟨m, hm⟩ : ∃ m, A.M.length + 1 = m := ⟨_, rfl⟩
  have hm' := Lib.hid hm
  have hm20 : m ≤ 20 := by omega
  have e1 : aMark A = ({ A with M := A.M ++ [A.W] }, m, 0) := by
    rcases aMark_cases A with ⟨_, h⟩ | ⟨h, _⟩
    · omega
    · rw [h, hm'.out]
  have C2 := Lib.hid (mark_p hO e1)
  have hw5 := hO.ok.wfew
  clear hO e1
  go_wp2_with fail
  refine C2.out.mono ?_
  rintro e w3 ⟨ev, rfl, hT, hO⟩
  obtain rfl := hT.nil
  have O0 := Lib.hid hO.two
  obtain ⟨W4, hW4⟩ : ∃ W, W = w3.alloc (.cells #[.slice none 0 0, .slice none 0 0, .slice none 0 0] 32) := ⟨_, rfl⟩
  rw [← hW4] at O0
  have hW4' := Lib.hid hW4
  obtain ⟨r, hr⟩ : ∃ r, w3.heap.size = r := ⟨_, rfl⟩
  rw [hr] at O0
  clear hO hT hW4
  go_wp2_with (first | (go_at_call 13; refine (no_nil _).mono ?_; rintro e w' ⟨rfl, rfl⟩))
  rw [← hW4'.out]
  go_loopw [46] (fun iv wr => ∃ (i : Nat) (D C' : AS), iv = .int .i64 i ∧ i ≤ len1 ∧ D.M.take m = A.M ++ [A.W] ∧ m ≤ D.M.length ∧ TwoP w wr s r D C' (fun v => True ∧ Row2 .u64 60 v u1 A.W)) (fun iv _ => len1 - (intOf iv).toNat)
  case atStart => exact ⟨0, _, _, rfl, Nat.zero_le _, List.take_of_length_le (by simp; omega), by show m ≤ (A.M ++ [A.W]).length; simp; omega, O0.out⟩
  case round =>
    clear O0
    obtain ⟨i, D, C', rfl, hi, hM, lm, hO⟩ := hrel
    have TM := Lib.hid hM
    clear hM
    by_cases hlt : i < len1
    · have b5 : (i : Int) < (len1 : Int) := by omega
      obtain ⟨b, o, rfl, hc⟩ := LL1.out.at_ (by omega)
      obtain ⟨x, hx⟩ : ∃ x, L1[i]? = some x := ⟨_, List.getElem?_eq_getElem (by rw [LL1.out.len]; exact hlt)⟩
      obtain ⟨q0, q1, q2, q3⟩ := hc i x hx
      have K := hO.keeps
      have d0 := (K.cell (cell_lt q0) id).trans q0
      have d1 := (K.cell (cell_lt q1) id).trans q1
      have d2 := (K.cell (cell_lt q2) id).trans q2
      have d3 := (K.cell (cell_lt q3) id).trans q3
      have O2 := hO.same ((Keeps.refl (fun _ => False) wr).alloc (.cells #[.int .i64 x.k, .int .u64 x.c, .int .u64 x.v, .int .i64 x.n] 34))
      have C1 := Lib.hid (do_p O2 HG.out x (LL1.out.wf x (List.mem_of_getElem? hx)))
      replace O2 := Lib.hid O2
      clear K q0 q1 q2 q3 hc hO hx
      obtain ⟨xk, xc, xv, xn⟩ := x
      simp only at d0 d1 d2 d3
      by_cases h4 : xk = 4
      · subst h4
        by_cases hnm : xn ≤ (m : Int)
        · go_wp2_with fail
          go_roundw
          case rel => exact ⟨i + 1, D, C', by go_num, by omega, TM.out, lm, O2.out⟩
          case measure => simp [intOf]; omega
        · have hd : decide (xn ≤ (m : Int)) = false := decide_eq_false hnm
          have e0 := Lib.hid (aDo_first (A := D) (a := ⟨4, xc, xv, xn⟩) lm (fun _ => by show (m : Int) < xn; omega))
          go_wp2_with fail
          refine C1.out.mono ?_
          rintro e w2 ⟨b', rfl, h2⟩
          have O5 := Lib.hid h2
          clear h2
          go_wp2_with fail
          go_roundw
          case rel => exact ⟨i + 1, _, _, by go_num, by omega, e0.out.1.trans TM.out, e0.out.2, O5.out⟩
          case measure => simp [intOf]; omega
      have n4 : (xk == 4) = false := by simpa using h4
      by_cases h5 : xk = 5
      · subst h5
        by_cases hnm : xn ≤ (m : Int)
        · go_wp2_with fail
          go_roundw
          case rel => exact ⟨i + 1, D, C', by go_num, by omega, TM.out, lm, O2.out⟩
          case measure => simp [intOf]; omega
        · have hd : decide (xn ≤ (m : Int)) = false := decide_eq_false hnm
          have e0 := Lib.hid (aDo_first (A := D) (a := ⟨5, xc, xv, xn⟩) lm (fun _ => by show (m : Int) < xn; omega))
          go_wp2_with fail
          refine C1.out.mono ?_
          rintro e w2 ⟨b', rfl, h2⟩
          have O5 := Lib.hid h2
          clear h2
          go_wp2_with fail
          go_roundw
          case rel => exact ⟨i + 1, _, _, by go_num, by omega, e0.out.1.trans TM.out, e0.out.2, O5.out⟩
          case measure => simp [intOf]; omega
      have n5 : (xk == 5) = false := by simpa using h5
      have e0 := Lib.hid (aDo_first (A := D) (a := ⟨xk, xc, xv, xn⟩) lm (fun e => e.elim (fun e => absurd e h4) fun e => absurd e h5))
      go_wp2_with fail
      refine C1.out.mono ?_
      rintro e w2 ⟨b', rfl, h2⟩
      have O5 := Lib.hid h2
      clear h2
      go_wp2_with fail
      go_roundw
      case rel => exact ⟨i + 1, _, _, by go_num, by omega, e0.out.1.trans TM.out, e0.out.2, O5.out⟩
      case measure => simp [intOf]; omega
    · obtain rfl : i = len1 := by omega
      have b5 : ¬ (i : Int) < (i : Int) := by omega
      have hgd : D.M.getD (m - 1) [] = A.W := by
        have h1 : (D.M.take m)[m - 1]? = some A.W := by
          rw [TM.out, List.getElem?_append_right (by omega), show m - 1 - A.M.length = 0 by omega]; rfl
        rw [List.getElem?_take_of_lt (by omega)] at h1
        rw [List.getD_eq_getElem?_getD, h1]; rfl
      have htk : D.M.take (m - 1) = A.M := by
        have h1 : (D.M.take m).take (m - 1) = D.M.take (m - 1) := by rw [List.take_take, Nat.min_eq_left (by omega)]
        rw [← h1, TM.out, List.take_left' (by omega)]
      have e2 : aBack D m = ({ D with W := A.W, M := A.M }, 0) := by
        unfold aBack
        rw [if_neg (by omega), show ((m : Int)).toNat - 1 = m - 1 by omega, hgd, htk]
      have e3 : aBack { D with W := A.W, M := A.M } m = ({ D with W := A.W, M := A.M }, 6) := by
        unfold aBack
        rw [if_pos (.inr (by show (A.M.length : Int) < m; omega))]
      have E2 := Lib.hid e2
      have E3 := Lib.hid e3
      have once := Lib.hid hO.on.ok.once
      have few := Lib.hid (show D.R.length ≤ 500 ∧ A.W.length ≤ 500 from ⟨hO.on.ok.rfew, hw5⟩)
      have C3 := Lib.hid (reads_p hO.on)
      clear hO e2 e3 hgd htk TM
      go_wp2_with fail
      refine C3.out.mono ?_
      rintro e w4 ⟨u2, rfl, hO⟩
      have C4 := Lib.hid (back_p hO m E2.out)
      clear hO
      go_wp2_with fail
      refine C4.out.mono ?_
      rintro e w5 ⟨ev, rfl, hT, hO⟩
      obtain rfl := hT.nil
      have C5 := Lib.hid (writes_p hO)
      clear hT hO
      go_wp2_with (first | (go_at_call 13; refine (no_nil _).mono ?_; rintro e w' ⟨rfl, rfl⟩))
      refine C5.out.mono ?_
      rintro e w6 ⟨u3, rfl, hO⟩
      have O6 := Lib.hid hO
      have c6 := sw_any hO.p.2 hO.p.1.1.2 (Nat.le_trans few.out.2 (by decide))
      rw [show decide (A.W = A.W) = true from decide_eq_true rfl] at c6
      have C6 := Lib.hid c6
      clear hO c6
      go_wp2_with fail
      refine C6.out.mono ?_
      rintro e w7 ⟨rfl, hK⟩
      have C7 := Lib.hid (reads_p (O6.out.same hK))
      clear hK
      go_wp2_with fail
      refine C7.out.mono ?_
      rintro e w8 ⟨u4, rfl, hO⟩
      have O8 := Lib.hid hO
      have c8 := sr_any hO.p.2 hO.p.1.1.2 (Nat.le_trans few.out.1 (by decide))
      rw [show decide (D.R = D.R) = true from decide_eq_true rfl] at c8
      have C8 := Lib.hid c8
      clear hO c8
      go_wp2_with fail
      refine C8.out.mono ?_
      rintro e w9 ⟨rfl, hK⟩
      have O9 := Lib.hid (O8.out.same hK)
      clear hK
      obtain ⟨n, hn⟩ : ∃ n, D.R.length = n := ⟨_, rfl⟩
      have hn' := Lib.hid hn
      obtain ⟨uo, uc, rfl, ho⟩ := row2_cells O9.out.p.1.1.2 hn
      have hcap : n ≤ uc := by
        rcases O9.out.p.1.1.2.2 with ⟨hv, hz⟩ | ⟨g, cap, cur, hv, _, _, r1, _⟩
        · have : n = 0 := by rw [← hn]; exact hz
          omega
        · injection hv with _ _ hcc
          rw [hcc, ← hn]; exact r1
      have hn5 : n ≤ 500 := by have := few.out.1; omega
      have HO := Lib.hid ho
      clear few O6 O8 ho hn
      go_wp2_with fail
      go_loopw [93] (fun iv wr => ∃ (j : Nat), iv = .int .i64 j ∧ j ≤ n ∧ Keeps (fun _ => False) w9 wr) (fun iv _ => n - (intOf iv).toNat)
      case atStart => exact ⟨0, rfl, Nat.zero_le _, Keeps.refl _ _⟩
      case round =>
        obtain ⟨j, rfl, hj, hK⟩ := hrel
        have KJ := Lib.hid hK
        clear hK
        by_cases hlj : j < n
        · have b6 : (j : Int) < (n : Int) := by omega
          have b7 : (j : Int) ≤ (uc : Int) := by omega
          have b8 : (0 : Int) ≤ (j : Int) := by omega
          obtain ⟨g, rfl, hc⟩ := HO.out (by omega)
          obtain ⟨cj, vj, hcj⟩ : ∃ c v, D.R[j]? = some (c, v) := ⟨_, _, List.getElem?_eq_getElem (by rw [hn'.out]; exact hlj)⟩
          have HC := Lib.hid hc
          have hcj' := Lib.hid hcj
          clear hc hcj
          go_wp2_with fail
          go_loopw [100] (fun kv wx => ∃ (k : Nat), kv = .int .i64 k ∧ k ≤ j ∧ Keeps (fun _ => False) w9 wx) (fun kv _ => j - (intOf kv).toNat)
          case atStart => exact ⟨0, rfl, Nat.zero_le _, KJ.out⟩
          case round =>
            obtain ⟨k, rfl, hk, hK⟩ := hrel
            have KK := Lib.hid hK
            by_cases hlk : k < j
            · have b9 : (k : Int) < (j : Int) := by omega
              have b10 : (k : Int) < (n : Int) := by omega
              obtain ⟨ck, vk, hck⟩ : ∃ c v, D.R[k]? = some (c, v) := ⟨_, _, List.getElem?_eq_getElem (by rw [hn'.out]; omega)⟩
              have x1 := (HC.out j _ hcj'.out).1
              have x2 := (HC.out k _ hck).1
              have d1 := (hK.cell (cell_lt x1) id).trans x1
              have d2 := (hK.cell (cell_lt x2) id).trans x2
              have hne : (cj == ck) = false := by
                have hj2 : (D.R.map (·.1))[j]? = some cj := by rw [List.getElem?_map, hcj'.out]; rfl
                have hk2 : (D.R.map (·.1))[k]? = some ck := by rw [List.getElem?_map, hck]; rfl
                obtain ⟨p1, p2⟩ := List.getElem?_eq_some_iff.1 hj2
                obtain ⟨p3, p4⟩ := List.getElem?_eq_some_iff.1 hk2
                have := List.pairwise_iff_getElem.1 once.out k j p3 p1 hlk
                rw [p2, p4] at this
                simpa using fun e => this (e : cj = ck).symm
              simp only at d1 d2
              clear x1 x2 hK hck
              go_wp2_with fail
              go_quiet (fail)
              go_wp2_with fail
              go_roundw
              case rel => exact ⟨k + 1, by go_num, by omega, KK.out.drewN nq⟩
              case measure => simp [intOf]; omega
            · obtain rfl : k = j := by omega
              have b9 : ¬ (k : Int) < (k : Int) := by omega
              clear hK
              go_wp2_with fail
              go_roundw
              case rel => exact ⟨k + 1, by go_num, by omega, KK.out⟩
              case measure => simp [intOf]; omega
        · obtain rfl : j = n := by omega
          have b6 : ¬ (j : Int) < (j : Int) := by omega
          have C10 := Lib.hid (back_p (O9.out.same KJ.out) m E3.out)
          go_wp2_with fail
          refine C10.out.mono ?_
          rintro e w10 ⟨ev, rfl, hT, hO⟩
          have N10 := Lib.hid (no_err6 hT)
          have K6 := Lib.hid hO.keeps
          clear hT hO
          go_wp2_with (first | (go_at_call 13; refine N10.out.mono ?_; rintro e w' ⟨rfl, rfl⟩) | (go_at_call 7; refine (alive_any _).mono ?_; rintro e w5 ⟨rfl, k5⟩; have K5 := Lib.hid k5; clear k5))
          go_ret
          exact ⟨rfl, (K6.out.trans_ K5.out).below (Nat.le_refl _) (fun _ _ h => h)⟩

theorem setsBack_et : Tryd.prog.globalNamed "errors.errorType" = some 0 := by kernel_rfl
theorem setsBack_rt : (Tryd.prog.cutTypes.find? (·.1 == "internal/reflectlite.rtype")).map (·.2) = some 114 := by kernel_rfl
theorem setsBack_oneRow : ((List.range 176).filter fun t => Tryd.prog.rowNamed t [101, 114, 114, 111, 114]) = [41] := by kernel_rfl
theorem setsBack_size : Tryd.prog.types.size = 176 := by kernel_rfl

/-- What the listed variable gives the walk. -/
theorem setsBack_glob {W : World} (h : laidMetH Tryd.prog Rows.setsBackRow.laid W) : Glob W := by
  have h' : laidMet Tryd.prog [] W ∧ handlesMet Tryd.prog Rows.setsBackRow.laid W := h
  obtain ⟨name, u, ty, e1, e2, e3, e4, e5⟩ := h'.2 _ (List.mem_singleton.2 rfl)
  have en : name = [101, 114, 114, 111, 114] := (Option.some.inj e1).symm
  subst en
  obtain rfl := Option.some.inj (setsBack_rt.symm.trans e2)
  have hm : ty ∈ (List.range 176).filter fun t => Tryd.prog.rowNamed t [101, 114, 114, 111, 114] := List.mem_filter.2 ⟨List.mem_range.2 (by rw [← setsBack_size]; exact e3), e4⟩
  rw [setsBack_oneRow] at hm
  obtain rfl := List.mem_singleton.1 hm
  have hh : typeHandle Tryd.prog 41 = .pointer (some ⟨1, 41, none⟩) := by kernel_rfl
  rw [hh] at e5
  unfold Glob
  simpa using World.var?_cell setsBack_et e5 0

/-- A world that meets the condition: the settled one, the variable's cell laid. -/
noncomputable def setsBack_laidWorld (os : Os) : World :=
  let w0 := World.holding Tryd.prog os ⟨#[], #[], []⟩
  { w0 with heap := w0.heap.modify 0 fun
      | .cells _ t frozen => .cells #[.iface 114 (.agg #[.pointer (some ⟨1, 41, none⟩)])] t frozen
      | o => o }
theorem setsBack_met (os : Os) (args : Array Value) : laidMetH Tryd.prog Rows.setsBackRow.laid ((setsBack_laidWorld os).forCall (fun _ _ => 0) ⟨#[], args, []⟩).memory :=
  laidMetH_of_parts (laidMet_nil _ _) (by kernel_rfl)

theorem setsBack_own : ownKnob Tryd.prog.godebug = none := by kernel_rfl
theorem setsBack_laidOut : laidOutB Tryd.prog = true := by kernel_rfl

set_option maxRecDepth 100000 in
theorem setsBack_lifted (os : Os) (started : os.Started) (H : Type) (enc : TypeId × Value → H) :
    ReturnsInHanded {} Tryd.checked os 4 .any (fun w args => (Rows.setsBackSpec.pre enc Tryd.prog Tryd.f4 [] false w args ∧ laidMetH Tryd.prog Rows.setsBackRow.laid w) ∧ sizedMet enc Tryd.prog Tryd.f4 (OpenSpec.ofChange Rows.setsBackSpec) false w args)
      (Rows.setsBackSpec.post enc Tryd.prog Tryd.f4 false true false false) := by
  refine returnsInHanded_of_change_and (C := Tryd.checked) (X := fun w _ => laidMetH Tryd.prog Rows.setsBackRow.laid w) (fun _ _ _ hh h => h.of_heap hh) setsBack_own started (by kernel_rfl) Tryd.func4
    (ChangeSpec.witness_at (enc := enc) (C := Tryd.checked) (os := os) (X := fun w _ => laidMetH Tryd.prog Rows.setsBackRow.laid w) false (setsBack_laidWorld os) #[.slice none 0 0, .slice none 0 0] 8 rfl (by kernel_rfl) (by kernel_rfl) (by kernel_rfl) (by kernel_rfl) (by kernel_rfl) (setsBack_met os _)) ?_
  intro W base args ds gs before hval0 hW hcnd _ hL _
  have hGl := setsBack_glob hL
  clear hcnd
  have hval : ∀ (j : Nat) t v, Tryd.f4.params[j]? = some t → args[j]? = some v → Value.okWide Tryd.prog W .any base t v := hval0
  have hW' := hW
  obtain ⟨p, q, hA0, hV, rfl, hfz, hnd⟩ := hW
  have hA : DataW.TrodAll enc Tryd.prog W 0 (fun _ => true) true Tryd.f4.params.toList args.toList ds p := hA0
  rw [Tryd.params4] at hA hval
  obtain ⟨v0, vs0, d0, ds0, p0, q0, hargs, rfl, rfl, h0, r0⟩ := trodAll_cons hA
  obtain ⟨v1, vs1, d1, ds1, p1, q1, rfl, rfl, rfl, h1, r1⟩ := trodAll_cons r0
  obtain ⟨rfl, rfl, rfl⟩ := trodAll_nil r1
  obtain rfl : args = #[v0, v1] := by cases args; simp_all
  obtain ⟨rfl, rfl⟩ := trodVars_none hV
  have k0 := h0
  have lt0 : ∀ x ∈ p0, x.block < W.heap.size := by obtain ⟨m, hm⟩ := k0; exact DataW.trod_lt m _ _ _ hm
  obtain ⟨a0, len0, cap0, rfl⟩ := okWide_slice Tryd.underlying22 (hval 0 22 v0 rfl rfl)
  have w0 : Acts7 W a0 len0 cap0 := by
    obtain ⟨fuel, hf⟩ := h0
    rcases open_slice_fields Tryd.underlying22 Tryd.underlying34 (by kernel_rfl) (by kernel_rfl) hf with ⟨hcs, _⟩ | ⟨x, l, c, m, D, Pl, hcs, _, hl, hm, hmm, _, hi⟩
    · simp [Value.cells] at hcs
      obtain ⟨rfl, rfl, rfl⟩ := hcs
      exact .inl ⟨rfl, rfl, rfl⟩
    · simp [Value.cells] at hcs
      obtain ⟨rfl, rfl, rfl⟩ := hcs
      refine .inr ⟨_, rfl, hl, hm, fun i hlt => ?_⟩
      obtain ⟨ys, n, _, _, _, hf⟩ := hi i (by rw [hmm]; split <;> omega)
      obtain ⟨u0, y0, c0, _, t0⟩ := hf 0 _ rfl
      obtain ⟨z0, e0, _, _⟩ := DataW.trod_int (k := .i64) (by kernel_rfl) t0
      simp at e0
      subst e0
      obtain ⟨u1, y1, c1, _, t1⟩ := hf 1 _ rfl
      obtain ⟨z1, e1, _, g1⟩ := DataW.trod_int (k := .u64) (by kernel_rfl) t1
      simp at e1
      subst e1
      obtain ⟨u2, y2, c2, _, t2⟩ := hf 2 _ rfl
      obtain ⟨z2, e2, _, _⟩ := DataW.trod_int (k := .u64) (by kernel_rfl) t2
      simp at e2
      subst e2
      obtain ⟨u3, y3, c3, _, t3⟩ := hf 3 _ rfl
      obtain ⟨z3, e3, _, _⟩ := DataW.trod_int (k := .i64) (by kernel_rfl) t3
      simp at e3
      subst e3
      exact ⟨z0, z1, z2, z3, c0, c1, c2, c3, g1⟩
  have k1 := h1
  have lt1 : ∀ x ∈ p1, x.block < W.heap.size := by obtain ⟨m, hm⟩ := k1; exact DataW.trod_lt m _ _ _ hm
  obtain ⟨a1, len1, cap1, rfl⟩ := okWide_slice Tryd.underlying22 (hval 1 22 v1 rfl rfl)
  have w1 : Acts7 W a1 len1 cap1 := by
    obtain ⟨fuel, hf⟩ := h1
    rcases open_slice_fields Tryd.underlying22 Tryd.underlying34 (by kernel_rfl) (by kernel_rfl) hf with ⟨hcs, _⟩ | ⟨x, l, c, m, D, Pl, hcs, _, hl, hm, hmm, _, hi⟩
    · simp [Value.cells] at hcs
      obtain ⟨rfl, rfl, rfl⟩ := hcs
      exact .inl ⟨rfl, rfl, rfl⟩
    · simp [Value.cells] at hcs
      obtain ⟨rfl, rfl, rfl⟩ := hcs
      refine .inr ⟨_, rfl, hl, hm, fun i hlt => ?_⟩
      obtain ⟨ys, n, _, _, _, hf⟩ := hi i (by rw [hmm]; split <;> omega)
      obtain ⟨u0, y0, c0, _, t0⟩ := hf 0 _ rfl
      obtain ⟨z0, e0, _, _⟩ := DataW.trod_int (k := .i64) (by kernel_rfl) t0
      simp at e0
      subst e0
      obtain ⟨u1, y1, c1, _, t1⟩ := hf 1 _ rfl
      obtain ⟨z1, e1, _, g1⟩ := DataW.trod_int (k := .u64) (by kernel_rfl) t1
      simp at e1
      subst e1
      obtain ⟨u2, y2, c2, _, t2⟩ := hf 2 _ rfl
      obtain ⟨z2, e2, _, _⟩ := DataW.trod_int (k := .u64) (by kernel_rfl) t2
      simp at e2
      subst e2
      obtain ⟨u3, y3, c3, _, t3⟩ := hf 3 _ rfl
      obtain ⟨z3, e3, _, _⟩ := DataW.trod_int (k := .i64) (by kernel_rfl) t3
      simp at e3
      subst e3
      exact ⟨z0, z1, z2, z3, c0, c1, c2, c3, g1⟩
  clear hA0 hval0
  refine (setsBack_walk a0 len0 cap0 a1 len1 cap1 W w0 w1 hGl).mono fun e W' ⟨he, bel⟩ => ?_
  subst he
  exact ⟨_, rfl, _, _, _, [], _, [], hW', trodAll_mk1 (shut_bool Tryd.underlying4 _), (trodAll_cons_mk (Below.trod setsBack_laidOut (by kernel_rfl) (of_decide_eq_true (by kernel_rfl)) k0 bel lt0) (trodAll_cons_mk (Below.trod setsBack_laidOut (by kernel_rfl) (of_decide_eq_true (by kernel_rfl)) k1 bel lt1) trodAll_mk0)), rfl, bel.frame _, fun h => by cases h⟩

/-- The statement SetsBack. -/
theorem setsBack_holds : Rows.SetsBackSaid :=
  OpenClaim.holds_of_wide 4 Tryd.f4 rfl rfl rfl rfl rfl rfl rfl ⟨rfl, rfl, rfl, rfl, rfl⟩ rfl rfl rfl rfl rfl (by kernel_rfl) Tryd.func4 (by kernel_rfl)
    (of_decide_eq_true (by kernel_rfl)) (by unfold Func.isWrapper; first | (rw [if_pos (by decide +kernel)]; kernel_rfl) | (rw [if_neg (by decide +kernel)]; exact ⟨rfl, rfl⟩))
    (fun os started H enc _ => setsBack_lifted os started H enc)
#print axioms setsBack_holds

/-- The card: the row, what it lists tied to the program's text. -/
theorem setsBack_card : Rows.SetsBackCardSaid :=
  Claim7.holds_tied_plain_at .later [] [.handle] true Rows.setsBackCard.stood.harness true
    setsBack_holds (fun _ h => by cases h) (by kernel_rfl) (fun _ h => by cases h) setsBack_row_tie rfl ⟨rfl, rfl⟩ (by kernel_rfl) rfl
    (fun f fn hf hfn => by
      obtain rfl : f = 4 := Option.some.inj ((show Tryd.prog.funcNamed "concord/concordlaw07.SetsBack" = some 4 by kernel_rfl).symm.trans hf) |>.symm
      obtain rfl : fn = Tryd.f4 := (Option.some.inj (Tryd.func4.symm.trans hfn)).symm
      exact ⟨by kernel_rfl, fun j t ht => by
        rw [Tryd.params4] at ht
        have hm : t ∈ Tryd.f4.params.toList := by rw [Tryd.params4]; simpa using Array.mem_of_getElem? ht
        have hall : (Tryd.f4.params.toList.all fun u => !Tryd.prog.wantsStandIn u) = true := by kernel_rfl
        exact (show Tryd.prog.wantsStandIn t = false by simpa using List.all_eq_true.1 hall t hm)⟩)
    (by kernel_rfl)
#print axioms setsBack_card
end Go.Proofs.YtkolkimmhlmlgaaDoor
