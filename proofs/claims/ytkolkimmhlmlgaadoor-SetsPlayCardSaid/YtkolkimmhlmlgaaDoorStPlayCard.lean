/-
  SetsPlay: called with any calls and any cell, concordlaw07.SetsPlay returns true and changes nothing; the library's variable errors.errorType holds what the program's text lays in it (the card ties it). The card says nothing of code outside the pruned copy.
-/
import Derived.Test.YtkolkimmhlmlgaaDoorStPlay
import Derived.Test.YtkolkimmhlmlgaaDoorStSame7
import Derived.Test.YtkolkimmhlmlgaaDoorTie
import Derived.Test.YtkolkimmhlmlgaaDoorCards
import Derived.ProofKit
import Derived.OpenShut
import Derived.ShutString
import Derived.ChangeOld
import Derived.RowKitTokens
import Derived.LaidLaws
import Derived.LaidHandle
import Derived.LaidMore
import Derived.Stop.Joined
import Derived.SevenTiedAt
import Derived.Lib.SmallJoins
namespace Go.Proofs.YtkolkimmhlmlgaaDoor
open Go.RowKit Go.Maps Go.Extern.Stop Go.Stop Go.Extern
open Go.ChangeShapes Go.WideShapes Go.ChangeAt Go.Deep

/-- A call of both, of a call that lies in memory: it stays there. -/
theorem do_held {w0 w : World} {s r : Nat} {A : AS} (h : Both w0 w s r A) (hg : Glob w0) (a : Act7) (hc : wfU a.c) :
    Calls Tryd.prog 8 #[.pointer (some ⟨s, 0, none⟩), .pointer (some ⟨r, 0, none⟩), .agg #[.int .i64 a.k, .int .u64 a.c, .int .u64 a.v, .int .i64 a.n]] (w.alloc (.cells #[.int .i64 a.k, .int .u64 a.c, .int .u64 a.v, .int .i64 a.n] 34)) fun e w' => e = .returned (.bool true) ∧ Both w0 w' s r (aDo A a) ∧ w'.cell? ⟨w.heap.size, 1, none⟩ = some (.int .u64 a.c) := by
  have hgl := hg.lt
  obtain ⟨W, hW⟩ : ∃ W, W = w.alloc (.cells #[.int .i64 a.k, .int .u64 a.c, .int .u64 a.v, .int .i64 a.n] 34) := ⟨_, rfl⟩
  have k : Keeps (fun _ => False) w W := by rw [hW]; exact (Keeps.refl _ w).alloc _
  have mB : Whole W w.heap.size 34 #[.int .i64 a.k, .int .u64 a.c, .int .u64 a.v, .int .i64 a.n] := by rw [hW]; exact Whole.made _ _ _
  obtain ⟨X, Y, h1, h2, h3, h4, h5⟩ := h
  have nX := h1.old
  have nY := h2.old
  rw [← hW]
  refine (do_any7 (h1.same k) (h2.same k) h3 (hg.keeps (h5.trans k fun _ _ => id) id) (fun e => by have := h4 _ e; omega) a hc).mono ?_
  rintro e w' ⟨rfl, X', Y', a1, a2, a3, a4, a5, a6⟩
  refine ⟨rfl, ⟨X', Y', a1, a2, a5, fun x hx => ?_, (h5.trans k fun _ _ => id).trans a6 fun x hx e => by have := h4 x e; omega⟩, (mB.keeps a6 fun g => by rcases g with g | g; exact absurd (nX _ g) (Nat.lt_irrefl _); exact absurd (nY _ g) (Nat.lt_irrefl _)).at_ 1⟩
  have hs := (h5.trans k fun _ _ => id).size
  rcases hx with hx | hx
  · rcases a3 x hx with g | g
    · exact h4 x (.inl g)
    · exact Nat.le_trans hs g
  · rcases a4 x hx with g | g
    · exact h4 x (.inr g)
    · exact Nat.le_trans hs g

theorem same_both {w0 w : World} {s r : Nat} {A : AS} (h : Both w0 w s r A) (c : Int) (hc : wfU c) :
    Calls Tryd.prog 9 #[.pointer (some ⟨s, 0, none⟩), .pointer (some ⟨r, 0, none⟩), .int .u64 c] w fun e w' => e = .returned (.bool true) ∧ Both w0 w' s r A := by
  obtain ⟨X, Y, h1, h2, h3, h4, h5⟩ := h
  exact (same_any7 h1 h2 c hc).mono fun e w' ⟨e1, k⟩ => ⟨e1, Both.same ⟨X, Y, h1, h2, h3, h4, h5⟩ k⟩

set_option maxRecDepth 100000 in
set_option maxHeartbeats 4000000 in
theorem setsPlay_walk (a0 : Option Addr) (len0 cap0 : Nat) (a1 : Int) (w : World) (w0 : Acts7 w a0 len0 cap0) (w1 : (Lit.int .u64 a1).wf) (hg : Glob w) :
    Calls Tryd.prog 3 #[.slice a0 len0 cap0, .int .u64 a1] w fun e w' => e = .returned (.bool true) ∧ Below w.heap.size w w' := by
  obtain ⟨L0, hL0⟩ := w0.list
  have LL := Lib.hid hL0
  have HG := Lib.hid hg
  have hc1 : wfU a1 := w1
  clear hL0 hg w1
  by_cases hlong : 80 < len0
  · have b0 : (80 : Int) < (len0 : Int) := by omega
    clear w0
    go_enter Tryd.func3, Tryd.ntmps3
    go_wp2_with fail
    refine (new_on _).mono ?_
    rintro e w1 ⟨s, rfl, h1⟩
    have K1 := Lib.hid h1.keeps
    clear h1
    go_wp2_with (first
      | (go_at_call 7; refine (alive_any _).mono ?_; rintro e w5 ⟨rfl, k5⟩; have K5 := Lib.hid (K1.out.trans k5 fun _ _ => id); clear k5))
    go_ret
    exact ⟨rfl, K5.out.below (Nat.le_refl _) (fun _ _ h => h)⟩
  have b0 : ¬ (80 : Int) < (len0 : Int) := by omega
  have hn : len0 ≤ 80 := by omega
  clear w0 hlong
  go_enter Tryd.func3, Tryd.ntmps3
  go_wp2_with fail
  refine (new_on _).mono ?_
  rintro e w1 ⟨s, rfl, h1⟩
  have O1 := Lib.hid h1
  clear h1
  go_upto_block 6 with (first
    | (go_at_call 7; refine (alive_any _).mono ?_; rintro e w2 ⟨rfl, k5⟩; have O2 := Lib.hid (O1.out.same k5); clear k5))
  have B1 := Lib.hid O2.out.both
  obtain ⟨W1, hW1⟩ : ∃ W, W = w2.alloc (.cells #[.slice none 0 0, .slice none 0 0, .slice none 0 0] 32) := ⟨_, rfl⟩
  rw [← hW1] at B1
  have hW1' := Lib.hid hW1
  clear hW1
  go_wp2_with fail
  rw [← hW1'.out]
  generalize w2.heap.size = r at *
  go_loopw [23] (fun iv wr => ∃ (i : Nat) (A : AS), iv = .int .i64 i ∧ i ≤ len0 ∧ Both w wr s r A) (fun iv _ => len0 - (intOf iv).toNat)
  case atStart => exact ⟨0, _, rfl, Nat.zero_le _, B1.out⟩
  case round =>
    obtain ⟨i, A, rfl, hi, hB⟩ := hrel
    by_cases hlt : i < len0
    · have b1 : (i : Int) < (len0 : Int) := by omega
      obtain ⟨b, o, rfl, hc⟩ := LL.out.at_ (by omega)
      obtain ⟨x, hx⟩ : ∃ x, L0[i]? = some x := ⟨_, List.getElem?_eq_getElem (by rw [LL.out.len]; exact hlt)⟩
      obtain ⟨q0, q1, q2, q3⟩ := hc i x hx
      have K := hB.keeps
      have d0 := (K.cell (cell_lt q0) id).trans q0
      have d1 := (K.cell (cell_lt q1) id).trans q1
      have d2 := (K.cell (cell_lt q2) id).trans q2
      have d3 := (K.cell (cell_lt q3) id).trans q3
      have hcx := LL.out.wf x (List.mem_of_getElem? hx)
      have C1 := Lib.hid (do_held hB HG.out x hcx)
      clear K q0 q1 q2 q3 hc hB hx
      obtain ⟨xk, xc, xv, xn⟩ := x
      simp only at d0 d1 d2 d3 hcx
      go_wp2_with fail
      refine C1.out.mono ?_
      rintro e w3 ⟨rfl, h2, h3⟩
      have C2 := Lib.hid (same_both h2 xc hcx)
      have d4 : w3.cell? ⟨wr.heap.size, 1, none⟩ = some (.int .u64 xc) := h3
      clear h2 h3
      go_wp2_with fail
      refine C2.out.mono ?_
      rintro e w4 ⟨rfl, h2⟩
      have C3 := Lib.hid (same_both h2 a1 hc1)
      clear h2
      go_wp2_with fail
      refine C3.out.mono ?_
      rintro e w5 ⟨rfl, h2⟩
      have B2 := Lib.hid h2
      clear h2
      go_wp2_with fail
      go_roundw
      case rel => exact ⟨i + 1, _, by go_num, by omega, B2.out⟩
      case measure => simp [intOf]; omega
    · obtain rfl : i = len0 := by omega
      have b1 : ¬ (i : Int) < (i : Int) := by omega
      have O := Lib.hid hB.keeps
      clear hB
      go_wp2_with fail
      go_ret
      exact ⟨rfl, O.out.below (Nat.le_refl _) (fun _ _ h => h)⟩

theorem setsPlay_et : Tryd.prog.globalNamed "errors.errorType" = some 0 := by kernel_rfl
theorem setsPlay_rt : (Tryd.prog.cutTypes.find? (·.1 == "internal/reflectlite.rtype")).map (·.2) = some 114 := by kernel_rfl
theorem setsPlay_oneRow : ((List.range 176).filter fun t => Tryd.prog.rowNamed t [101, 114, 114, 111, 114]) = [41] := by kernel_rfl
theorem setsPlay_size : Tryd.prog.types.size = 176 := by kernel_rfl

/-- What the listed variable gives the walk. -/
theorem setsPlay_glob {W : World} (h : laidMetH Tryd.prog Rows.setsPlayRow.laid W) : Glob W := by
  have h' : laidMet Tryd.prog [] W ∧ handlesMet Tryd.prog Rows.setsPlayRow.laid W := h
  obtain ⟨name, u, ty, e1, e2, e3, e4, e5⟩ := h'.2 _ (List.mem_singleton.2 rfl)
  have en : name = [101, 114, 114, 111, 114] := (Option.some.inj e1).symm
  subst en
  obtain rfl := Option.some.inj (setsPlay_rt.symm.trans e2)
  have hm : ty ∈ (List.range 176).filter fun t => Tryd.prog.rowNamed t [101, 114, 114, 111, 114] := List.mem_filter.2 ⟨List.mem_range.2 (by rw [← setsPlay_size]; exact e3), e4⟩
  rw [setsPlay_oneRow] at hm
  obtain rfl := List.mem_singleton.1 hm
  have hh : typeHandle Tryd.prog 41 = .pointer (some ⟨1, 41, none⟩) := by kernel_rfl
  rw [hh] at e5
  unfold Glob
  simpa using World.var?_cell setsPlay_et e5 0

/-- A world that meets the condition: the settled one, the variable's cell laid. -/
noncomputable def setsPlay_laidWorld (os : Os) : World :=
  let w0 := World.holding Tryd.prog os ⟨#[], #[], []⟩
  { w0 with heap := w0.heap.modify 0 fun
      | .cells _ t frozen => .cells #[.iface 114 (.agg #[.pointer (some ⟨1, 41, none⟩)])] t frozen
      | o => o }
theorem setsPlay_met (os : Os) (args : Array Value) : laidMetH Tryd.prog Rows.setsPlayRow.laid ((setsPlay_laidWorld os).forCall (fun _ _ => 0) ⟨#[], args, []⟩).memory :=
  laidMetH_of_parts (laidMet_nil _ _) (by kernel_rfl)

theorem setsPlay_own : ownKnob Tryd.prog.godebug = none := by kernel_rfl
theorem setsPlay_laidOut : laidOutB Tryd.prog = true := by kernel_rfl

set_option maxRecDepth 100000 in
theorem setsPlay_lifted (os : Os) (started : os.Started) (H : Type) (enc : TypeId × Value → H) :
    ReturnsInHanded {} Tryd.checked os 3 .any (fun w args => (Rows.setsPlaySpec.pre enc Tryd.prog Tryd.f3 [] false w args ∧ laidMetH Tryd.prog Rows.setsPlayRow.laid w) ∧ sizedMet enc Tryd.prog Tryd.f3 (OpenSpec.ofChange Rows.setsPlaySpec) false w args)
      (Rows.setsPlaySpec.post enc Tryd.prog Tryd.f3 false true false false) := by
  refine returnsInHanded_of_change_and (C := Tryd.checked) (X := fun w _ => laidMetH Tryd.prog Rows.setsPlayRow.laid w) (fun _ _ _ hh h => h.of_heap hh) setsPlay_own started (by kernel_rfl) Tryd.func3
    (ChangeSpec.witness_at (enc := enc) (C := Tryd.checked) (os := os) (X := fun w _ => laidMetH Tryd.prog Rows.setsPlayRow.laid w) false (setsPlay_laidWorld os) #[.slice none 0 0, .int .u64 0] 8 rfl (by kernel_rfl) (by kernel_rfl) (by kernel_rfl) (by kernel_rfl) (by kernel_rfl) (setsPlay_met os _)) ?_
  intro W base args ds gs before hval0 hW hcnd _ hL _
  have hGl := setsPlay_glob hL
  clear hcnd
  have hval : ∀ (j : Nat) t v, Tryd.f3.params[j]? = some t → args[j]? = some v → Value.okWide Tryd.prog W .any base t v := hval0
  have hW' := hW
  obtain ⟨p, q, hA0, hV, rfl, hfz, hnd⟩ := hW
  have hA : DataW.TrodAll enc Tryd.prog W 0 (fun _ => true) true Tryd.f3.params.toList args.toList ds p := hA0
  rw [Tryd.params3] at hA hval
  obtain ⟨v0, vs0, d0, ds0, p0, q0, hargs, rfl, rfl, h0, r0⟩ := trodAll_cons hA
  obtain ⟨v1, vs1, d1, ds1, p1, q1, rfl, rfl, rfl, h1, r1⟩ := trodAll_cons r0
  obtain ⟨rfl, rfl, rfl⟩ := trodAll_nil r1
  obtain rfl : args = #[v0, v1] := by cases args; simp_all
  obtain ⟨rfl, rfl⟩ := trodVars_none hV
  have k0 := h0
  have lt0 : ∀ x ∈ p0, x.block < W.heap.size := by obtain ⟨m, hm⟩ := k0; exact DataW.trod_lt m _ _ _ hm
  obtain ⟨a0, len0, cap0, rfl⟩ := okWide_slice Tryd.underlying22 (hval 0 22 v0 rfl rfl)
  have w0 : Acts7 W a0 len0 cap0 := by
    obtain ⟨fuel, hf⟩ := h0
    rcases open_slice_fields Tryd.underlying22 Tryd.underlying34 (by kernel_rfl) (by kernel_rfl) hf with ⟨hcs, _⟩ | ⟨x, l, c, m, D, Pl, hcs, _, hl, hm, hmm, _, hi⟩
    · simp [Value.cells] at hcs
      obtain ⟨rfl, rfl, rfl⟩ := hcs
      exact .inl ⟨rfl, rfl, rfl⟩
    · simp [Value.cells] at hcs
      obtain ⟨rfl, rfl, rfl⟩ := hcs
      refine .inr ⟨_, rfl, hl, hm, fun i hlt => ?_⟩
      obtain ⟨ys, n, _, _, _, hf⟩ := hi i (by rw [hmm]; split <;> omega)
      obtain ⟨u0, y0, c0, _, t0⟩ := hf 0 _ rfl
      obtain ⟨z0, e0, _, _⟩ := DataW.trod_int (k := .i64) (by kernel_rfl) t0
      simp at e0
      subst e0
      obtain ⟨u1, y1, c1, _, t1⟩ := hf 1 _ rfl
      obtain ⟨z1, e1, _, g1⟩ := DataW.trod_int (k := .u64) (by kernel_rfl) t1
      simp at e1
      subst e1
      obtain ⟨u2, y2, c2, _, t2⟩ := hf 2 _ rfl
      obtain ⟨z2, e2, _, _⟩ := DataW.trod_int (k := .u64) (by kernel_rfl) t2
      simp at e2
      subst e2
      obtain ⟨u3, y3, c3, _, t3⟩ := hf 3 _ rfl
      obtain ⟨z3, e3, _, _⟩ := DataW.trod_int (k := .i64) (by kernel_rfl) t3
      simp at e3
      subst e3
      exact ⟨z0, z1, z2, z3, c0, c1, c2, c3, g1⟩
  have k1 := h1
  have lt1 : ∀ x ∈ p1, x.block < W.heap.size := by obtain ⟨m, hm⟩ := k1; exact DataW.trod_lt m _ _ _ hm
  obtain ⟨a1, rfl, e1, f1, w1⟩ := open_int Tryd.underlying23 (hval 1 23 v1 rfl rfl) h1
  clear e1 f1
  clear hA0 hval0
  refine (setsPlay_walk a0 len0 cap0 a1 W w0 w1 hGl).mono fun e W' ⟨he, bel⟩ => ?_
  subst he
  exact ⟨_, rfl, _, _, _, [], _, [], hW', trodAll_mk1 (shut_bool Tryd.underlying4 _), (trodAll_cons_mk (Below.trod setsPlay_laidOut (by kernel_rfl) (of_decide_eq_true (by kernel_rfl)) k0 bel lt0) (trodAll_cons_mk (Below.trod setsPlay_laidOut (by kernel_rfl) (of_decide_eq_true (by kernel_rfl)) k1 bel lt1) trodAll_mk0)), rfl, bel.frame _, fun h => by cases h⟩

/-- The statement SetsPlay. -/
theorem setsPlay_holds : Rows.SetsPlaySaid :=
  OpenClaim.holds_of_wide 3 Tryd.f3 rfl rfl rfl rfl rfl rfl rfl ⟨rfl, rfl, rfl, rfl, rfl⟩ rfl rfl rfl rfl rfl (by kernel_rfl) Tryd.func3 (by kernel_rfl)
    (of_decide_eq_true (by kernel_rfl)) (by unfold Func.isWrapper; first | (rw [if_pos (by decide +kernel)]; kernel_rfl) | (rw [if_neg (by decide +kernel)]; exact ⟨rfl, rfl⟩))
    (fun os started H enc _ => setsPlay_lifted os started H enc)
#print axioms setsPlay_holds

/-- The card: the row, what it lists tied to the program's text. -/
theorem setsPlay_card : Rows.SetsPlayCardSaid :=
  Claim7.holds_tied_plain_at .later [] [.handle] true Rows.setsPlayCard.stood.harness true
    setsPlay_holds (fun _ h => by cases h) (by kernel_rfl) (fun _ h => by cases h) setsPlay_row_tie rfl ⟨rfl, rfl⟩ (by kernel_rfl) rfl
    (fun f fn hf hfn => by
      obtain rfl : f = 3 := Option.some.inj ((show Tryd.prog.funcNamed "concord/concordlaw07.SetsPlay" = some 3 by kernel_rfl).symm.trans hf) |>.symm
      obtain rfl : fn = Tryd.f3 := (Option.some.inj (Tryd.func3.symm.trans hfn)).symm
      exact ⟨by kernel_rfl, fun j t ht => by
        rw [Tryd.params3] at ht
        have hm : t ∈ Tryd.f3.params.toList := by rw [Tryd.params3]; simpa using Array.mem_of_getElem? ht
        have hall : (Tryd.f3.params.toList.all fun u => !Tryd.prog.wantsStandIn u) = true := by kernel_rfl
        exact (show Tryd.prog.wantsStandIn t = false by simpa using List.all_eq_true.1 hall t hm)⟩)
    (by kernel_rfl)
#print axioms setsPlay_card

end Go.Proofs.YtkolkimmhlmlgaaDoor
