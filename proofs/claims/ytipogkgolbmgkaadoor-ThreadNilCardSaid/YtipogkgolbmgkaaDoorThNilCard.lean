/-
  ThreadNil: called with any ref and any numbers, concordlaw05.ThreadNil returns true and changes nothing; the library's variable errors.errorType holds what the program's text lays in it (the card ties it). The card says nothing of code outside the pruned copy.
-/
import Derived.Test.YtipogkgolbmgkaaDoorThNil
import Derived.Test.YtipogkgolbmgkaaDoorTie
import Derived.Test.YtipogkgolbmgkaaDoorCards
import Derived.ProofKit
import Derived.OpenShut
import Derived.ShutString
import Derived.ChangeOld
import Derived.RowKitTokens
import Derived.LaidLaws
import Derived.LaidHandle
import Derived.LaidMore
import Derived.Stop.Joined
import Derived.SevenTiedAt
namespace Go.Proofs.YtipogkgolbmgkaaDoor
open Go.RowKit Go.Extern.Stop Go.Stop Go.Extern
open Go.ChangeShapes Go.WideShapes Go.ChangeAt

theorem no_one5 (w : World) :
    Calls Tryd.prog 10 #[.iface 53 (.int .i64 1)] w fun e w' => e = .returned (.int .i64 1) ∧ w = w' := no_errno 1 (by decide) (by decide) w

set_option maxRecDepth 100000 in
set_option maxHeartbeats 2000000 in
theorem threadNil_walk (r i x : Int) (w : World) (_w0 : (Lit.int .u64 r).wf = true) (_w1 : (Lit.int .i64 i).wf = true) (_w2 : (Lit.int .u64 x).wf = true) (hg : Glob w) :
    Calls Tryd.prog 3 #[.int .u64 r, .int .i64 i, .int .u64 x] w fun e w' => e = .returned (.bool true) ∧ Below w.heap.size w w' := by
  have hg' := Lib.hid hg
  clear hg _w0 _w1 _w2
  go_enter Tryd.func3, Tryd.ntmps3
  go_wp2_with fail
  refine (on_at 20 1 (by decide) (by decide) (by decide) w).mono ?_
  rintro e W1 ⟨a, b, X, rfl, hB, hX, hK⟩
  have B1 := Lib.hid (mm_start (n := 20) (by decide) (by decide) hB)
  have K1 := Lib.hid hK
  clear hB hX hK
  go_wp2_with fail
  refine (cload_nil _ _ _).mono ?_
  rintro e W2 ⟨rfl, hK⟩
  have K2 := Lib.hid hK
  clear hK
  go_wp2_with fail
  refine (ccas_nil _ _ _ _ _).mono ?_
  rintro e W3 ⟨rfl, hK⟩
  have K3 := Lib.hid (K2.out.trans_ hK)
  clear hK
  go_wp2_with fail
  refine (calloc_nil _ _).mono ?_
  rintro e W4 ⟨rfl, hK⟩
  have K4 := Lib.hid (K3.out.trans_ hK)
  clear hK
  go_wp2_with fail
  refine (body_new _ _ _ _).mono ?_
  rintro e W5 ⟨rfl, hW⟩
  have K5 := Lib.hid (show Keeps (fun _ => False) W1 W5 by rw [hW]; exact K4.out.alloc _)
  clear hW
  go_wp2_with fail
  refine (tnew_none _ _).mono ?_
  rintro e w' ⟨rfl, rfl⟩
  go_wp2_with fail
  refine (tnew_nobody (B1.out.same K5.out) (Mm.start_get 20)).mono ?_
  rintro e W6 ⟨rfl, hK⟩
  have K6 := Lib.hid (K5.out.trans_ hK)
  clear hK
  go_wp2_with (first
    | (go_at_call 10; first | (refine (no_one5 _).mono ?_; rintro e w' ⟨rfl, rfl⟩) )
    | (go_at_call 11; refine (tstep_nil _).mono ?_; rintro e w' ⟨rfl, rfl⟩)
    | (go_at_call 12; refine (trun_nil _ _).mono ?_; rintro e w' ⟨rfl, rfl⟩)
    | (go_at_call 13; refine (done_nil _).mono ?_; rintro e w' ⟨rfl, rfl⟩))
  refine (terr_nil _).mono ?_
  rintro e w' ⟨rfl, rfl⟩
  go_wp2_with fail
  refine (no_nil _).mono ?_
  rintro e w' ⟨rfl, rfl⟩
  have gA := Lib.hid (hg'.out.keeps (K1.out.trans_ K6.out) id)
  go_wp2_with (first
    | (go_at_call 10; refine (no_one5 _).mono ?_; rintro e w' ⟨rfl, rfl⟩)
    | (go_at_call 15; refine (tround_nil _).mono ?_; rintro e w' ⟨rfl, rfl⟩)
    | (go_at_call 16; refine (tsteps_nil _).mono ?_; rintro e w' ⟨rfl, rfl⟩)
    | (go_at_call 17; refine (log_nil _).mono ?_; rintro e w' ⟨rfl, rfl⟩)
    | (go_at_call 18; refine (cstore_nil _ _ _ _).mono ?_; rintro e W7 ⟨rfl, hK⟩; have K7 := Lib.hid (K6.out.trans_ hK); clear hK)
    | (go_at_call 19; refine (cfree_nil _ _).mono ?_; rintro e W8 ⟨rfl, hK⟩; have K8 := Lib.hid (K7.out.trans_ hK); clear hK)
    | (go_at_call 20; refine (cleft_nil _).mono ?_; rintro e w' ⟨rfl, rfl⟩)
    | (go_at_call 21; refine (alive5 _ (hg'.out.keeps (K1.out.trans_ K8.out) id)).mono ?_; rintro e W9 ⟨rfl, hK⟩; have K9 := Lib.hid (K8.out.trans_ hK); clear hK))
  go_ret
  exact ⟨rfl, (K1.out.trans_ K9.out).below (Nat.le_refl _) fun _ _ => id⟩

theorem threadNil_et : Tryd.prog.globalNamed "errors.errorType" = some 0 := by kernel_rfl
theorem threadNil_rt : (Tryd.prog.cutTypes.find? (·.1 == "internal/reflectlite.rtype")).map (·.2) = some 116 := by kernel_rfl
theorem threadNil_oneRow : ((List.range 169).filter fun t => Tryd.prog.rowNamed t [101, 114, 114, 111, 114]) = [30] := by kernel_rfl
theorem threadNil_size : Tryd.prog.types.size = 169 := by kernel_rfl

/-- What the listed variable gives the walk. -/
theorem threadNil_glob {W : World} (h : laidMetH Tryd.prog Rows.threadNilRow.laid W) : Glob W := by
  have h' : laidMet Tryd.prog [] W ∧ handlesMet Tryd.prog Rows.threadNilRow.laid W := h
  obtain ⟨name, u, ty, e1, e2, e3, e4, e5⟩ := h'.2 _ (List.mem_singleton.2 rfl)
  have en : name = [101, 114, 114, 111, 114] := (Option.some.inj e1).symm
  subst en
  obtain rfl := Option.some.inj (threadNil_rt.symm.trans e2)
  have hm : ty ∈ (List.range 169).filter fun t => Tryd.prog.rowNamed t [101, 114, 114, 111, 114] := List.mem_filter.2 ⟨List.mem_range.2 (by rw [← threadNil_size]; exact e3), e4⟩
  rw [threadNil_oneRow] at hm
  obtain rfl := List.mem_singleton.1 hm
  have hh : typeHandle Tryd.prog 30 = .pointer (some ⟨1, 30, none⟩) := by kernel_rfl
  rw [hh] at e5
  unfold Glob
  simpa using World.var?_cell threadNil_et e5 0

/-- A world that meets the condition: the settled one, the variable's cell laid. -/
noncomputable def threadNil_laidWorld (os : Os) : World :=
  let w0 := World.holding Tryd.prog os ⟨#[], #[], []⟩
  { w0 with heap := w0.heap.modify 0 fun
      | .cells _ t frozen => .cells #[.iface 116 (.agg #[.pointer (some ⟨1, 30, none⟩)])] t frozen
      | o => o }
theorem threadNil_met (os : Os) (args : Array Value) : laidMetH Tryd.prog Rows.threadNilRow.laid ((threadNil_laidWorld os).forCall (fun _ _ => 0) ⟨#[], args, []⟩).memory :=
  laidMetH_of_parts (laidMet_nil _ _) (by kernel_rfl)

theorem threadNil_own : ownKnob Tryd.prog.godebug = none := by kernel_rfl
theorem threadNil_laidOut : laidOutB Tryd.prog = true := by kernel_rfl

set_option maxRecDepth 100000 in
theorem threadNil_lifted (os : Os) (started : os.Started) (H : Type) (enc : TypeId × Value → H) :
    ReturnsInHanded {} Tryd.checked os 3 .any (fun w args => (Rows.threadNilSpec.pre enc Tryd.prog Tryd.f3 [] false w args ∧ laidMetH Tryd.prog Rows.threadNilRow.laid w) ∧ sizedMet enc Tryd.prog Tryd.f3 (OpenSpec.ofChange Rows.threadNilSpec) false w args)
      (Rows.threadNilSpec.post enc Tryd.prog Tryd.f3 false true false false) := by
  refine returnsInHanded_of_change_and (C := Tryd.checked) (X := fun w _ => laidMetH Tryd.prog Rows.threadNilRow.laid w) (fun _ _ _ hh h => h.of_heap hh) threadNil_own started (by kernel_rfl) Tryd.func3
    (ChangeSpec.witness_at (enc := enc) (C := Tryd.checked) (os := os) (X := fun w _ => laidMetH Tryd.prog Rows.threadNilRow.laid w) false (threadNil_laidWorld os) #[.int .u64 0, .int .i64 0, .int .u64 0] 8 rfl (by kernel_rfl) (by kernel_rfl) (by kernel_rfl) (by kernel_rfl) (by kernel_rfl) (threadNil_met os _)) ?_
  intro W base args ds gs before hval0 hW hcnd _ hL _
  have hGl := threadNil_glob hL
  clear hcnd
  have hval : ∀ (j : Nat) t v, Tryd.f3.params[j]? = some t → args[j]? = some v → Value.okWide Tryd.prog W .any base t v := hval0
  have hW' := hW
  obtain ⟨p, q, hA0, hV, rfl, hfz, hnd⟩ := hW
  have hA : DataW.TrodAll enc Tryd.prog W 0 (fun _ => true) true Tryd.f3.params.toList args.toList ds p := hA0
  rw [Tryd.params3] at hA hval
  obtain ⟨v0, vs0, d0, ds0, p0, q0, hargs, rfl, rfl, h0, r0⟩ := trodAll_cons hA
  obtain ⟨v1, vs1, d1, ds1, p1, q1, rfl, rfl, rfl, h1, r1⟩ := trodAll_cons r0
  obtain ⟨v2, vs2, d2, ds2, p2, q2, rfl, rfl, rfl, h2, r2⟩ := trodAll_cons r1
  obtain ⟨rfl, rfl, rfl⟩ := trodAll_nil r2
  obtain rfl : args = #[v0, v1, v2] := by cases args; simp_all
  obtain ⟨rfl, rfl⟩ := trodVars_none hV
  have k0 := h0
  have lt0 : ∀ x ∈ p0, x.block < W.heap.size := by obtain ⟨m, hm⟩ := k0; exact DataW.trod_lt m _ _ _ hm
  obtain ⟨a0, rfl, e0, f0, w0⟩ := open_int Tryd.underlying22 (hval 0 22 v0 rfl rfl) h0
  clear e0 f0
  have k1 := h1
  have lt1 : ∀ x ∈ p1, x.block < W.heap.size := by obtain ⟨m, hm⟩ := k1; exact DataW.trod_lt m _ _ _ hm
  obtain ⟨a1, rfl, e1, f1, w1⟩ := open_int Tryd.underlying3 (hval 1 3 v1 rfl rfl) h1
  clear e1 f1
  have k2 := h2
  have lt2 : ∀ x ∈ p2, x.block < W.heap.size := by obtain ⟨m, hm⟩ := k2; exact DataW.trod_lt m _ _ _ hm
  obtain ⟨a2, rfl, e2, f2, w2⟩ := open_int Tryd.underlying22 (hval 2 22 v2 rfl rfl) h2
  clear e2 f2
  clear hA0 hval0
  refine (threadNil_walk a0 a1 a2 W w0 w1 w2 hGl).mono fun e W' ⟨he, bel⟩ => ?_
  subst he
  exact ⟨_, rfl, _, _, _, [], _, [], hW', trodAll_mk1 (shut_bool Tryd.underlying4 _), (trodAll_cons_mk (Below.trod threadNil_laidOut (by kernel_rfl) (of_decide_eq_true (by kernel_rfl)) k0 bel lt0) (trodAll_cons_mk (Below.trod threadNil_laidOut (by kernel_rfl) (of_decide_eq_true (by kernel_rfl)) k1 bel lt1) (trodAll_cons_mk (Below.trod threadNil_laidOut (by kernel_rfl) (of_decide_eq_true (by kernel_rfl)) k2 bel lt2) trodAll_mk0))), rfl, bel.frame _, fun h => by cases h⟩

/-- The statement ThreadNil. -/
theorem threadNil_holds : Rows.ThreadNilSaid :=
  OpenClaim.holds_of_wide 3 Tryd.f3 rfl rfl rfl rfl rfl rfl rfl ⟨rfl, rfl, rfl, rfl, rfl⟩ rfl rfl rfl rfl rfl (by kernel_rfl) Tryd.func3 (by kernel_rfl)
    (of_decide_eq_true (by kernel_rfl)) (by unfold Func.isWrapper; first | (rw [if_pos (by decide +kernel)]; kernel_rfl) | (rw [if_neg (by decide +kernel)]; exact ⟨rfl, rfl⟩))
    (fun os started H enc _ => threadNil_lifted os started H enc)
#print axioms threadNil_holds

/-- The card: the row, what it lists tied to the program's text. -/
theorem threadNil_card : Rows.ThreadNilCardSaid :=
  Claim7.holds_tied_plain_at .later [] [.handle] true Rows.threadNilCard.stood.harness true
    threadNil_holds (fun _ h => by cases h) (by kernel_rfl) (fun _ h => by cases h) threadNil_row_tie rfl ⟨rfl, rfl⟩ (by kernel_rfl) rfl
    (fun f fn hf hfn => by
      obtain rfl : f = 3 := Option.some.inj ((show Tryd.prog.funcNamed "concord/concordlaw05.ThreadNil" = some 3 by kernel_rfl).symm.trans hf) |>.symm
      obtain rfl : fn = Tryd.f3 := (Option.some.inj (Tryd.func3.symm.trans hfn)).symm
      exact ⟨by kernel_rfl, fun j t ht => by
        rw [Tryd.params3] at ht
        have hm : t ∈ Tryd.f3.params.toList := by rw [Tryd.params3]; simpa using Array.mem_of_getElem? ht
        have hall : (Tryd.f3.params.toList.all fun u => !Tryd.prog.wantsStandIn u) = true := by kernel_rfl
        exact (show Tryd.prog.wantsStandIn t = false by simpa using List.all_eq_true.1 hall t hm)⟩)
    (by kernel_rfl)
#print axioms threadNil_card
end Go.Proofs.YtipogkgolbmgkaaDoor
