/-
  words: what each call answers of an arena that is nil, by contract; and the statement WordsNil: called with any place and any two numbers, concordlaw01.WordsNil returns true and changes nothing. No conditions.
-/
import Derived.Test.YtokcchgccfpbpaaWdAlive
import Derived.Test.YtokcchgccfpbpaaRows
import Derived.ProofKit
import Derived.OpenShut
import Derived.ShutString
import Derived.ChangeOld
namespace Go.Proofs.Ytokcchgccfpbpaa
open Go.RowKit Go.Extern.Stop Go.Stop Go.Extern
open Go.ChangeShapes Go.WideShapes Go.ChangeAt

theorem nil_load (i : Int) (w : World) :
    Calls Try.prog 12 #[.pointer none, .int .i64 i] w fun e w' => e = .returned (.tuple #[.int .u64 0, .iface 56 (.int .i64 1)]) ∧ Keeps (fun _ => False) w w' := by
  go_enter Try.func12, Try.ntmps12
  go_wp2_with (go_at_call 20; refine (access_nil _ _ _ _ _).mono ?_; rintro e w' ⟨rfl, hK⟩; have hK' := Lib.hid hK; clear hK)
  go_ret2
  exact ⟨rfl, hK'.out.alloc _⟩

theorem nil_cas (i p q : Int) (w : World) :
    Calls Try.prog 13 #[.pointer none, .int .i64 i, .int .u64 p, .int .u64 q] w fun e w' => e = .returned (.tuple #[.bool false, .iface 56 (.int .i64 1)]) ∧ Keeps (fun _ => False) w w' := by
  go_enter Try.func13, Try.ntmps13
  go_wp2_with (go_at_call 20; refine (access_nil _ _ _ _ _).mono ?_; rintro e w' ⟨rfl, hK⟩; have hK' := Lib.hid hK; clear hK)
  go_ret2
  exact ⟨rfl, hK'.out.alloc _⟩

theorem nil_store (i q : Int) (w : World) :
    Calls Try.prog 9 #[.pointer none, .int .i64 i, .int .u64 q] w fun e w' => e = .returned (.iface 56 (.int .i64 1)) ∧ Keeps (fun _ => False) w w' := by
  go_enter Try.func9, Try.ntmps9
  go_wp2_with (go_at_call 20; refine (access_nil _ _ _ _ _).mono ?_; rintro e w' ⟨rfl, hK⟩; have hK' := Lib.hid hK; clear hK)
  go_ret
  exact ⟨rfl, hK'.out.alloc _⟩

theorem nil_len (w : World) :
    Calls Try.prog 15 #[.pointer none] w fun e w' => e = .returned (.int .i64 0) ∧ w = w' := by
  go_enter Try.func15, Try.ntmps15
  go_wp2_with (go_at_call 19; refine (none_nil _).mono ?_; rintro e w' ⟨rfl, rfl⟩)
  go_ret
  exact ⟨rfl, rfl⟩

theorem nil_count (w : World) :
    Calls Try.prog 16 #[.pointer none] w fun e w' => e = .returned (.int .i64 0) ∧ w = w' := by
  go_enter Try.func16, Try.ntmps16
  go_wp2_with (go_at_call 19; refine (none_nil _).mono ?_; rintro e w' ⟨rfl, rfl⟩)
  go_ret
  exact ⟨rfl, rfl⟩

theorem nil_words (w : World) :
    Calls Try.prog 8 #[.pointer none] w fun e w' => e = .returned (.slice none 0 0) ∧ w = w' := by
  go_enter Try.func8, Try.ntmps8
  go_wp2_with (go_at_call 19; refine (none_nil _).mono ?_; rintro e w' ⟨rfl, rfl⟩)
  go_ret
  exact ⟨rfl, rfl⟩

theorem nil_copy (w : World) :
    Calls Try.prog 17 #[.pointer none] w fun e w' => e = .returned (.pointer none) ∧ w = w' := by
  go_enter Try.func17, Try.ntmps17
  go_wp2_with (go_at_call 19; refine (none_nil _).mono ?_; rintro e w' ⟨rfl, rfl⟩)
  go_ret
  exact ⟨rfl, rfl⟩

theorem nil_last (w : World) :
    Calls Try.prog 14 #[.pointer none] w fun e w' => e = .returned (.tuple #[.agg #[.int .i64 0, .int .i64 0, .int .u64 0, .int .u64 0, .bool false], .bool false]) ∧ Keeps (fun _ => False) w w' := by
  go_enter Try.func14, Try.ntmps14
  go_wp2_with (go_at_call 19; refine (none_nil _).mono ?_; rintro e w' ⟨rfl, rfl⟩)
  exact bodyPost_ret (v := .tuple #[.agg #[.int .i64 0, .int .i64 0, .int .u64 0, .int .u64 0, .bool false], .bool false]) (by simp [results, Try.results14, go_sem]) rfl ⟨rfl, (Keeps.refl _ w).alloc _⟩

theorem no_err (w : World) :
    Calls Try.prog 10 #[.iface 56 (.int .i64 1)] w fun e w' => e = .returned (.int .i64 1) ∧ w = w' := no_errno 1 (by decide) (by decide) w

set_option maxHeartbeats 1000000 in
theorem wordsNil_walk (i x y : Int) (w : World) (_w0 : (Lit.int .i64 i).wf = true) (_w1 : (Lit.int .u64 x).wf = true) (_w2 : (Lit.int .u64 y).wf = true) :
    Calls Try.prog 5 #[.int .i64 i, .int .u64 x, .int .u64 y] w fun e w' => e = .returned (.bool true) ∧ Below w.heap.size w w' := by
  go_enter Try.func5, Try.ntmps5
  go_wp2_with (first
    | (go_at_call 12; refine (nil_load _ _).mono ?_; rintro e w1 ⟨rfl, k1⟩; have h1 := Lib.hid k1; clear k1)
    | (go_at_call 13; refine (nil_cas _ _ _ _).mono ?_; rintro e w2 ⟨rfl, k2⟩; have h2 := Lib.hid k2; clear k2)
    | (go_at_call 14; refine (nil_last _).mono ?_; rintro e w3 ⟨rfl, k3⟩; have h3 := Lib.hid k3; clear k3)
    | (go_at_call 9; refine (nil_store _ _ _).mono ?_; rintro e w4 ⟨rfl, k4⟩; have h4 := Lib.hid k4; clear k4)
    | (go_at_call 15; refine (nil_len _).mono ?_; rintro e w' ⟨rfl, rfl⟩)
    | (go_at_call 16; refine (nil_count _).mono ?_; rintro e w' ⟨rfl, rfl⟩)
    | (go_at_call 8; refine (nil_words _).mono ?_; rintro e w' ⟨rfl, rfl⟩)
    | (go_at_call 17; refine (nil_copy _).mono ?_; rintro e w' ⟨rfl, rfl⟩)
    | (go_at_call 10; refine (no_err _).mono ?_; rintro e w' ⟨rfl, rfl⟩)
    | (go_at_call 7; refine (alive_any _).mono ?_; rintro e w5 ⟨rfl, k5⟩; have h5 := Lib.hid k5; clear k5))
  go_ret
  exact ⟨rfl, (((((h1.out.trans_ h2.out).trans_ h3.out).alloc _).trans_ h4.out).trans_ h5.out).below (Nat.le_refl _) (fun _ _ h => h)⟩

theorem wordsNil_own : ownKnob Try.prog.godebug = none := by kernel_rfl
theorem wordsNil_laidOut : laidOutB Try.prog = true := by kernel_rfl

set_option maxRecDepth 100000 in
theorem wordsNil_lifted (os : Os) (started : os.Started) (H : Type) (enc : TypeId × Value → H) :
    ReturnsInHanded {} Try.checked os 5 .any (Rows.wordsNilSpec.pre6 enc Try.prog Try.f5 Rows.wordsNilRow.domain false) (Rows.wordsNilSpec.post enc Try.prog Try.f5 false true false false) := by
  refine returnsInHanded_of_change (C := Try.checked) wordsNil_own started (by kernel_rfl) Try.func5
    (ChangeSpec.witness6 (enc := enc) (C := Try.checked) false ⟨#[], #[.int .i64 0, .int .u64 0, .int .u64 0], []⟩ 8 (by kernel_rfl) (by kernel_rfl) (by kernel_rfl) (by kernel_rfl)) ?_
  intro W base args ds gs before hval0 hW hcnd _
  clear hcnd
  have hval : ∀ (j : Nat) t v, Try.f5.params[j]? = some t → args[j]? = some v → Value.okWide Try.prog W .any base t v := hval0
  have hW' := hW
  obtain ⟨p, q, hA0, hV, rfl, hfz, hnd⟩ := hW
  have hA : DataW.TrodAll enc Try.prog W 0 (fun _ => true) true Try.f5.params.toList args.toList ds p := hA0
  rw [Try.params5] at hA hval
  obtain ⟨v0, vs0, d0, ds0, p0, q0, hargs, rfl, rfl, h0, r0⟩ := trodAll_cons hA
  obtain ⟨v1, vs1, d1, ds1, p1, q1, rfl, rfl, rfl, h1, r1⟩ := trodAll_cons r0
  obtain ⟨v2, vs2, d2, ds2, p2, q2, rfl, rfl, rfl, h2, r2⟩ := trodAll_cons r1
  obtain ⟨rfl, rfl, rfl⟩ := trodAll_nil r2
  obtain rfl : args = #[v0, v1, v2] := by cases args; simp_all
  obtain ⟨rfl, rfl⟩ := trodVars_none hV
  have k0 := h0
  have lt0 : ∀ x ∈ p0, x.block < W.heap.size := by obtain ⟨m, hm⟩ := k0; exact DataW.trod_lt m _ _ _ hm
  obtain ⟨a0, rfl, e0, f0, w0⟩ := open_int Try.underlying3 (hval 0 3 v0 rfl rfl) h0
  clear e0 f0
  have k1 := h1
  have lt1 : ∀ x ∈ p1, x.block < W.heap.size := by obtain ⟨m, hm⟩ := k1; exact DataW.trod_lt m _ _ _ hm
  obtain ⟨a1, rfl, e1, f1, w1⟩ := open_int Try.underlying23 (hval 1 23 v1 rfl rfl) h1
  clear e1 f1
  have k2 := h2
  have lt2 : ∀ x ∈ p2, x.block < W.heap.size := by obtain ⟨m, hm⟩ := k2; exact DataW.trod_lt m _ _ _ hm
  obtain ⟨a2, rfl, e2, f2, w2⟩ := open_int Try.underlying23 (hval 2 23 v2 rfl rfl) h2
  clear e2 f2
  clear hA0 hval0
  refine (wordsNil_walk a0 a1 a2 W w0 w1 w2).mono fun e W' ⟨he, bel⟩ => ?_
  subst he
  exact ⟨_, rfl, _, _, _, [], _, [], hW', trodAll_mk1 (shut_bool Try.underlying4 _), (trodAll_cons_mk (Below.trod wordsNil_laidOut (by kernel_rfl) (of_decide_eq_true (by kernel_rfl)) k0 bel lt0) (trodAll_cons_mk (Below.trod wordsNil_laidOut (by kernel_rfl) (of_decide_eq_true (by kernel_rfl)) k1 bel lt1) (trodAll_cons_mk (Below.trod wordsNil_laidOut (by kernel_rfl) (of_decide_eq_true (by kernel_rfl)) k2 bel lt2) trodAll_mk0))), rfl, bel.frame _, fun h => by cases h⟩

/-- The statement WordsNil. -/
theorem wordsNil_holds : Rows.WordsNilSaid :=
  OpenClaim.holds_of_wide 5 Try.f5 rfl rfl rfl rfl rfl rfl rfl ⟨rfl, rfl, rfl, rfl, rfl⟩ rfl rfl rfl rfl rfl (by kernel_rfl) Try.func5 (by kernel_rfl)
    (of_decide_eq_true (by kernel_rfl)) (by unfold Func.isWrapper; first | (rw [if_pos (by decide +kernel)]; kernel_rfl) | (rw [if_neg (by decide +kernel)]; exact ⟨rfl, rfl⟩))
    (fun os started H enc _ => wordsNil_lifted os started H enc)
#print axioms wordsNil_holds
end Go.Proofs.Ytokcchgccfpbpaa
