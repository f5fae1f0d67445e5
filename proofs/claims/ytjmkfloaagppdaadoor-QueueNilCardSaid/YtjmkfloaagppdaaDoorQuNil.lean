/-
  QueueNil: called with any timer, concordlaw04.QueueNil returns true and changes nothing; the library's variable errors.errorType holds what the program's text lays in it (the card ties it). The card says nothing of code outside the pruned copy.
-/
import Derived.Test.YtjmkfloaagppdaaDoorQuAlive
import Derived.Test.YtjmkfloaagppdaaDoorTie
import Derived.Test.YtjmkfloaagppdaaDoorCards
import Derived.ProofKit
import Derived.OpenShut
import Derived.ShutString
import Derived.ChangeOld
import Derived.RowKitTokens
import Derived.LaidLaws
import Derived.LaidHandle
import Derived.LaidMore
import Derived.Stop.Joined
import Derived.SevenTiedAt
import Derived.Lib.SmallJoins
namespace Go.Proofs.YtjmkfloaagppdaaDoor
open Go.RowKit Go.Extern.Stop Go.Stop Go.Extern
open Go.ChangeShapes Go.WideShapes Go.ChangeAt

theorem no_one (w : World) :
    Calls Tryd.prog 16 #[.iface 69 (.int .i64 1)] w fun e w' => e = .returned (.int .i64 1) ∧ w = w' := no_errno 1 (by decide) (by decide) w

theorem all_nil (w : World) :
    Calls Tryd.prog 15 #[.pointer none] w fun e w' => e = .returned (.slice none 0 0) ∧ w = w' := by
  go_enter Tryd.func15, Tryd.ntmps15
  go_wp2_with (go_at_call 27; refine (none_nil _).mono ?_; rintro e w' ⟨rfl, rfl⟩)
  go_ret
  exact ⟨rfl, rfl⟩

set_option maxRecDepth 100000 in
theorem due_nil (now : Int) (w : World) :
    Calls Tryd.prog 18 #[.pointer none, .int .i64 now] w fun e w' => e = .returned (.slice none 0 0) ∧ Keeps (fun _ => False) w w' := by
  go_enter Tryd.func18, Tryd.ntmps18
  go_wp2_with fail
  refine wp_loop_rounds 1 ?_
  rw [rounds_succ]
  have cN := Lib.hid (next_nil w)
  unfold tmVal at cN
  go_wp2_with (first | (go_at_call 12; refine cN.out.mono ?_; rintro e w2 ⟨rfl, hK⟩; have K2 := Lib.hid hK; clear hK))
  go_ret
  exact ⟨rfl, K2.out.alloc _⟩

set_option maxRecDepth 100000 in
set_option maxHeartbeats 1000000 in
theorem queueNil_walk (a b : Int) (w : World) (_w0 : wfT (a, b)) (hg : Glob w) :
    Calls Tryd.prog 8 #[.agg #[.int .i64 a, .int .i64 b]] w fun e w' => e = .returned (.bool true) ∧ Below w.heap.size w w' := by
  have g0 := Lib.hid hg
  clear hg _w0
  go_enter Tryd.func8, Tryd.ntmps8
  go_wp2_with fail
  have m1 := Lib.hid (Whole.made w 31 #[.int .i64 a, .int .i64 b])
  have k1 := Lib.hid ((Keeps.refl (fun _ => False) w).alloc (.cells #[.int .i64 a, .int .i64 b] 31))
  obtain ⟨W, hW⟩ : ∃ W, W = w.alloc (.cells #[.int .i64 a, .int .i64 b] 31) := ⟨_, rfl⟩
  rw [← hW] at m1 k1 ⊢
  clear hW
  have cN := Lib.hid (next_nil W)
  unfold tmVal at cN
  refine cN.out.mono ?_
  rintro e w2 ⟨rfl, hK⟩
  have k2 := Lib.hid ((k1.out.trans hK fun _ _ => False.elim).alloc (.cells #[.int .i64 0, .int .i64 0] 31))
  have m2 := (m1.out.keeps hK id).alloc (.cells #[.int .i64 0, .int .i64 0] 31)
  have c0 : (w2.alloc (.cells #[.int .i64 0, .int .i64 0] 31)).cell? ⟨w.heap.size, 0, none⟩ = some (.int .i64 a) := m2.at_ 0
  have c1 : (w2.alloc (.cells #[.int .i64 0, .int .i64 0] 31)).cell? ⟨w.heap.size, 1, none⟩ = some (.int .i64 b) := m2.at_ 1
  have m2' := Lib.hid m2
  clear hK m1 k1 m2
  go_wp2_with fail
  refine (push_nil (a, b) _).mono ?_
  rintro e w3 ⟨rfl, hK⟩
  have k3 := Lib.hid (k2.out.trans hK fun _ _ => False.elim)
  have m3 := m2'.out.keeps hK id
  clear hK k2 m2' c0 c1
  have c0 : w3.cell? ⟨w.heap.size, 0, none⟩ = some (.int .i64 a) := m3.at_ 0
  have c1 : w3.cell? ⟨w.heap.size, 1, none⟩ = some (.int .i64 b) := m3.at_ 1
  clear m3
  go_wp2_with (first
    | (go_at_call 16; refine (no_one _).mono ?_; rintro e w' ⟨rfl, rfl⟩)
    | (go_at_call 21; refine (move_nil _ _ _).mono ?_; rintro e w' ⟨rfl, rfl⟩)
    | (go_at_call 20; refine (cancel_nil _ _).mono ?_; rintro e w' ⟨rfl, rfl⟩)
    | (go_at_call 18; refine (due_nil _ _).mono ?_; rintro e w4 ⟨rfl, hK⟩; have k4 := Lib.hid (k3.out.trans hK fun _ _ => False.elim); clear hK)
    | (go_at_call 13; refine (len_nil _).mono ?_; rintro e w' ⟨rfl, rfl⟩)
    | (go_at_call 15; refine (all_nil _).mono ?_; rintro e w' ⟨rfl, rfl⟩)
    | (go_at_call 10; refine (alive4 _ (g0.out.keeps k4.out id)).mono ?_; rintro e w5 ⟨rfl, hK⟩; have k5 := Lib.hid (k4.out.trans hK fun _ _ => False.elim); clear hK))
  go_ret
  exact ⟨rfl, k5.out.below (Nat.le_refl _) fun _ _ => id⟩

theorem queueNil_et : Tryd.prog.globalNamed "errors.errorType" = some 0 := by kernel_rfl
theorem queueNil_rt : (Tryd.prog.cutTypes.find? (·.1 == "internal/reflectlite.rtype")).map (·.2) = some 113 := by kernel_rfl
theorem queueNil_oneRow : ((List.range 176).filter fun t => Tryd.prog.rowNamed t [101, 114, 114, 111, 114]) = [44] := by kernel_rfl
theorem queueNil_size : Tryd.prog.types.size = 176 := by kernel_rfl

/-- What the listed variable gives the walk. -/
theorem queueNil_glob {W : World} (h : laidMetH Tryd.prog Rows.queueNilRow.laid W) : Glob W := by
  have h' : laidMet Tryd.prog [] W ∧ handlesMet Tryd.prog Rows.queueNilRow.laid W := h
  obtain ⟨name, u, ty, e1, e2, e3, e4, e5⟩ := h'.2 _ (List.mem_singleton.2 rfl)
  have en : name = [101, 114, 114, 111, 114] := (Option.some.inj e1).symm
  subst en
  obtain rfl := Option.some.inj (queueNil_rt.symm.trans e2)
  have hm : ty ∈ (List.range 176).filter fun t => Tryd.prog.rowNamed t [101, 114, 114, 111, 114] := List.mem_filter.2 ⟨List.mem_range.2 (by rw [← queueNil_size]; exact e3), e4⟩
  rw [queueNil_oneRow] at hm
  obtain rfl := List.mem_singleton.1 hm
  have hh : typeHandle Tryd.prog 44 = .pointer (some ⟨1, 44, none⟩) := by kernel_rfl
  rw [hh] at e5
  unfold Glob
  simpa using World.var?_cell queueNil_et e5 0

/-- A world that meets the condition: the settled one, the variable's cell laid. -/
noncomputable def queueNil_laidWorld (os : Os) : World :=
  let w0 := World.holding Tryd.prog os ⟨#[], #[], []⟩
  { w0 with heap := w0.heap.modify 0 fun
      | .cells _ t frozen => .cells #[.iface 113 (.agg #[.pointer (some ⟨1, 44, none⟩)])] t frozen
      | o => o }
theorem queueNil_met (os : Os) (args : Array Value) : laidMetH Tryd.prog Rows.queueNilRow.laid ((queueNil_laidWorld os).forCall (fun _ _ => 0) ⟨#[], args, []⟩).memory :=
  laidMetH_of_parts (laidMet_nil _ _) (by kernel_rfl)

theorem queueNil_own : ownKnob Tryd.prog.godebug = none := by kernel_rfl
theorem queueNil_laidOut : laidOutB Tryd.prog = true := by kernel_rfl

set_option maxRecDepth 100000 in
theorem queueNil_lifted (os : Os) (started : os.Started) (H : Type) (enc : TypeId × Value → H) :
    ReturnsInHanded {} Tryd.checked os 8 .any (fun w args => (Rows.queueNilSpec.pre enc Tryd.prog Tryd.f8 [] false w args ∧ laidMetH Tryd.prog Rows.queueNilRow.laid w) ∧ sizedMet enc Tryd.prog Tryd.f8 (OpenSpec.ofChange Rows.queueNilSpec) false w args)
      (Rows.queueNilSpec.post enc Tryd.prog Tryd.f8 false true false false) := by
  refine returnsInHanded_of_change_and (C := Tryd.checked) (X := fun w _ => laidMetH Tryd.prog Rows.queueNilRow.laid w) (fun _ _ _ hh h => h.of_heap hh) queueNil_own started (by kernel_rfl) Tryd.func8
    (ChangeSpec.witness_at (enc := enc) (C := Tryd.checked) (os := os) (X := fun w _ => laidMetH Tryd.prog Rows.queueNilRow.laid w) false (queueNil_laidWorld os) #[.agg #[.int .i64 0, .int .i64 0]] 8 rfl (by kernel_rfl) (by kernel_rfl) (by kernel_rfl) (by kernel_rfl) (by kernel_rfl) (queueNil_met os _)) ?_
  intro W base args ds gs before hval0 hW hcnd _ hL _
  have hGl := queueNil_glob hL
  clear hcnd
  have hval : ∀ (j : Nat) t v, Tryd.f8.params[j]? = some t → args[j]? = some v → Value.okWide Tryd.prog W .any base t v := hval0
  have hW' := hW
  obtain ⟨p, q, hA0, hV, rfl, hfz, hnd⟩ := hW
  have hA : DataW.TrodAll enc Tryd.prog W 0 (fun _ => true) true Tryd.f8.params.toList args.toList ds p := hA0
  rw [Tryd.params8] at hA hval
  obtain ⟨v0, vs0, d0, ds0, p0, q0, hargs, rfl, rfl, h0, r0⟩ := trodAll_cons hA
  obtain ⟨rfl, rfl, rfl⟩ := trodAll_nil r0
  obtain rfl : args = #[v0] := by cases args; simp_all
  obtain ⟨rfl, rfl⟩ := trodVars_none hV
  have k0 := h0
  have lt0 : ∀ x ∈ p0, x.block < W.heap.size := by obtain ⟨m, hm⟩ := k0; exact DataW.trod_lt m _ _ _ hm
  obtain ⟨b00, b01, y00, y01, m0, rfl, rfl, rfl, t00, t01⟩ := Joins.open_agg2 Tryd.underlying31 (by kernel_rfl) (by kernel_rfl) (hval 0 31 v0 rfl rfl) h0
  obtain ⟨a00, e00, _, w00⟩ := DataW.trod_int (k := .i64) (by kernel_rfl) t00
  obtain ⟨a01, e01, _, w01⟩ := DataW.trod_int (k := .i64) (by kernel_rfl) t01
  simp at e00 e01
  subst e00 e01
  clear hA0 hval0
  refine (queueNil_walk a00 a01 W ⟨w00, w01⟩ hGl).mono fun e W' ⟨he, bel⟩ => ?_
  subst he
  exact ⟨_, rfl, _, _, _, [], _, [], hW', trodAll_mk1 (shut_bool Tryd.underlying4 _), (trodAll_cons_mk (Below.trod queueNil_laidOut (by kernel_rfl) (of_decide_eq_true (by kernel_rfl)) k0 bel lt0) trodAll_mk0), rfl, bel.frame _, fun h => by cases h⟩

/-- The statement QueueNil. -/
theorem queueNil_holds : Rows.QueueNilSaid :=
  OpenClaim.holds_of_wide 8 Tryd.f8 rfl rfl rfl rfl rfl rfl rfl ⟨rfl, rfl, rfl, rfl, rfl⟩ rfl rfl rfl rfl rfl (by kernel_rfl) Tryd.func8 (by kernel_rfl)
    (of_decide_eq_true (by kernel_rfl)) (by unfold Func.isWrapper; first | (rw [if_pos (by decide +kernel)]; kernel_rfl) | (rw [if_neg (by decide +kernel)]; exact ⟨rfl, rfl⟩))
    (fun os started H enc _ => queueNil_lifted os started H enc)
#print axioms queueNil_holds

/-- The card: the row, what it lists tied to the program's text. -/
theorem queueNil_card : Rows.QueueNilCardSaid :=
  Claim7.holds_tied_plain_at .later [] [.handle] true Rows.queueNilCard.stood.harness true
    queueNil_holds (fun _ h => by cases h) (by kernel_rfl) (fun _ h => by cases h) queueNil_row_tie rfl ⟨rfl, rfl⟩ (by kernel_rfl) rfl
    (fun f fn hf hfn => by
      obtain rfl : f = 8 := Option.some.inj ((show Tryd.prog.funcNamed "concord/concordlaw04.QueueNil" = some 8 by kernel_rfl).symm.trans hf) |>.symm
      obtain rfl : fn = Tryd.f8 := (Option.some.inj (Tryd.func8.symm.trans hfn)).symm
      exact ⟨by kernel_rfl, fun j t ht => by
        rw [Tryd.params8] at ht
        have hm : t ∈ Tryd.f8.params.toList := by rw [Tryd.params8]; simpa using Array.mem_of_getElem? ht
        have hall : (Tryd.f8.params.toList.all fun u => !Tryd.prog.wantsStandIn u) = true := by kernel_rfl
        exact (show Tryd.prog.wantsStandIn t = false by simpa using List.all_eq_true.1 hall t hm)⟩)
    (by kernel_rfl)
#print axioms queueNil_card

end Go.Proofs.YtjmkfloaagppdaaDoor
