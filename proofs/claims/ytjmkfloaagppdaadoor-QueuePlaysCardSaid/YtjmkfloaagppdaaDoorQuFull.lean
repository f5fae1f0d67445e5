/-
  QueueFull: called with any numbers, concordlaw04.QueueFull returns true and changes nothing; the library's variable errors.errorType holds what the program's text lays in it (the card ties it). The card says nothing of code outside the pruned copy.
-/
import Derived.Test.YtjmkfloaagppdaaDoorQuAlive
import Derived.Test.YtjmkfloaagppdaaDoorTie
import Derived.Test.YtjmkfloaagppdaaDoorCards
import Derived.ProofKit
import Derived.OpenShut
import Derived.ShutString
import Derived.ChangeOld
import Derived.RowKitTokens
import Derived.LaidLaws
import Derived.LaidHandle
import Derived.LaidMore
import Derived.Stop.Joined
import Derived.SevenTiedAt
namespace Go.Proofs.YtjmkfloaagppdaaDoor
open Go.RowKit Go.Extern.Stop Go.Stop Go.Extern
open Go.ChangeShapes Go.WideShapes Go.ChangeAt

/-- The timers that fill it. -/
def fill (x id : Int) (n : Nat) : List Tm := (List.range n).map fun (i : Nat) => (x, id + i)

theorem fill_succ (x id : Int) (n : Nat) : fill x id (n + 1) = fill x id n ++ [(x, id + n)] := by simp [fill, List.range_succ]
theorem fill_len (x id : Int) (n : Nat) : (fill x id n).length = n := by simp [fill]
theorem fill_mem {x id : Int} {n : Nat} {u : Tm} : u ∈ fill x id n ↔ ∃ i : Nat, i < n ∧ u = (x, id + i) := by
  simp only [fill, List.mem_map, List.mem_range]
  exact ⟨fun ⟨i, h, e⟩ => ⟨i, h, e.symm⟩, fun ⟨i, h, e⟩ => ⟨i, h, e.symm⟩⟩

theorem ins_last {t : Tm} : ∀ {l : List Tm}, (∀ u ∈ l, ahead u t = true) → ins t l = l ++ [t]
  | [], _ => rfl
  | u :: l, h => by
    rw [ins_cons, if_pos (h u (by simp)), ins_last (l := l) fun v hv => h v (List.mem_cons_of_mem _ hv)]
    rfl
theorem ins_first {t : Tm} {l : List Tm} (h : ∀ u ∈ l, ahead u t = false) : ins t l = t :: l := by
  cases l with
  | nil => rfl
  | cons u l => rw [ins_cons, if_neg (by rw [h u (by simp)]; simp)]

theorem fill_ins (x id : Int) (n : Nat) : ins (x, id + n) (fill x id n) = fill x id (n + 1) := by
  rw [fill_succ]
  refine ins_last fun u hu => ?_
  obtain ⟨i, hi, rfl⟩ := fill_mem.1 hu
  rw [ahead_iff]
  right
  exact ⟨rfl, by simp only; omega⟩
theorem fill_lacks (x id : Int) (n : Nat) : ∀ u ∈ fill x id n, u.2 ≠ (x, id + n).2 := by
  intro u hu
  obtain ⟨i, hi, rfl⟩ := fill_mem.1 hu
  simp only
  omega
theorem fill_lacks1 (x id : Int) (n : Nat) : ∀ u ∈ fill x id n, u.2 ≠ (x, id - 1).2 := by
  intro u hu
  obtain ⟨i, hi, rfl⟩ := fill_mem.1 hu
  simp only
  omega
theorem fill_has (x id : Int) {n : Nat} (h : 0 < n) : (x, id) ∈ fill x id n := fill_mem.2 ⟨0, h, by simp⟩

theorem fill_del (x id : Int) (n : Nat) (h : 0 < n) : (del id (fill x id n)).length = n - 1 ∧ ins (x, id - 1) (del id (fill x id n)) = (x, id - 1) :: del id (fill x id n) := by
  constructor
  · obtain ⟨m, rfl⟩ : ∃ m, n = m + 1 := ⟨n - 1, by omega⟩
    induction m with
    | zero => simp [fill, del]
    | succ m ih =>
      rw [fill_succ]
      unfold del at ih ⊢
      rw [List.filter_append, List.length_append, ih (by omega)]
      have : ((x, id + ((m + 1 : Nat) : Int)).2 != id) = true := by simp only [bne_iff_ne]; omega
      rw [List.filter_cons_of_pos (by exact this)]
      simp
  · refine ins_first fun u hu => ?_
    obtain ⟨i, hi, rfl⟩ := fill_mem.1 (del_sub hu)
    rw [ahead_not]
    right
    exact ⟨rfl, by simp only; omega⟩

theorem qu_len {w : World} {q : Nat} {L : List Tm} {X : Nat → Prop} (h : Qu w q L X) (n : Nat) (hn : L.length = n) :
    Calls Tryd.prog 13 #[.pointer (some ⟨q, 0, none⟩)] w fun e w' => e = .returned (.int .i64 n) ∧ w = w' := by
  obtain ⟨l, hp, hperm, _⟩ := h
  exact len_line hp.1 n (hperm.length_eq.trans hn)

set_option maxRecDepth 100000 in
set_option maxHeartbeats 1000000 in
theorem queueFull_walk (a0 a1 : Int) (w : World) (_w0 : (Lit.int .i64 a0).wf = true) (_w1 : (Lit.int .i64 a1).wf = true) (hg : Glob w) :
    Calls Tryd.prog 7 #[.int .i64 a0, .int .i64 a1] w fun e w' => e = .returned (.bool true) ∧ Below w.heap.size w w' := by
  have g0 := Lib.hid hg
  have wA := Lib.hid _w1
  have hr : -1000000 < a0.tmod 1000000 ∧ a0.tmod 1000000 < 1000000 := ⟨Int.lt_tmod_of_pos a0 (by decide), Int.tmod_lt_of_pos a0 (by decide)⟩
  clear hg _w0 _w1
  go_enter Tryd.func7, Tryd.ntmps7
  go_wp2_with fail
  refine (new_any _).mono ?_
  rintro e w1 ⟨q, X, rfl, hQ, hX, hK⟩
  have Q1 := Lib.hid hQ
  have X1 := Lib.hid hX
  have K1 := Lib.hid hK
  clear hQ hX hK
  go_wp2_with fail
  generalize a0.tmod 1000000 = d at hr ⊢
  go_loopw [6] (fun iv wr => ∃ i : Nat, iv = .int .i64 i ∧ i ≤ 200 ∧ ∃ X', Qu wr q (fill a1 d i) X' ∧ (∀ x, X' x → w.heap.size ≤ x) ∧ Keeps (fun _ => False) w wr) (fun iv _ => 200 - (intOf iv).toNat)
  case atStart => exact ⟨0, rfl, Nat.zero_le _, X, Q1.out, X1.out, K1.out⟩
  case round =>
    clear Q1 X1 K1
    obtain ⟨i, rfl, hi, X, hQ, hX, hK⟩ := hrel
    have Q1 := Lib.hid hQ
    have X1 := Lib.hid hX
    have K1 := Lib.hid hK
    clear hQ hX hK
    by_cases hin : i < 200
    · have hin' : (i : Int) < 200 := by omega
      have cp := Lib.hid (push_ok Q1.out (a1, d + i) ⟨wA.out, wf_small (by omega)⟩ (by rw [fill_len]; exact hin) (fill_lacks a1 d i))
      go_wp2_with fail
      refine cp.out.mono ?_
      rintro e w2 ⟨rfl, ⟨X2, hQ, hX⟩, hK⟩
      rw [fill_ins] at hQ
      have Q2 := Lib.hid hQ
      have X2' := Lib.hid (show ∀ x, X2 x → w.heap.size ≤ x from fun x hx => (hX x hx).elim (X1.out x) fun h => Nat.le_trans K1.out.size h)
      have K2 := Lib.hid (K1.out.trans hK fun x hx h => absurd hx (Nat.not_lt.2 (X1.out x h)))
      clear hQ hX hK
      go_wp2_with fail
      refine (no_nil _).mono ?_
      rintro e w' ⟨rfl, rfl⟩
      go_wp2_with fail
      go_roundw
      case rel => exact ⟨i + 1, by go_num, by omega, X2, Q2.out, X2'.out, K2.out⟩
      case measure => simp [intOf]; omega
    · obtain rfl : i = 200 := by omega
      have f2 := fill_has a1 d (n := 200) (by decide)
      have d1 := fill_del a1 d 200 (by decide)
      have cA := Lib.hid (push_full Q1.out (a1, d - 1) ⟨wA.out, wf_small (by omega)⟩ (fill_len _ _ _) (fill_lacks1 _ _ _))
      have wd : (Lit.int .i64 d).wf = true := wf_small (by omega)
      have f2' := Lib.hid f2
      have D1 := Lib.hid d1
      have wd' := Lib.hid wd
      have hdm : -1000001 ≤ d - 1 ∧ d - 1 ≤ 1000000 := by omega
      clear hi hin f2 d1 wd
      go_wp2_with fail
      refine cA.out.mono ?_
      rintro e w2 ⟨rfl, hK⟩
      have Q2 := Lib.hid (Q1.out.same hK)
      have K2 := Lib.hid (K1.out.trans hK fun _ _ => False.elim)
      clear hK
      go_wp2_with fail
      refine (push_there Q2.out (a1, d) ⟨wA.out, wd'.out⟩ (a1, d) f2'.out rfl).mono ?_
      rintro e w3 ⟨er, rfl, hF, hK⟩
      have F3 := Lib.hid hF
      have Q3 := Lib.hid (Q2.out.same hK)
      have O3 := Lib.hid Q2.out.old
      have K3 := Lib.hid (K2.out.trans hK fun _ _ => False.elim)
      clear hF hK
      go_wp2_with fail
      refine (cancel_ok Q3.out d (a1, d) f2'.out rfl).mono ?_
      rintro e w4 ⟨rfl, hQ, hK⟩
      have Q4 := Lib.hid hQ
      have F4 := Lib.hid (F3.out.keeps hK fun x hx h => absurd (O3.out x h) (Nat.not_lt.2 hx))
      have K4 := Lib.hid (K3.out.trans hK fun x hx h => absurd hx (Nat.not_lt.2 (X1.out x h)))
      clear hQ hK
      have cp := Lib.hid (push_ok Q4.out (a1, d - 1) ⟨wA.out, wf_small (by omega)⟩ (by rw [D1.out.1]; decide) (fun u hu => fill_lacks1 _ _ _ u (del_sub hu)))
      go_wp2_with fail
      refine cp.out.mono ?_
      rintro e w5 ⟨rfl, ⟨X5, hQ, hX⟩, hK⟩
      rw [D1.out.2] at hQ
      have Q5 := Lib.hid hQ
      have F5 := Lib.hid (F4.out.keeps hK fun x hx h => absurd (O3.out x h) (Nat.not_lt.2 hx))
      have K5 := Lib.hid (K4.out.trans hK fun x hx h => absurd hx (Nat.not_lt.2 (X1.out x h)))
      clear hQ hX hK
      go_wp2_with fail
      have cN := Lib.hid (next_some Q5.out)
      unfold tmVal at cN
      refine cN.out.mono ?_
      rintro e w6 ⟨rfl, hK⟩
      have Q6 := Lib.hid (Q5.out.same hK)
      have F6 := Lib.hid (F5.out.keeps hK fun _ _ => id)
      have K6 := Lib.hid (K5.out.trans hK fun _ _ => False.elim)
      have m7 := Lib.hid (Whole.made w6 31 #[.int .i64 a1, .int .i64 (d - 1)])
      have k7 := Lib.hid ((Keeps.refl (fun _ => False) w6).alloc (.cells #[.int .i64 a1, .int .i64 (d - 1)] 31))
      clear hK
      go_wp2_with fail
      obtain ⟨W, hW⟩ : ∃ W, W = w6.alloc (.cells #[.int .i64 a1, .int .i64 (d - 1)] 31) := ⟨_, rfl⟩
      rw [← hW] at m7 k7 ⊢
      clear hW
      refine (no_errno 8 (by decide) (by decide) _).mono ?_
      rintro e w' ⟨rfl, rfl⟩
      go_wp2_with fail
      refine (no_isFault F6.out (by decide) (by decide) k7.out).mono ?_
      rintro e w' ⟨rfl, rfl⟩
      go_wp2_with fail
      refine (no_nil _).mono ?_
      rintro e w' ⟨rfl, rfl⟩
      go_wp2_with fail
      refine (no_nil _).mono ?_
      rintro e w' ⟨rfl, rfl⟩
      have c1 : W.cell? ⟨w6.heap.size, 1, none⟩ = some (.int .i64 (d - 1)) := m7.out.at_ 1
      have cl := Lib.hid (qu_len (Q6.out.same k7.out) 200 (by rw [List.length_cons, D1.out.1]))
      go_wp2_with (first
        | (go_at_call 13; refine cl.out.mono ?_; rintro e w' ⟨rfl, rfl⟩)
        | (go_at_call 10; refine (alive4 _ (g0.out.keeps (K6.out.trans k7.out fun _ _ => False.elim) id)).mono ?_; rintro e w8 ⟨rfl, hK⟩; have k8 := Lib.hid ((K6.out.trans k7.out fun _ _ => False.elim).trans hK fun _ _ => False.elim); clear hK))
      go_ret
      exact ⟨rfl, k8.out.below (Nat.le_refl _) fun _ _ => id⟩

theorem queueFull_et : Tryd.prog.globalNamed "errors.errorType" = some 0 := by kernel_rfl
theorem queueFull_rt : (Tryd.prog.cutTypes.find? (·.1 == "internal/reflectlite.rtype")).map (·.2) = some 113 := by kernel_rfl
theorem queueFull_oneRow : ((List.range 176).filter fun t => Tryd.prog.rowNamed t [101, 114, 114, 111, 114]) = [44] := by kernel_rfl
theorem queueFull_size : Tryd.prog.types.size = 176 := by kernel_rfl

/-- What the listed variable gives the walk. -/
theorem queueFull_glob {W : World} (h : laidMetH Tryd.prog Rows.queueFullRow.laid W) : Glob W := by
  have h' : laidMet Tryd.prog [] W ∧ handlesMet Tryd.prog Rows.queueFullRow.laid W := h
  obtain ⟨name, u, ty, e1, e2, e3, e4, e5⟩ := h'.2 _ (List.mem_singleton.2 rfl)
  have en : name = [101, 114, 114, 111, 114] := (Option.some.inj e1).symm
  subst en
  obtain rfl := Option.some.inj (queueFull_rt.symm.trans e2)
  have hm : ty ∈ (List.range 176).filter fun t => Tryd.prog.rowNamed t [101, 114, 114, 111, 114] := List.mem_filter.2 ⟨List.mem_range.2 (by rw [← queueFull_size]; exact e3), e4⟩
  rw [queueFull_oneRow] at hm
  obtain rfl := List.mem_singleton.1 hm
  have hh : typeHandle Tryd.prog 44 = .pointer (some ⟨1, 44, none⟩) := by kernel_rfl
  rw [hh] at e5
  unfold Glob
  simpa using World.var?_cell queueFull_et e5 0

/-- A world that meets the condition: the settled one, the variable's cell laid. -/
noncomputable def queueFull_laidWorld (os : Os) : World :=
  let w0 := World.holding Tryd.prog os ⟨#[], #[], []⟩
  { w0 with heap := w0.heap.modify 0 fun
      | .cells _ t frozen => .cells #[.iface 113 (.agg #[.pointer (some ⟨1, 44, none⟩)])] t frozen
      | o => o }
theorem queueFull_met (os : Os) (args : Array Value) : laidMetH Tryd.prog Rows.queueFullRow.laid ((queueFull_laidWorld os).forCall (fun _ _ => 0) ⟨#[], args, []⟩).memory :=
  laidMetH_of_parts (laidMet_nil _ _) (by kernel_rfl)

theorem queueFull_own : ownKnob Tryd.prog.godebug = none := by kernel_rfl
theorem queueFull_laidOut : laidOutB Tryd.prog = true := by kernel_rfl

set_option maxRecDepth 100000 in
theorem queueFull_lifted (os : Os) (started : os.Started) (H : Type) (enc : TypeId × Value → H) :
    ReturnsInHanded {} Tryd.checked os 7 .any (fun w args => (Rows.queueFullSpec.pre enc Tryd.prog Tryd.f7 [] false w args ∧ laidMetH Tryd.prog Rows.queueFullRow.laid w) ∧ sizedMet enc Tryd.prog Tryd.f7 (OpenSpec.ofChange Rows.queueFullSpec) false w args)
      (Rows.queueFullSpec.post enc Tryd.prog Tryd.f7 false true false false) := by
  refine returnsInHanded_of_change_and (C := Tryd.checked) (X := fun w _ => laidMetH Tryd.prog Rows.queueFullRow.laid w) (fun _ _ _ hh h => h.of_heap hh) queueFull_own started (by kernel_rfl) Tryd.func7
    (ChangeSpec.witness_at (enc := enc) (C := Tryd.checked) (os := os) (X := fun w _ => laidMetH Tryd.prog Rows.queueFullRow.laid w) false (queueFull_laidWorld os) #[.int .i64 0, .int .i64 0] 8 rfl (by kernel_rfl) (by kernel_rfl) (by kernel_rfl) (by kernel_rfl) (by kernel_rfl) (queueFull_met os _)) ?_
  intro W base args ds gs before hval0 hW hcnd _ hL _
  have hGl := queueFull_glob hL
  clear hcnd
  have hval : ∀ (j : Nat) t v, Tryd.f7.params[j]? = some t → args[j]? = some v → Value.okWide Tryd.prog W .any base t v := hval0
  have hW' := hW
  obtain ⟨p, q, hA0, hV, rfl, hfz, hnd⟩ := hW
  have hA : DataW.TrodAll enc Tryd.prog W 0 (fun _ => true) true Tryd.f7.params.toList args.toList ds p := hA0
  rw [Tryd.params7] at hA hval
  obtain ⟨v0, vs0, d0, ds0, p0, q0, hargs, rfl, rfl, h0, r0⟩ := trodAll_cons hA
  obtain ⟨v1, vs1, d1, ds1, p1, q1, rfl, rfl, rfl, h1, r1⟩ := trodAll_cons r0
  obtain ⟨rfl, rfl, rfl⟩ := trodAll_nil r1
  obtain rfl : args = #[v0, v1] := by cases args; simp_all
  obtain ⟨rfl, rfl⟩ := trodVars_none hV
  have k0 := h0
  have lt0 : ∀ x ∈ p0, x.block < W.heap.size := by obtain ⟨m, hm⟩ := k0; exact DataW.trod_lt m _ _ _ hm
  obtain ⟨a0, rfl, e0, f0, w0⟩ := open_int Tryd.underlying3 (hval 0 3 v0 rfl rfl) h0
  clear e0 f0
  have k1 := h1
  have lt1 : ∀ x ∈ p1, x.block < W.heap.size := by obtain ⟨m, hm⟩ := k1; exact DataW.trod_lt m _ _ _ hm
  obtain ⟨a1, rfl, e1, f1, w1⟩ := open_int Tryd.underlying3 (hval 1 3 v1 rfl rfl) h1
  clear e1 f1
  clear hA0 hval0
  refine (queueFull_walk a0 a1 W w0 w1 hGl).mono fun e W' ⟨he, bel⟩ => ?_
  subst he
  exact ⟨_, rfl, _, _, _, [], _, [], hW', trodAll_mk1 (shut_bool Tryd.underlying4 _), (trodAll_cons_mk (Below.trod queueFull_laidOut (by kernel_rfl) (of_decide_eq_true (by kernel_rfl)) k0 bel lt0) (trodAll_cons_mk (Below.trod queueFull_laidOut (by kernel_rfl) (of_decide_eq_true (by kernel_rfl)) k1 bel lt1) trodAll_mk0)), rfl, bel.frame _, fun h => by cases h⟩

/-- The statement QueueFull. -/
theorem queueFull_holds : Rows.QueueFullSaid :=
  OpenClaim.holds_of_wide 7 Tryd.f7 rfl rfl rfl rfl rfl rfl rfl ⟨rfl, rfl, rfl, rfl, rfl⟩ rfl rfl rfl rfl rfl (by kernel_rfl) Tryd.func7 (by kernel_rfl)
    (of_decide_eq_true (by kernel_rfl)) (by unfold Func.isWrapper; first | (rw [if_pos (by decide +kernel)]; kernel_rfl) | (rw [if_neg (by decide +kernel)]; exact ⟨rfl, rfl⟩))
    (fun os started H enc _ => queueFull_lifted os started H enc)
#print axioms queueFull_holds

/-- The card: the row, what it lists tied to the program's text. -/
theorem queueFull_card : Rows.QueueFullCardSaid :=
  Claim7.holds_tied_plain_at .later [] [.handle] true Rows.queueFullCard.stood.harness true
    queueFull_holds (fun _ h => by cases h) (by kernel_rfl) (fun _ h => by cases h) queueFull_row_tie rfl ⟨rfl, rfl⟩ (by kernel_rfl) rfl
    (fun f fn hf hfn => by
      obtain rfl : f = 7 := Option.some.inj ((show Tryd.prog.funcNamed "concord/concordlaw04.QueueFull" = some 7 by kernel_rfl).symm.trans hf) |>.symm
      obtain rfl : fn = Tryd.f7 := (Option.some.inj (Tryd.func7.symm.trans hfn)).symm
      exact ⟨by kernel_rfl, fun j t ht => by
        rw [Tryd.params7] at ht
        have hm : t ∈ Tryd.f7.params.toList := by rw [Tryd.params7]; simpa using Array.mem_of_getElem? ht
        have hall : (Tryd.f7.params.toList.all fun u => !Tryd.prog.wantsStandIn u) = true := by kernel_rfl
        exact (show Tryd.prog.wantsStandIn t = false by simpa using List.all_eq_true.1 hall t hm)⟩)
    (by kernel_rfl)
#print axioms queueFull_card

end Go.Proofs.YtjmkfloaagppdaaDoor
