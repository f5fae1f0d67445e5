/-
  WordsOnce: called with any accesses, any place and any three numbers, concordlaw01.WordsOnce returns true and changes nothing. No conditions.
-/
import Derived.Test.YtokcchgccfpbpaaWdPlay
import Derived.Test.YtokcchgccfpbpaaWdArgs
import Derived.Test.YtokcchgccfpbpaaRows
import Derived.ProofKit
import Derived.OpenShut
import Derived.ShutString
import Derived.ChangeOld
namespace Go.Proofs.Ytokcchgccfpbpaa
open Go.RowKit Go.Extern.Stop Go.Stop Go.Extern
open Go.ChangeShapes Go.WideShapes Go.ChangeAt

theorem place_of (i : Int) : ∃ (r : Int) (j : Nat), i.tmod 8 = r ∧ -8 < r ∧ r < 8 ∧ (r + 8) % 8 = (j : Int) ∧ j < 8 := by
  have h1 : -8 < i.tmod 8 ∧ i.tmod 8 < 8 := by
    rcases Int.lt_or_le i 0 with h | h
    · have e : i.tmod 8 = -((-i) % 8) := by
        rw [Int.tmod_eq_emod_of_nonneg (a := -i) (by omega) |>.symm, Int.neg_tmod]; omega
      omega
    · rw [Int.tmod_eq_emod_of_nonneg h]; omega
  exact ⟨i.tmod 8, ((i.tmod 8 + 8) % 8).toNat, rfl, h1.1, h1.2, by omega, by omega⟩

theorem Keeps.later {u v w : World} {a bw : Nat} (h : Keeps (fun _ => False) u v) (ha : u.heap.size ≤ a) (hb : u.heap.size ≤ bw) (k : Keeps (Its a bw) v w) : Keeps (fun _ => False) u w :=
  h.its k (fun h => absurd h (by omega)) (fun h => absurd h (by omega))

set_option maxHeartbeats 1000000 in
theorem once_many (a : Option Addr) (len cap : Nat) (i old x y : Int) (hl : 60 < len) (hm : len ≤ maxLen) (w : World) :
    Calls Try.prog 4 #[.slice a len cap, .int .i64 i, .int .u64 old, .int .u64 x, .int .u64 y] w fun e w' => e = .returned (.bool true) ∧ Below w.heap.size w w' := by
  obtain ⟨r, j, e1, b1, b2, e2, b3⟩ := place_of i
  have hl' := Lib.hid hl
  have hm' := Lib.hid hm
  clear hl hm
  go_enter Try.func4, Try.ntmps4
  go_wp2_with (first
    | (go_at_call 6; refine (play_many a len cap hl'.out hm'.out _).mono ?_; rintro e w1 ⟨rfl, hK⟩; have k1 := Lib.hid hK; clear hK)
    | (go_at_call 7; refine (alive_any _).mono ?_; rintro e w2 ⟨rfl, hK⟩; have k2 := Lib.hid hK; clear hK))
  go_ret
  exact ⟨rfl, (k1.out.trans_ k2.out).below (Nat.le_refl _) (fun _ _ h => h)⟩

set_option maxHeartbeats 2000000 in
theorem once_all (a : Option Addr) (len cap : Nat) (i old x y : Int) (hl : len ≤ 60) (w : World) (hin : Acts w a len) :
    Calls Try.prog 4 #[.slice a len cap, .int .i64 i, .int .u64 old, .int .u64 x, .int .u64 y] w fun e w' => e = .returned (.bool true) ∧ Below w.heap.size w w' := by
  obtain ⟨r, j, e1, b1, b2, e2, b3⟩ := place_of i
  have hl' := Lib.hid hl
  have hin' := Lib.hid hin
  clear hl hin
  go_enter Try.func4, Try.ntmps4
  go_wp2_with fail
  refine (play_all a len cap hl'.out _ hin'.out).mono ?_
  rintro e w1 ⟨ar, bw, ws, cnt, rfl, hA, hn, hc, ha, hb, hK⟩
  have a1 := Lib.hid hA
  have k1 := Lib.hid hK
  have la := Lib.hid ha
  have lb := Lib.hid hb
  have hc' := Lib.hid hc
  have hj : j < ws.length := by omega
  have hj' := Lib.hid hj
  clear hA hK ha hb hc hj hn
  obtain ⟨wd, hwd⟩ : ∃ wd, ws.getD j 0 = wd := ⟨_, rfl⟩
  have hwd' := Lib.hid hwd
  clear hwd
  by_cases t1 : wd = old
  · by_cases t2 : x = old
    · have t2' := Lib.hid t2
      have q1 : (wd == old) = true := by simpa using t1
      have q2 : (x == old) = true := by simpa using t2
      have t1' := Lib.hid t1
      clear t1 t2
      go_wp2_with fail
      have cl := load_in ar bw ws cnt j hj'.out (by have := hc'.out; omega) _ a1.out
      rw [hwd'.out] at cl
      refine cl.mono ?_
      clear cl
      rintro e w2 ⟨rfl, hA, hK⟩
      have a2 := Lib.hid hA
      have k2 := Lib.hid (k1.out.later la.out lb.out hK)
      clear hA hK
      go_wp2_with fail
      refine (cas_yes ar bw ws (cnt + 1) j old x (hwd'.out.trans t1'.out) hj'.out (by have := hc'.out; omega) _ a2.out).mono ?_
      rintro e w3 ⟨rfl, hA, hK⟩
      have a3 := Lib.hid hA
      have k3 := Lib.hid (k2.out.later la.out lb.out hK)
      clear hA hK
      go_wp2_with fail
      refine (cas_yes ar bw (ws.set j x) (cnt + 1 + 1) j old y ((show (ws.set j x).getD j 0 = x from (by have := hj'.out; simp [List.getD, this])).trans t2'.out) (by have := hj'.out; simpa using this) (by have := hc'.out; omega) _ a3.out).mono ?_
      rintro e w4 ⟨rfl, hA, hK⟩
      have a4 := Lib.hid hA
      have k4 := Lib.hid (k3.out.later la.out lb.out hK)
      clear hA hK
      go_wp2_with fail
      have cl := load_in ar bw ((ws.set j x).set j y) (cnt + 1 + 1 + 1) j (by have := hj'.out; simpa using this) (by have := hc'.out; omega) _ a4.out
      rw [show (((ws.set j x).set j y)).getD j 0 = y from (by have := hj'.out; simp [List.getD, this])] at cl
      refine cl.mono ?_
      clear cl
      rintro e w5 ⟨rfl, hA, hK⟩
      have k5 := Lib.hid (k4.out.later la.out lb.out hK)
      clear hA hK
      go_wp2_with (first | (go_at_call 10; refine (no_nil _).mono ?_; rintro e w' ⟨rfl, rfl⟩) | (go_at_call 7; refine (alive_any _).mono ?_; rintro e w6 ⟨rfl, hK⟩; have k6 := Lib.hid hK; clear hK))
      go_ret
      exact ⟨rfl, (k5.out.trans_ k6.out).below (Nat.le_refl _) (fun _ _ h => h)⟩
    · have t2' := Lib.hid t2
      have q1 : (wd == old) = true := by simpa using t1
      have q2 : (x == old) = false := by simpa using t2
      have t1' := Lib.hid t1
      clear t1 t2
      go_wp2_with fail
      have cl := load_in ar bw ws cnt j hj'.out (by have := hc'.out; omega) _ a1.out
      rw [hwd'.out] at cl
      refine cl.mono ?_
      clear cl
      rintro e w2 ⟨rfl, hA, hK⟩
      have a2 := Lib.hid hA
      have k2 := Lib.hid (k1.out.later la.out lb.out hK)
      clear hA hK
      go_wp2_with fail
      refine (cas_yes ar bw ws (cnt + 1) j old x (hwd'.out.trans t1'.out) hj'.out (by have := hc'.out; omega) _ a2.out).mono ?_
      rintro e w3 ⟨rfl, hA, hK⟩
      have a3 := Lib.hid hA
      have k3 := Lib.hid (k2.out.later la.out lb.out hK)
      clear hA hK
      go_wp2_with fail
      refine (cas_no ar bw (ws.set j x) (cnt + 1 + 1) j old y (fun e => t2'.out ((show (ws.set j x).getD j 0 = x from (by have := hj'.out; simp [List.getD, this])).symm.trans e)) (by have := hj'.out; simpa using this) (by have := hc'.out; omega) _ a3.out).mono ?_
      rintro e w4 ⟨rfl, hA, hK⟩
      have a4 := Lib.hid hA
      have k4 := Lib.hid (k3.out.later la.out lb.out hK)
      clear hA hK
      go_wp2_with fail
      have cl := load_in ar bw (ws.set j x) (cnt + 1 + 1 + 1) j (by have := hj'.out; simpa using this) (by have := hc'.out; omega) _ a4.out
      rw [show ((ws.set j x)).getD j 0 = x from (by have := hj'.out; simp [List.getD, this])] at cl
      refine cl.mono ?_
      clear cl
      rintro e w5 ⟨rfl, hA, hK⟩
      have k5 := Lib.hid (k4.out.later la.out lb.out hK)
      clear hA hK
      go_wp2_with (first | (go_at_call 10; refine (no_nil _).mono ?_; rintro e w' ⟨rfl, rfl⟩) | (go_at_call 7; refine (alive_any _).mono ?_; rintro e w6 ⟨rfl, hK⟩; have k6 := Lib.hid hK; clear hK))
      go_ret
      exact ⟨rfl, (k5.out.trans_ k6.out).below (Nat.le_refl _) (fun _ _ h => h)⟩
  · have q1 : (wd == old) = false := by simpa using t1
    have t1' := Lib.hid t1
    clear t1
    go_wp2_with fail
    have cl := load_in ar bw ws cnt j hj'.out (by have := hc'.out; omega) _ a1.out
    rw [hwd'.out] at cl
    refine cl.mono ?_
    clear cl
    rintro e w2 ⟨rfl, hA, hK⟩
    have a2 := Lib.hid hA
    have k2 := Lib.hid (k1.out.later la.out lb.out hK)
    clear hA hK
    go_wp2_with fail
    refine (cas_no ar bw ws (cnt + 1) j old x (fun e => t1'.out (hwd'.out.symm.trans e)) hj'.out (by have := hc'.out; omega) _ a2.out).mono ?_
    rintro e w3 ⟨rfl, hA, hK⟩
    have a3 := Lib.hid hA
    have k3 := Lib.hid (k2.out.later la.out lb.out hK)
    clear hA hK
    go_wp2_with fail
    refine (cas_no ar bw ws (cnt + 1 + 1) j old y (fun e => t1'.out (hwd'.out.symm.trans e)) hj'.out (by have := hc'.out; omega) _ a3.out).mono ?_
    rintro e w4 ⟨rfl, hA, hK⟩
    have a4 := Lib.hid hA
    have k4 := Lib.hid (k3.out.later la.out lb.out hK)
    clear hA hK
    go_wp2_with fail
    have cl := load_in ar bw ws (cnt + 1 + 1 + 1) j (by have := hj'.out; simpa using this) (by have := hc'.out; omega) _ a4.out
    rw [show (ws).getD j 0 = wd from hwd'.out] at cl
    refine cl.mono ?_
    clear cl
    rintro e w5 ⟨rfl, hA, hK⟩
    have k5 := Lib.hid (k4.out.later la.out lb.out hK)
    clear hA hK
    go_wp2_with (first | (go_at_call 10; refine (no_nil _).mono ?_; rintro e w' ⟨rfl, rfl⟩) | (go_at_call 7; refine (alive_any _).mono ?_; rintro e w6 ⟨rfl, hK⟩; have k6 := Lib.hid hK; clear hK))
    go_ret
    exact ⟨rfl, (k5.out.trans_ k6.out).below (Nat.le_refl _) (fun _ _ h => h)⟩

theorem wordsOnce_walk (a : Option Addr) (len cap : Nat) (i old x y : Int) (w : World) (w0 : Acts w a len) (_w1 : (Lit.int .i64 i).wf = true) (_w2 : (Lit.int .u64 old).wf = true) (_w3 : (Lit.int .u64 x).wf = true) (_w4 : (Lit.int .u64 y).wf = true) :
    Calls Try.prog 4 #[.slice a len cap, .int .i64 i, .int .u64 old, .int .u64 x, .int .u64 y] w fun e w' => e = .returned (.bool true) ∧ Below w.heap.size w w' := by
  rcases Nat.lt_or_ge 60 len with h | h
  · refine once_many a len cap i old x y h ?_ w
    rcases w0 with ⟨_, h0⟩ | ⟨_, _, hm, _⟩
    · omega
    · exact hm
  · exact once_all a len cap i old x y h w w0

theorem wordsOnce_own : ownKnob Try.prog.godebug = none := by kernel_rfl
theorem wordsOnce_laidOut : laidOutB Try.prog = true := by kernel_rfl

set_option maxRecDepth 100000 in
theorem wordsOnce_lifted (os : Os) (started : os.Started) (H : Type) (enc : TypeId × Value → H) :
    ReturnsInHanded {} Try.checked os 4 .any (Rows.wordsOnceSpec.pre6 enc Try.prog Try.f4 Rows.wordsOnceRow.domain false) (Rows.wordsOnceSpec.post enc Try.prog Try.f4 false true false false) := by
  refine returnsInHanded_of_change (C := Try.checked) wordsOnce_own started (by kernel_rfl) Try.func4
    (ChangeSpec.witness6 (enc := enc) (C := Try.checked) false ⟨#[], #[.slice none 0 0, .int .i64 0, .int .u64 0, .int .u64 0, .int .u64 0], []⟩ 8 (by kernel_rfl) (by kernel_rfl) (by kernel_rfl) (by kernel_rfl)) ?_
  intro W base args ds gs before hval0 hW hcnd _
  clear hcnd
  have hval : ∀ (j : Nat) t v, Try.f4.params[j]? = some t → args[j]? = some v → Value.okWide Try.prog W .any base t v := hval0
  have hW' := hW
  obtain ⟨p, q, hA0, hV, rfl, hfz, hnd⟩ := hW
  have hA : DataW.TrodAll enc Try.prog W 0 (fun _ => true) true Try.f4.params.toList args.toList ds p := hA0
  rw [Try.params4] at hA hval
  obtain ⟨v0, vs0, d0, ds0, p0, q0, hargs, rfl, rfl, h0, r0⟩ := trodAll_cons hA
  obtain ⟨v1, vs1, d1, ds1, p1, q1, rfl, rfl, rfl, h1, r1⟩ := trodAll_cons r0
  obtain ⟨v2, vs2, d2, ds2, p2, q2, rfl, rfl, rfl, h2, r2⟩ := trodAll_cons r1
  obtain ⟨v3, vs3, d3, ds3, p3, q3, rfl, rfl, rfl, h3, r3⟩ := trodAll_cons r2
  obtain ⟨v4, vs4, d4, ds4, p4, q4, rfl, rfl, rfl, h4, r4⟩ := trodAll_cons r3
  obtain ⟨rfl, rfl, rfl⟩ := trodAll_nil r4
  obtain rfl : args = #[v0, v1, v2, v3, v4] := by cases args; simp_all
  obtain ⟨rfl, rfl⟩ := trodVars_none hV
  have k0 := h0
  have lt0 : ∀ x ∈ p0, x.block < W.heap.size := by obtain ⟨m, hm⟩ := k0; exact DataW.trod_lt m _ _ _ hm
  obtain ⟨a0, len0, cap0, rfl⟩ := okWide_slice Try.underlying22 (hval 0 22 v0 rfl rfl)
  have w0 : Acts W a0 len0 := by
    obtain ⟨fuel, hf⟩ := h0
    rcases open_slice_fields Try.underlying22 Try.underlying50 (by kernel_rfl) (by kernel_rfl) hf with ⟨hcs, _⟩ | ⟨x, l, c, m, D, Pl, hcs, _, hl, hm, hmm, _, hi⟩
    · simp [Value.cells] at hcs
      obtain ⟨rfl, rfl, rfl⟩ := hcs
      exact .inl ⟨rfl, rfl⟩
    · simp [Value.cells] at hcs
      obtain ⟨rfl, rfl, rfl⟩ := hcs
      refine .inr ⟨_, rfl, Nat.le_trans hl hm, fun i hlt => ?_⟩
      obtain ⟨ys, n, _, _, _, hf⟩ := hi i (by rw [hmm]; split <;> omega)
      obtain ⟨u0, y0, c0, _, t0⟩ := hf 0 _ rfl
      obtain ⟨z0, e0, _, _⟩ := DataW.trod_int (k := .i64) (by kernel_rfl) t0
      simp at e0
      subst e0
      obtain ⟨u1, y1, c1, _, t1⟩ := hf 1 _ rfl
      obtain ⟨z1, e1, _, _⟩ := DataW.trod_int (k := .i64) (by kernel_rfl) t1
      simp at e1
      subst e1
      obtain ⟨u2, y2, c2, _, t2⟩ := hf 2 _ rfl
      obtain ⟨z2, e2, _, _⟩ := DataW.trod_int (k := .u64) (by kernel_rfl) t2
      simp at e2
      subst e2
      obtain ⟨u3, y3, c3, _, t3⟩ := hf 3 _ rfl
      obtain ⟨z3, e3, _, _⟩ := DataW.trod_int (k := .u64) (by kernel_rfl) t3
      simp at e3
      subst e3
      exact ⟨z0, z1, z2, z3, c0, c1, c2, c3⟩
  have k1 := h1
  have lt1 : ∀ x ∈ p1, x.block < W.heap.size := by obtain ⟨m, hm⟩ := k1; exact DataW.trod_lt m _ _ _ hm
  obtain ⟨a1, rfl, e1, f1, w1⟩ := open_int Try.underlying3 (hval 1 3 v1 rfl rfl) h1
  clear e1 f1
  have k2 := h2
  have lt2 : ∀ x ∈ p2, x.block < W.heap.size := by obtain ⟨m, hm⟩ := k2; exact DataW.trod_lt m _ _ _ hm
  obtain ⟨a2, rfl, e2, f2, w2⟩ := open_int Try.underlying23 (hval 2 23 v2 rfl rfl) h2
  clear e2 f2
  have k3 := h3
  have lt3 : ∀ x ∈ p3, x.block < W.heap.size := by obtain ⟨m, hm⟩ := k3; exact DataW.trod_lt m _ _ _ hm
  obtain ⟨a3, rfl, e3, f3, w3⟩ := open_int Try.underlying23 (hval 3 23 v3 rfl rfl) h3
  clear e3 f3
  have k4 := h4
  have lt4 : ∀ x ∈ p4, x.block < W.heap.size := by obtain ⟨m, hm⟩ := k4; exact DataW.trod_lt m _ _ _ hm
  obtain ⟨a4, rfl, e4, f4, w4⟩ := open_int Try.underlying23 (hval 4 23 v4 rfl rfl) h4
  clear e4 f4
  clear hA0 hval0
  refine (wordsOnce_walk a0 len0 cap0 a1 a2 a3 a4 W w0 w1 w2 w3 w4).mono fun e W' ⟨he, bel⟩ => ?_
  subst he
  exact ⟨_, rfl, _, _, _, [], _, [], hW', trodAll_mk1 (shut_bool Try.underlying4 _), (trodAll_cons_mk (Below.trod wordsOnce_laidOut (by kernel_rfl) (of_decide_eq_true (by kernel_rfl)) k0 bel lt0) (trodAll_cons_mk (Below.trod wordsOnce_laidOut (by kernel_rfl) (of_decide_eq_true (by kernel_rfl)) k1 bel lt1) (trodAll_cons_mk (Below.trod wordsOnce_laidOut (by kernel_rfl) (of_decide_eq_true (by kernel_rfl)) k2 bel lt2) (trodAll_cons_mk (Below.trod wordsOnce_laidOut (by kernel_rfl) (of_decide_eq_true (by kernel_rfl)) k3 bel lt3) (trodAll_cons_mk (Below.trod wordsOnce_laidOut (by kernel_rfl) (of_decide_eq_true (by kernel_rfl)) k4 bel lt4) trodAll_mk0))))), rfl, bel.frame _, fun h => by cases h⟩

/-- The statement WordsOnce. -/
theorem wordsOnce_holds : Rows.WordsOnceSaid :=
  OpenClaim.holds_of_wide 4 Try.f4 rfl rfl rfl rfl rfl rfl rfl ⟨rfl, rfl, rfl, rfl, rfl⟩ rfl rfl rfl rfl rfl (by kernel_rfl) Try.func4 (by kernel_rfl)
    (of_decide_eq_true (by kernel_rfl)) (by unfold Func.isWrapper; first | (rw [if_pos (by decide +kernel)]; kernel_rfl) | (rw [if_neg (by decide +kernel)]; exact ⟨rfl, rfl⟩))
    (fun os started H enc _ => wordsOnce_lifted os started H enc)
#print axioms wordsOnce_holds
end Go.Proofs.Ytokcchgccfpbpaa
