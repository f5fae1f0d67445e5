/-
  WordsLast: called with any accesses, any place and any number, concordlaw01.WordsLast returns true and changes nothing. No conditions.
-/
import Derived.Test.YtokcchgccfpbpaaWdPlay
import Derived.Test.YtokcchgccfpbpaaWdArgs
import Derived.Test.YtokcchgccfpbpaaRows
import Derived.ProofKit
import Derived.OpenShut
import Derived.ShutString
import Derived.ChangeOld
namespace Go.Proofs.Ytokcchgccfpbpaa
open Go.RowKit Go.Extern.Stop Go.Stop Go.Extern
open Go.ChangeShapes Go.WideShapes Go.ChangeAt

theorem Keeps.on {u v w : World} {a bw : Nat} (h : Keeps (fun _ => False) u v) (ha : u.heap.size ≤ a) (hb : u.heap.size ≤ bw) (k : Keeps (Its a bw) v w) : Keeps (fun _ => False) u w :=
  h.its k (fun h => absurd h (by omega)) (fun h => absurd h (by omega))

set_option maxHeartbeats 1000000 in
theorem last_many (a : Option Addr) (len cap : Nat) (i x : Int) (hl : 60 < len) (hm : len ≤ maxLen) (w : World) :
    Calls Try.prog 3 #[.slice a len cap, .int .i64 i, .int .u64 x] w fun e w' => e = .returned (.bool true) ∧ Below w.heap.size w w' := by
  have hl' := Lib.hid hl
  have hm' := Lib.hid hm
  clear hl hm
  go_enter Try.func3, Try.ntmps3
  go_wp2_with (first
    | (go_at_call 6; refine (play_many a len cap hl'.out hm'.out _).mono ?_; rintro e w1 ⟨rfl, hK⟩; have k1 := Lib.hid hK; clear hK)
    | (go_at_call 7; refine (alive_any _).mono ?_; rintro e w2 ⟨rfl, hK⟩; have k2 := Lib.hid hK; clear hK))
  go_ret
  exact ⟨rfl, (k1.out.trans_ k2.out).below (Nat.le_refl _) (fun _ _ h => h)⟩

theorem no_range (p : Nat) (i : Int) (w : World) (h : Whole w p 64 #[.int .i64 i, .int .i64 3]) :
    Calls Try.prog 10 #[.iface 62 (.pointer (some ⟨p, 0, none⟩))] w fun e w' => e = .returned (.int .i64 3) ∧ w = w' :=
  no_fault p 0 3 (by decide) (by decide) w (h.at_ 1)

set_option maxHeartbeats 1000000 in
theorem last_out (a : Option Addr) (len cap : Nat) (i x : Int) (hl : len ≤ 60) (hi : i < 0 ∨ 8 ≤ i) (w : World) (hin : Acts w a len) :
    Calls Try.prog 3 #[.slice a len cap, .int .i64 i, .int .u64 x] w fun e w' => e = .returned (.bool true) ∧ Below w.heap.size w w' := by
  have hl' := Lib.hid hl
  have hin' := Lib.hid hin
  have hi' := Lib.hid hi
  clear hl hin hi
  go_enter Try.func3, Try.ntmps3
  go_wp2_with fail
  refine (play_all a len cap hl'.out _ hin'.out).mono ?_
  rintro e w1 ⟨ar, bw, ws, cnt, rfl, hA, hn, hc, ha, hb, hK⟩
  have a1 := Lib.hid hA
  have k1 := Lib.hid hK
  have hn' := Lib.hid hn
  have h16 : ws.length ≤ 16384 := by omega
  have h16' := Lib.hid h16
  clear hA hK ha hb hc hn h16
  go_wp2_with fail
  refine (words_there ar bw ws cnt _ a1.out).mono ?_
  rintro e w2 ⟨g, rfl, hW, hg, hK⟩
  have g2 := Lib.hid hW
  have k2 := Lib.hid hK
  have a2 := Lib.hid (a1.out.keeps hK id id)
  clear hW hg hK
  go_wp2_with fail
  refine (store_out ar bw ws cnt i x (by rw [hn'.out]; exact hi'.out) _ a2.out).mono ?_
  rintro e w3 ⟨p, rfl, hP, hK⟩
  have p3 := Lib.hid hP
  have g3 := Lib.hid (g2.out.keeps hK id)
  have k3 := Lib.hid hK
  have a3 := Lib.hid (a2.out.keeps hK id id)
  clear hP hK
  by_cases hneg : i < 0
  all_goals
    first
    | have hq : i < 0 := hneg
    | have hq : 8 ≤ i := by
        rcases hi'.out with h | h
        · exact absurd h hneg
        · exact h
    go_wp2_with fail
    refine (no_range p i _ p3.out).mono ?_
    rintro e w' ⟨rfl, rfl⟩
    go_wp2_with fail
    refine (words_there ar bw ws cnt _ a3.out).mono ?_
    rintro e w4 ⟨h, rfl, hW, hg, hK⟩
    have h4 := Lib.hid hW
    have g4 := Lib.hid (g3.out.keeps hK id)
    have k4 := Lib.hid hK
    clear hW hg hK
    go_wp2_with fail
    refine (same_yes h g ws _ h4.out g4.out h16'.out).mono ?_
    rintro e w5 ⟨rfl, hK⟩
    have k5 := Lib.hid hK
    clear hK
    go_wp2_with (go_at_call 7; refine (alive_any _).mono ?_; rintro e w6 ⟨rfl, hK⟩; have k6 := Lib.hid hK; clear hK)
    go_ret
    exact ⟨rfl, (((((k1.out.trans_ k2.out).trans_ k3.out).trans_ k4.out).trans_ k5.out).trans_ k6.out).below (Nat.le_refl _) (fun _ _ h => h)⟩

theorem eight {ws : List Int} (hn : ws.length = 8) (g : Nat) : Value.slice (some ⟨g, 0, none⟩) ws.length ws.length = .slice (some ⟨g, 0, none⟩) 8 8 := by rw [hn]

set_option maxHeartbeats 2000000 in
theorem last_in (a : Option Addr) (len cap j : Nat) (x : Int) (hl : len ≤ 60) (hj : j < 8) (w : World) (hin : Acts w a len) :
    Calls Try.prog 3 #[.slice a len cap, .int .i64 j, .int .u64 x] w fun e w' => e = .returned (.bool true) ∧ Below w.heap.size w w' := by
  have hl' := Lib.hid hl
  have hin' := Lib.hid hin
  clear hl hin
  go_enter Try.func3, Try.ntmps3
  go_wp2_with fail
  refine (play_all a len cap hl'.out _ hin'.out).mono ?_
  rintro e w1 ⟨ar, bw, ws, cnt, rfl, hA, hn, hc, ha, hb, hK⟩
  have a1 := Lib.hid hA
  have k1 := Lib.hid hK
  have la := Lib.hid ha
  have lb := Lib.hid hb
  have hc' := Lib.hid hc
  have hn' := Lib.hid hn
  have hn2 : (ws.set j x).length = 8 := by simpa using hn
  have hn2' := Lib.hid hn2
  have hj' : j < ws.length := by omega
  have hj'' := Lib.hid hj'
  clear hA hK ha hb hc hn hn2 hj'
  go_wp2_with fail
  refine (words_there ar bw ws cnt _ a1.out).mono ?_
  rintro e w2 ⟨g, rfl, hW, hg, hK⟩
  rw [eight hn'.out]
  have g2 := Lib.hid hW
  have k2 := Lib.hid hK
  have gl := Lib.hid (show w1.heap.size ≤ g from hg)
  have a2 := Lib.hid (a1.out.keeps hK id id)
  clear hW hg hK
  go_wp2_with fail
  refine (store_in ar bw ws cnt j x hj''.out (by have := hc'.out; omega) _ a2.out).mono ?_
  rintro e w3 ⟨rfl, hA, hK⟩
  have g3 := Lib.hid (g2.out.keeps hK (by
    have h1 := a1.out.lt
    have h2 := gl.out
    rintro (e | e) <;> omega))
  have k3 := Lib.hid ((k1.out.trans_ k2.out).on la.out lb.out hK)
  have a3 := Lib.hid hA
  clear hA hK
  go_wp2_with fail
  have cl := load_in ar bw (ws.set j x) (cnt + 1) j (by have := hj''.out; simpa using this) (by have := hc'.out; omega) _ a3.out
  rw [show (ws.set j x).getD j 0 = x from (by have := hj''.out; simp [List.getD, this])] at cl
  refine cl.mono ?_
  clear cl
  rintro e w4 ⟨rfl, hA, hK⟩
  have g4 := Lib.hid (g3.out.keeps hK (by
    have h1 := a1.out.lt
    have h2 := gl.out
    rintro (e | e) <;> omega))
  have k4 := Lib.hid (k3.out.on la.out lb.out hK)
  have a4 := Lib.hid hA
  clear hA hK
  go_wp2_with fail
  refine (words_there ar bw (ws.set j x) _ _ a4.out).mono ?_
  rintro e w5 ⟨h, rfl, hW, hg, hK⟩
  rw [eight hn2'.out]
  have h5 := Lib.hid hW
  have g5 := Lib.hid (g4.out.keeps hK id)
  have k5 := Lib.hid (k4.out.trans_ hK)
  clear hW hg hK
  go_wp2_with (go_at_call 10; refine (no_nil _).mono ?_; rintro e w' ⟨rfl, rfl⟩)
  go_loopw [74] (fun i wr => ∃ k n : Nat, k ≤ 8 ∧ i = .int .i64 k ∧ wr = w5.drewN n) (fun i _ => 8 - (intOf i).toNat)
  case atStart => exact ⟨0, 0, by omega, rfl, rfl⟩
  case round =>
    obtain ⟨k, n, hk, rfl, rfl⟩ := hrel
    by_cases hlt : k < 8
    · have c1 : w5.cell? ⟨h, k, none⟩ = some (.int .u64 ((ws.set j x).getD k 0)) := (h5.out.at_ k).trans (wordCells_at _ k (by rw [hn2'.out]; exact hlt))
      have c2 : w5.cell? ⟨g, k, none⟩ = some (.int .u64 (ws.getD k 0)) := (g5.out.at_ k).trans (wordCells_at _ k (by rw [hn'.out]; exact hlt))
      by_cases hkj : k = j
      · have q1 : ((k : Int) == (j : Int)) = true := by simp [hkj]
        have q2 : ((k : Int) != (j : Int)) = false := by simp [hkj]
        generalize (ws.set j x).getD k 0 = u at c1
        generalize ws.getD k 0 = v at c2
        clear hkj
        go_wp2
        go_quiet (fail)
        go_wp2
        go_roundw
        case rel => exact ⟨k + 1, _, by omega, by go_num, rfl⟩
        case measure => simp [intOf]; omega
      · have q1 : ((k : Int) == (j : Int)) = false := by simp; omega
        have q2 : ((k : Int) != (j : Int)) = true := by simp; omega
        have e1 : (ws.set j x).getD k 0 = ws.getD k 0 := by simp [List.getD, Ne.symm hkj]
        rw [e1] at c1
        generalize ws.getD k 0 = v at c1 c2
        clear e1 hkj
        go_wp2
        go_quiet (fail)
        go_wp2
        go_roundw
        case rel => exact ⟨k + 1, _, by omega, by go_num, rfl⟩
        case measure => simp [intOf]; omega
    · go_wp2_with (go_at_call 7; refine (alive_any _).mono ?_; rintro e w6 ⟨rfl, hK⟩; have k6 := Lib.hid hK; clear hK)
      go_ret
      exact ⟨rfl, ((k5.out.drewN n).trans_ k6.out).below (Nat.le_refl _) (fun _ _ h => h)⟩

theorem wordsLast_walk (a : Option Addr) (len cap : Nat) (i x : Int) (w : World) (w0 : Acts w a len) (_w1 : (Lit.int .i64 i).wf = true) (_w2 : (Lit.int .u64 x).wf = true) :
    Calls Try.prog 3 #[.slice a len cap, .int .i64 i, .int .u64 x] w fun e w' => e = .returned (.bool true) ∧ Below w.heap.size w w' := by
  rcases Nat.lt_or_ge 60 len with h | h
  · refine last_many a len cap i x h ?_ w
    rcases w0 with ⟨_, h0⟩ | ⟨_, _, hm, _⟩
    · omega
    · exact hm
  · rcases in_or_out i 8 with ho | ⟨j, rfl, hj⟩
    · exact last_out a len cap i x h ho w w0
    · exact last_in a len cap j x h hj w w0

theorem wordsLast_own : ownKnob Try.prog.godebug = none := by kernel_rfl
theorem wordsLast_laidOut : laidOutB Try.prog = true := by kernel_rfl

set_option maxRecDepth 100000 in
theorem wordsLast_lifted (os : Os) (started : os.Started) (H : Type) (enc : TypeId × Value → H) :
    ReturnsInHanded {} Try.checked os 3 .any (Rows.wordsLastSpec.pre6 enc Try.prog Try.f3 Rows.wordsLastRow.domain false) (Rows.wordsLastSpec.post enc Try.prog Try.f3 false true false false) := by
  refine returnsInHanded_of_change (C := Try.checked) wordsLast_own started (by kernel_rfl) Try.func3
    (ChangeSpec.witness6 (enc := enc) (C := Try.checked) false ⟨#[], #[.slice none 0 0, .int .i64 0, .int .u64 0], []⟩ 8 (by kernel_rfl) (by kernel_rfl) (by kernel_rfl) (by kernel_rfl)) ?_
  intro W base args ds gs before hval0 hW hcnd _
  clear hcnd
  have hval : ∀ (j : Nat) t v, Try.f3.params[j]? = some t → args[j]? = some v → Value.okWide Try.prog W .any base t v := hval0
  have hW' := hW
  obtain ⟨p, q, hA0, hV, rfl, hfz, hnd⟩ := hW
  have hA : DataW.TrodAll enc Try.prog W 0 (fun _ => true) true Try.f3.params.toList args.toList ds p := hA0
  rw [Try.params3] at hA hval
  obtain ⟨v0, vs0, d0, ds0, p0, q0, hargs, rfl, rfl, h0, r0⟩ := trodAll_cons hA
  obtain ⟨v1, vs1, d1, ds1, p1, q1, rfl, rfl, rfl, h1, r1⟩ := trodAll_cons r0
  obtain ⟨v2, vs2, d2, ds2, p2, q2, rfl, rfl, rfl, h2, r2⟩ := trodAll_cons r1
  obtain ⟨rfl, rfl, rfl⟩ := trodAll_nil r2
  obtain rfl : args = #[v0, v1, v2] := by cases args; simp_all
  obtain ⟨rfl, rfl⟩ := trodVars_none hV
  have k0 := h0
  have lt0 : ∀ x ∈ p0, x.block < W.heap.size := by obtain ⟨m, hm⟩ := k0; exact DataW.trod_lt m _ _ _ hm
  obtain ⟨a0, len0, cap0, rfl⟩ := okWide_slice Try.underlying22 (hval 0 22 v0 rfl rfl)
  have w0 : Acts W a0 len0 := by
    obtain ⟨fuel, hf⟩ := h0
    rcases open_slice_fields Try.underlying22 Try.underlying50 (by kernel_rfl) (by kernel_rfl) hf with ⟨hcs, _⟩ | ⟨x, l, c, m, D, Pl, hcs, _, hl, hm, hmm, _, hi⟩
    · simp [Value.cells] at hcs
      obtain ⟨rfl, rfl, rfl⟩ := hcs
      exact .inl ⟨rfl, rfl⟩
    · simp [Value.cells] at hcs
      obtain ⟨rfl, rfl, rfl⟩ := hcs
      refine .inr ⟨_, rfl, Nat.le_trans hl hm, fun i hlt => ?_⟩
      obtain ⟨ys, n, _, _, _, hf⟩ := hi i (by rw [hmm]; split <;> omega)
      obtain ⟨u0, y0, c0, _, t0⟩ := hf 0 _ rfl
      obtain ⟨z0, e0, _, _⟩ := DataW.trod_int (k := .i64) (by kernel_rfl) t0
      simp at e0
      subst e0
      obtain ⟨u1, y1, c1, _, t1⟩ := hf 1 _ rfl
      obtain ⟨z1, e1, _, _⟩ := DataW.trod_int (k := .i64) (by kernel_rfl) t1
      simp at e1
      subst e1
      obtain ⟨u2, y2, c2, _, t2⟩ := hf 2 _ rfl
      obtain ⟨z2, e2, _, _⟩ := DataW.trod_int (k := .u64) (by kernel_rfl) t2
      simp at e2
      subst e2
      obtain ⟨u3, y3, c3, _, t3⟩ := hf 3 _ rfl
      obtain ⟨z3, e3, _, _⟩ := DataW.trod_int (k := .u64) (by kernel_rfl) t3
      simp at e3
      subst e3
      exact ⟨z0, z1, z2, z3, c0, c1, c2, c3⟩
  have k1 := h1
  have lt1 : ∀ x ∈ p1, x.block < W.heap.size := by obtain ⟨m, hm⟩ := k1; exact DataW.trod_lt m _ _ _ hm
  obtain ⟨a1, rfl, e1, f1, w1⟩ := open_int Try.underlying3 (hval 1 3 v1 rfl rfl) h1
  clear e1 f1
  have k2 := h2
  have lt2 : ∀ x ∈ p2, x.block < W.heap.size := by obtain ⟨m, hm⟩ := k2; exact DataW.trod_lt m _ _ _ hm
  obtain ⟨a2, rfl, e2, f2, w2⟩ := open_int Try.underlying23 (hval 2 23 v2 rfl rfl) h2
  clear e2 f2
  clear hA0 hval0
  refine (wordsLast_walk a0 len0 cap0 a1 a2 W w0 w1 w2).mono fun e W' ⟨he, bel⟩ => ?_
  subst he
  exact ⟨_, rfl, _, _, _, [], _, [], hW', trodAll_mk1 (shut_bool Try.underlying4 _), (trodAll_cons_mk (Below.trod wordsLast_laidOut (by kernel_rfl) (of_decide_eq_true (by kernel_rfl)) k0 bel lt0) (trodAll_cons_mk (Below.trod wordsLast_laidOut (by kernel_rfl) (of_decide_eq_true (by kernel_rfl)) k1 bel lt1) (trodAll_cons_mk (Below.trod wordsLast_laidOut (by kernel_rfl) (of_decide_eq_true (by kernel_rfl)) k2 bel lt2) trodAll_mk0))), rfl, bel.frame _, fun h => by cases h⟩

/-- The statement WordsLast. -/
theorem wordsLast_holds : Rows.WordsLastSaid :=
  OpenClaim.holds_of_wide 3 Try.f3 rfl rfl rfl rfl rfl rfl rfl ⟨rfl, rfl, rfl, rfl, rfl⟩ rfl rfl rfl rfl rfl (by kernel_rfl) Try.func3 (by kernel_rfl)
    (of_decide_eq_true (by kernel_rfl)) (by unfold Func.isWrapper; first | (rw [if_pos (by decide +kernel)]; kernel_rfl) | (rw [if_neg (by decide +kernel)]; exact ⟨rfl, rfl⟩))
    (fun os started H enc _ => wordsLast_lifted os started H enc)
#print axioms wordsLast_holds
end Go.Proofs.Ytokcchgccfpbpaa
