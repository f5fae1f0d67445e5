/-
  Ctx.Load, Store, CAS, Alloc, Free by contract, as ask says.
-/
import Derived.Test.YtenhmficiegpiaaGreatDoorThAcc
import Derived.Shelf.Abstract
namespace Go.Proofs.YtenhmficiegpiaaGreatDoor
open Go.RowKit Go.Extern.Stop Go.Stop Go.Extern

theorem makes_func (fn : Fn) (first cap : Array Value) (w : World) : (Instr.makeFunc fn first cap).run Tryz.prog w = .ok (.func fn first cap) w := rfl

theorem ErrV.typed {w w' : World} {v : Value} {e : EA} {n : Nat} {t : TypeId} {cs : Array Value} (h : ErrV w v e) (k : Keeps (fun x => x = n) w w') (hn : Whole w n t cs) (ht : 99 ≠ t) : ErrV w' v e := by
  cases e with
  | ok => exact h
  | no q => exact h
  | at_ i q =>
    obtain ⟨p, rfl, hp⟩ := h
    exact ⟨p, rfl, hp.keeps k (hp.ne_ hn ht)⟩

theorem Asked.back {w w1 w2 w' : World} {c t b a pl : Nat} {bv : Value} {round steps : Int} {ev : Value} {s : Rn} {Z : Nat → Prop} {q : Req} {v : Value} (h : Asked w1 c t b a pl bv round steps ev s Z q v w2) (k : Keeps (fun _ => False) w w1) (k2 : Keeps (fun _ => False) w2 w') : Asked w c t b a pl bv round steps ev s Z q v w' := by
  obtain ⟨h1, h2, Z', h3, h4⟩ := h
  refine ⟨h1.keeps k2 fun _ _ _ => id, fun ty x hx => Nat.le_trans k.size (h2 ty x hx), Z', h3.same k2, ((Mv.stay k).trans h4).trans (Mv.stay k2)⟩

theorem req_shape_load (m : Mm) (ref : Nat) (i : Int) : entVal0 (doReq m (.load ref i)).1 = .agg #[.int .i64 1, .int .u64 (ref : Int), .int .i64 i, .int .u64 (((doReq m (.load ref i)).1.word) : Int), .bool false, .int .i64 0] := by
  simp only [doReq]
  repeat' split
  all_goals rfl

set_option maxRecDepth 100000 in
set_option maxHeartbeats 1000000 in
theorem load_does {b a c N : Nat} (ref : Nat) (i : Int) (hq : ref < 18446744073709551616) (x0 x1 : Nat) (w : World) (hcN : c < N) (h0 : w.cell? ⟨x0, 0, none⟩ = some (.int .u64 (ref : Int))) (n0 : N ≤ x0) (h1 : w.cell? ⟨x1, 0, none⟩ = some (.int .i64 i)) (n1 : N ≤ x1) :
    Does 79 #[.pointer (some ⟨x0, 0, none⟩), .pointer (some ⟨x1, 0, none⟩)] (.load ref i) b a c N w := by
  intro W X m k hm hX hcnt
  have d0 : W.cell? ⟨x0, 0, none⟩ = some (.int .u64 (ref : Int)) := (k.cell (p := ⟨x0, 0, none⟩) (cell_lt h0) (by show ¬ x0 = c; omega)).trans h0
  have l0 : Hid (¬ X x0) := Lib.hid fun h => by have := hX _ h; omega
  have s0 : x0 < W.heap.size := cell_lt d0
  have d1 : W.cell? ⟨x1, 0, none⟩ = some (.int .i64 i) := (k.cell (p := ⟨x1, 0, none⟩) (cell_lt h1) (by show ¬ x1 = c; omega)).trans h1
  have l1 : Hid (¬ X x1) := Lib.hid fun h => by have := hX _ h; omega
  have s1 : x1 < W.heap.size := cell_lt d1
  obtain ⟨W1, hW1⟩ : ∃ V, V = W.alloc (.cells #[.int .i64 0, .int .u64 0, .int .i64 0, .int .u64 0, .bool false, .int .i64 0] 105) := ⟨_, rfl⟩
  have k1 : Keeps (fun _ => False) W W1 := by rw [hW1]; exact (Keeps.refl _ W).alloc _
  have mA : Whole W1 W.heap.size 105 #[.int .i64 0, .int .u64 0, .int .i64 0, .int .u64 0, .bool false, .int .i64 0] := by rw [hW1]; exact Whole.made _ _ _
  have cl := Lib.hid (load_req ref i hq hcnt W1 (hm.same k1))
  have k1' := Lib.hid k1
  have mA' := Lib.hid mA
  have hW1' := Lib.hid hW1
  have oldX := Lib.hid hm.old
  have e0 := Lib.hid (show W1.cell? ⟨x0, 0, none⟩ = some (.int .u64 (ref : Int)) from (k1.cell (p := ⟨x0, 0, none⟩) s0 id).trans d0)
  have e1 := Lib.hid (show W1.cell? ⟨x1, 0, none⟩ = some (.int .i64 i) from (k1.cell (p := ⟨x1, 0, none⟩) s1 id).trans d1)
  clear k hm hX hcnt k1 mA hW1 hcN h0 n0 h1 n1
  generalize hR : doReq m (.load ref i) = R at cl ⊢
  have hR' := Lib.hid hR
  obtain ⟨ent, m'⟩ := R
  clear hR
  go_enter Tryz.func79, Tryz.ntmps79
  go_wp2_with fail
  rw [← hW1'.out]
  refine cl.out.mono ?_
  rintro e W2 ⟨v, rfl, hv, X', hm, hX⟩
  have g0 : W2.cell? ⟨x0, 0, none⟩ = some (.int .u64 (ref : Int)) := (hX.keeps.cell (p := ⟨x0, 0, none⟩) (cell_lt e0.out) l0.out).trans e0.out
  have g1 : W2.cell? ⟨x1, 0, none⟩ = some (.int .i64 i) := (hX.keeps.cell (p := ⟨x1, 0, none⟩) (cell_lt e1.out) l1.out).trans e1.out
  have mB := mA'.out.keeps hX.keeps (fun h => Nat.lt_irrefl _ (oldX.out _ h))
  obtain ⟨⟨a0, a1, a2, a3, a4, a5⟩, z0, z1, z2, z3, z4, z5⟩ := six mB
  have hv' := Lib.hid hv
  have hm' := Lib.hid hm
  have hX' := Lib.hid hX
  have mB' := Lib.hid mB
  clear hv hm hX mB
  go_wp2_with fail
  refine bodyPost_ret (v := .tuple #[.agg #[.int .i64 1, .int .u64 (ref : Int), .int .i64 i, .int .u64 (ent.word : Int), .bool false, .int .i64 0], v]) (by simp [results, Tryz.results79, go_sem, a0, a1, a2, a3, a4, a5]) rfl ?_
  have k6 := put6_keeps W2 W.heap.size (.int .i64 1) (.int .u64 (ref : Int)) (.int .i64 i) (.int .u64 (ent.word : Int)) (.bool false) (.int .i64 0)
  have hent : entVal0 ent = .agg #[.int .i64 1, .int .u64 (ref : Int), .int .i64 i, .int .u64 (ent.word : Int), .bool false, .int .i64 0] := by
    have := req_shape_load m ref i
    rw [hR'.out] at this
    exact this
  rw [hR'.out] at *
  refine ⟨v, by rw [hent], ?_, X', ?_, ?_⟩
  · exact hv'.out.typed k6 mB'.out (by decide)
  · exact hm'.out.keeps k6 fun x hx e => hX'.out.apart mA'.out.lt (fun h => Nat.lt_irrefl _ (oldX.out _ h)) (e ▸ hx)
  · exact ⟨((k1'.out.mono fun _ _ => False.elim).trans hX'.out.keeps fun _ _ h => h).trans k6 fun x hx e => absurd hx (by omega), fun x hx => (hX'.out.new x hx).imp id fun h => Nat.le_trans k1'.out.size h⟩

theorem req_shape_store (m : Mm) (ref : Nat) (i : Int) (x : Nat) : entVal0 (doReq m (.store ref i x)).1 = .agg #[.int .i64 2, .int .u64 (ref : Int), .int .i64 i, .int .u64 (x : Int), .bool false, .int .i64 0] := by
  simp only [doReq]
  repeat' split
  all_goals rfl

set_option maxRecDepth 100000 in
set_option maxHeartbeats 1000000 in
theorem store_does {b a c N : Nat} (ref : Nat) (i : Int) (x : Nat) (hq : ref < 18446744073709551616 ∧ x < 18446744073709551616) (x0 x1 x2 : Nat) (w : World) (hcN : c < N) (h0 : w.cell? ⟨x0, 0, none⟩ = some (.int .u64 (ref : Int))) (n0 : N ≤ x0) (h1 : w.cell? ⟨x1, 0, none⟩ = some (.int .i64 i)) (n1 : N ≤ x1) (h2 : w.cell? ⟨x2, 0, none⟩ = some (.int .u64 (x : Int))) (n2 : N ≤ x2) :
    Does 43 #[.pointer (some ⟨x0, 0, none⟩), .pointer (some ⟨x1, 0, none⟩), .pointer (some ⟨x2, 0, none⟩)] (.store ref i x) b a c N w := by
  intro W X m k hm hX hcnt
  have d0 : W.cell? ⟨x0, 0, none⟩ = some (.int .u64 (ref : Int)) := (k.cell (p := ⟨x0, 0, none⟩) (cell_lt h0) (by show ¬ x0 = c; omega)).trans h0
  have l0 : Hid (¬ X x0) := Lib.hid fun h => by have := hX _ h; omega
  have s0 : x0 < W.heap.size := cell_lt d0
  have d1 : W.cell? ⟨x1, 0, none⟩ = some (.int .i64 i) := (k.cell (p := ⟨x1, 0, none⟩) (cell_lt h1) (by show ¬ x1 = c; omega)).trans h1
  have l1 : Hid (¬ X x1) := Lib.hid fun h => by have := hX _ h; omega
  have s1 : x1 < W.heap.size := cell_lt d1
  have d2 : W.cell? ⟨x2, 0, none⟩ = some (.int .u64 (x : Int)) := (k.cell (p := ⟨x2, 0, none⟩) (cell_lt h2) (by show ¬ x2 = c; omega)).trans h2
  have l2 : Hid (¬ X x2) := Lib.hid fun h => by have := hX _ h; omega
  have s2 : x2 < W.heap.size := cell_lt d2
  obtain ⟨W1, hW1⟩ : ∃ V, V = W.alloc (.cells #[.int .i64 0, .int .u64 0, .int .i64 0, .int .u64 0, .bool false, .int .i64 0] 105) := ⟨_, rfl⟩
  have k1 : Keeps (fun _ => False) W W1 := by rw [hW1]; exact (Keeps.refl _ W).alloc _
  have mA : Whole W1 W.heap.size 105 #[.int .i64 0, .int .u64 0, .int .i64 0, .int .u64 0, .bool false, .int .i64 0] := by rw [hW1]; exact Whole.made _ _ _
  have cl := Lib.hid (store_req ref i x hq.1 hq.2 hcnt W1 (hm.same k1))
  have k1' := Lib.hid k1
  have mA' := Lib.hid mA
  have hW1' := Lib.hid hW1
  have oldX := Lib.hid hm.old
  have e0 := Lib.hid (show W1.cell? ⟨x0, 0, none⟩ = some (.int .u64 (ref : Int)) from (k1.cell (p := ⟨x0, 0, none⟩) s0 id).trans d0)
  have e1 := Lib.hid (show W1.cell? ⟨x1, 0, none⟩ = some (.int .i64 i) from (k1.cell (p := ⟨x1, 0, none⟩) s1 id).trans d1)
  have e2 := Lib.hid (show W1.cell? ⟨x2, 0, none⟩ = some (.int .u64 (x : Int)) from (k1.cell (p := ⟨x2, 0, none⟩) s2 id).trans d2)
  clear k hm hX hcnt k1 mA hW1 hcN h0 n0 h1 n1 h2 n2
  generalize hR : doReq m (.store ref i x) = R at cl ⊢
  have hR' := Lib.hid hR
  obtain ⟨ent, m'⟩ := R
  clear hR
  go_enter Tryz.func43, Tryz.ntmps43
  go_wp2_with fail
  rw [← hW1'.out]
  refine cl.out.mono ?_
  rintro e W2 ⟨v, rfl, hv, X', hm, hX⟩
  have g0 : W2.cell? ⟨x0, 0, none⟩ = some (.int .u64 (ref : Int)) := (hX.keeps.cell (p := ⟨x0, 0, none⟩) (cell_lt e0.out) l0.out).trans e0.out
  have g1 : W2.cell? ⟨x1, 0, none⟩ = some (.int .i64 i) := (hX.keeps.cell (p := ⟨x1, 0, none⟩) (cell_lt e1.out) l1.out).trans e1.out
  have g2 : W2.cell? ⟨x2, 0, none⟩ = some (.int .u64 (x : Int)) := (hX.keeps.cell (p := ⟨x2, 0, none⟩) (cell_lt e2.out) l2.out).trans e2.out
  have mB := mA'.out.keeps hX.keeps (fun h => Nat.lt_irrefl _ (oldX.out _ h))
  obtain ⟨⟨a0, a1, a2, a3, a4, a5⟩, z0, z1, z2, z3, z4, z5⟩ := six mB
  have hv' := Lib.hid hv
  have hm' := Lib.hid hm
  have hX' := Lib.hid hX
  have mB' := Lib.hid mB
  clear hv hm hX mB
  go_wp2_with fail
  refine bodyPost_ret (v := .tuple #[.agg #[.int .i64 2, .int .u64 (ref : Int), .int .i64 i, .int .u64 (x : Int), .bool false, .int .i64 0], v]) (by simp [results, Tryz.results43, go_sem, a0, a1, a2, a3, a4, a5]) rfl ?_
  have k6 := put6_keeps W2 W.heap.size (.int .i64 2) (.int .u64 (ref : Int)) (.int .i64 i) (.int .u64 (x : Int)) (.bool false) (.int .i64 0)
  have hent : entVal0 ent = .agg #[.int .i64 2, .int .u64 (ref : Int), .int .i64 i, .int .u64 (x : Int), .bool false, .int .i64 0] := by
    have := req_shape_store m ref i x
    rw [hR'.out] at this
    exact this
  rw [hR'.out] at *
  refine ⟨v, by rw [hent], ?_, X', ?_, ?_⟩
  · exact hv'.out.typed k6 mB'.out (by decide)
  · exact hm'.out.keeps k6 fun x hx e => hX'.out.apart mA'.out.lt (fun h => Nat.lt_irrefl _ (oldX.out _ h)) (e ▸ hx)
  · exact ⟨((k1'.out.mono fun _ _ => False.elim).trans hX'.out.keeps fun _ _ h => h).trans k6 fun x hx e => absurd hx (by omega), fun x hx => (hX'.out.new x hx).imp id fun h => Nat.le_trans k1'.out.size h⟩

theorem req_shape_cas (m : Mm) (ref : Nat) (i : Int) (old : Nat) (next : Nat) : entVal0 (doReq m (.cas ref i old next)).1 = .agg #[.int .i64 3, .int .u64 (ref : Int), .int .i64 i, .int .u64 (next : Int), .bool (doReq m (.cas ref i old next)).1.done, .int .i64 0] := by
  simp only [doReq]
  repeat' split
  all_goals rfl

set_option maxRecDepth 100000 in
set_option maxHeartbeats 1000000 in
theorem cas_does {b a c N : Nat} (ref : Nat) (i : Int) (old : Nat) (next : Nat) (hq : ref < 18446744073709551616 ∧ old < 18446744073709551616 ∧ next < 18446744073709551616) (x0 x1 x2 x3 : Nat) (w : World) (hcN : c < N) (h0 : w.cell? ⟨x0, 0, none⟩ = some (.int .u64 (ref : Int))) (n0 : N ≤ x0) (h1 : w.cell? ⟨x1, 0, none⟩ = some (.int .i64 i)) (n1 : N ≤ x1) (h2 : w.cell? ⟨x2, 0, none⟩ = some (.int .u64 (old : Int))) (n2 : N ≤ x2) (h3 : w.cell? ⟨x3, 0, none⟩ = some (.int .u64 (next : Int))) (n3 : N ≤ x3) :
    Does 81 #[.pointer (some ⟨x0, 0, none⟩), .pointer (some ⟨x1, 0, none⟩), .pointer (some ⟨x2, 0, none⟩), .pointer (some ⟨x3, 0, none⟩)] (.cas ref i old next) b a c N w := by
  intro W X m k hm hX hcnt
  have d0 : W.cell? ⟨x0, 0, none⟩ = some (.int .u64 (ref : Int)) := (k.cell (p := ⟨x0, 0, none⟩) (cell_lt h0) (by show ¬ x0 = c; omega)).trans h0
  have l0 : Hid (¬ X x0) := Lib.hid fun h => by have := hX _ h; omega
  have s0 : x0 < W.heap.size := cell_lt d0
  have d1 : W.cell? ⟨x1, 0, none⟩ = some (.int .i64 i) := (k.cell (p := ⟨x1, 0, none⟩) (cell_lt h1) (by show ¬ x1 = c; omega)).trans h1
  have l1 : Hid (¬ X x1) := Lib.hid fun h => by have := hX _ h; omega
  have s1 : x1 < W.heap.size := cell_lt d1
  have d2 : W.cell? ⟨x2, 0, none⟩ = some (.int .u64 (old : Int)) := (k.cell (p := ⟨x2, 0, none⟩) (cell_lt h2) (by show ¬ x2 = c; omega)).trans h2
  have l2 : Hid (¬ X x2) := Lib.hid fun h => by have := hX _ h; omega
  have s2 : x2 < W.heap.size := cell_lt d2
  have d3 : W.cell? ⟨x3, 0, none⟩ = some (.int .u64 (next : Int)) := (k.cell (p := ⟨x3, 0, none⟩) (cell_lt h3) (by show ¬ x3 = c; omega)).trans h3
  have l3 : Hid (¬ X x3) := Lib.hid fun h => by have := hX _ h; omega
  have s3 : x3 < W.heap.size := cell_lt d3
  obtain ⟨W1, hW1⟩ : ∃ V, V = W.alloc (.cells #[.int .i64 0, .int .u64 0, .int .i64 0, .int .u64 0, .bool false, .int .i64 0] 105) := ⟨_, rfl⟩
  have k1 : Keeps (fun _ => False) W W1 := by rw [hW1]; exact (Keeps.refl _ W).alloc _
  have mA : Whole W1 W.heap.size 105 #[.int .i64 0, .int .u64 0, .int .i64 0, .int .u64 0, .bool false, .int .i64 0] := by rw [hW1]; exact Whole.made _ _ _
  have cl := Lib.hid (cas_req ref i old next hq.1 hq.2.1 hq.2.2 hcnt W1 (hm.same k1))
  have k1' := Lib.hid k1
  have mA' := Lib.hid mA
  have hW1' := Lib.hid hW1
  have oldX := Lib.hid hm.old
  have e0 := Lib.hid (show W1.cell? ⟨x0, 0, none⟩ = some (.int .u64 (ref : Int)) from (k1.cell (p := ⟨x0, 0, none⟩) s0 id).trans d0)
  have e1 := Lib.hid (show W1.cell? ⟨x1, 0, none⟩ = some (.int .i64 i) from (k1.cell (p := ⟨x1, 0, none⟩) s1 id).trans d1)
  have e2 := Lib.hid (show W1.cell? ⟨x2, 0, none⟩ = some (.int .u64 (old : Int)) from (k1.cell (p := ⟨x2, 0, none⟩) s2 id).trans d2)
  have e3 := Lib.hid (show W1.cell? ⟨x3, 0, none⟩ = some (.int .u64 (next : Int)) from (k1.cell (p := ⟨x3, 0, none⟩) s3 id).trans d3)
  clear k hm hX hcnt k1 mA hW1 hcN h0 n0 h1 n1 h2 n2 h3 n3
  generalize hR : doReq m (.cas ref i old next) = R at cl ⊢
  have hR' := Lib.hid hR
  obtain ⟨ent, m'⟩ := R
  clear hR
  go_enter Tryz.func81, Tryz.ntmps81
  go_wp2_with fail
  rw [← hW1'.out]
  refine cl.out.mono ?_
  rintro e W2 ⟨v, rfl, hv, X', hm, hX⟩
  have g0 : W2.cell? ⟨x0, 0, none⟩ = some (.int .u64 (ref : Int)) := (hX.keeps.cell (p := ⟨x0, 0, none⟩) (cell_lt e0.out) l0.out).trans e0.out
  have g1 : W2.cell? ⟨x1, 0, none⟩ = some (.int .i64 i) := (hX.keeps.cell (p := ⟨x1, 0, none⟩) (cell_lt e1.out) l1.out).trans e1.out
  have g2 : W2.cell? ⟨x2, 0, none⟩ = some (.int .u64 (old : Int)) := (hX.keeps.cell (p := ⟨x2, 0, none⟩) (cell_lt e2.out) l2.out).trans e2.out
  have g3 : W2.cell? ⟨x3, 0, none⟩ = some (.int .u64 (next : Int)) := (hX.keeps.cell (p := ⟨x3, 0, none⟩) (cell_lt e3.out) l3.out).trans e3.out
  have mB := mA'.out.keeps hX.keeps (fun h => Nat.lt_irrefl _ (oldX.out _ h))
  obtain ⟨⟨a0, a1, a2, a3, a4, a5⟩, z0, z1, z2, z3, z4, z5⟩ := six mB
  have hv' := Lib.hid hv
  have hm' := Lib.hid hm
  have hX' := Lib.hid hX
  have mB' := Lib.hid mB
  clear hv hm hX mB
  go_wp2_with fail
  refine bodyPost_ret (v := .tuple #[.agg #[.int .i64 3, .int .u64 (ref : Int), .int .i64 i, .int .u64 (next : Int), .bool ent.done, .int .i64 0], v]) (by simp [results, Tryz.results81, go_sem, a0, a1, a2, a3, a4, a5]) rfl ?_
  have k6 := put6_keeps W2 W.heap.size (.int .i64 3) (.int .u64 (ref : Int)) (.int .i64 i) (.int .u64 (next : Int)) (.bool ent.done) (.int .i64 0)
  have hent : entVal0 ent = .agg #[.int .i64 3, .int .u64 (ref : Int), .int .i64 i, .int .u64 (next : Int), .bool ent.done, .int .i64 0] := by
    have := req_shape_cas m ref i old next
    rw [hR'.out] at this
    exact this
  rw [hR'.out] at *
  refine ⟨v, by rw [hent], ?_, X', ?_, ?_⟩
  · exact hv'.out.typed k6 mB'.out (by decide)
  · exact hm'.out.keeps k6 fun x hx e => hX'.out.apart mA'.out.lt (fun h => Nat.lt_irrefl _ (oldX.out _ h)) (e ▸ hx)
  · exact ⟨((k1'.out.mono fun _ _ => False.elim).trans hX'.out.keeps fun _ _ h => h).trans k6 fun x hx e => absurd hx (by omega), fun x hx => (hX'.out.new x hx).imp id fun h => Nat.le_trans k1'.out.size h⟩

theorem req_shape_alloc (m : Mm) (i : Int) : entVal0 (doReq m (.alloc i)).1 = .agg #[.int .i64 4, .int .u64 (((doReq m (.alloc i)).1.ref) : Int), .int .i64 i, .int .u64 0, .bool false, .int .i64 0] := by
  simp only [doReq]
  repeat' split
  all_goals rfl

set_option maxRecDepth 100000 in
set_option maxHeartbeats 1000000 in
theorem alloc_does {b a c N : Nat} (i : Int) (_hq : True) (x0 : Nat) (w : World) (hcN : c < N) (h0 : w.cell? ⟨x0, 0, none⟩ = some (.int .i64 i)) (n0 : N ≤ x0) :
    Does 41 #[.pointer (some ⟨x0, 0, none⟩)] (.alloc i) b a c N w := by
  intro W X m k hm hX hcnt
  have d0 : W.cell? ⟨x0, 0, none⟩ = some (.int .i64 i) := (k.cell (p := ⟨x0, 0, none⟩) (cell_lt h0) (by show ¬ x0 = c; omega)).trans h0
  have l0 : Hid (¬ X x0) := Lib.hid fun h => by have := hX _ h; omega
  have s0 : x0 < W.heap.size := cell_lt d0
  obtain ⟨W1, hW1⟩ : ∃ V, V = W.alloc (.cells #[.int .i64 0, .int .u64 0, .int .i64 0, .int .u64 0, .bool false, .int .i64 0] 105) := ⟨_, rfl⟩
  have k1 : Keeps (fun _ => False) W W1 := by rw [hW1]; exact (Keeps.refl _ W).alloc _
  have mA : Whole W1 W.heap.size 105 #[.int .i64 0, .int .u64 0, .int .i64 0, .int .u64 0, .bool false, .int .i64 0] := by rw [hW1]; exact Whole.made _ _ _
  have cl := Lib.hid (alloc_req i  hcnt W1 (hm.same k1))
  have k1' := Lib.hid k1
  have mA' := Lib.hid mA
  have hW1' := Lib.hid hW1
  have oldX := Lib.hid hm.old
  have e0 := Lib.hid (show W1.cell? ⟨x0, 0, none⟩ = some (.int .i64 i) from (k1.cell (p := ⟨x0, 0, none⟩) s0 id).trans d0)
  clear k hm hX hcnt k1 mA hW1 hcN h0 n0
  generalize hR : doReq m (.alloc i) = R at cl ⊢
  have hR' := Lib.hid hR
  obtain ⟨ent, m'⟩ := R
  clear hR
  go_enter Tryz.func41, Tryz.ntmps41
  go_wp2_with fail
  rw [← hW1'.out]
  refine cl.out.mono ?_
  rintro e W2 ⟨v, rfl, hv, X', hm, hX⟩
  have g0 : W2.cell? ⟨x0, 0, none⟩ = some (.int .i64 i) := (hX.keeps.cell (p := ⟨x0, 0, none⟩) (cell_lt e0.out) l0.out).trans e0.out
  have mB := mA'.out.keeps hX.keeps (fun h => Nat.lt_irrefl _ (oldX.out _ h))
  obtain ⟨⟨a0, a1, a2, a3, a4, a5⟩, z0, z1, z2, z3, z4, z5⟩ := six mB
  have hv' := Lib.hid hv
  have hm' := Lib.hid hm
  have hX' := Lib.hid hX
  have mB' := Lib.hid mB
  clear hv hm hX mB
  go_wp2_with fail
  refine bodyPost_ret (v := .tuple #[.agg #[.int .i64 4, .int .u64 (ent.ref : Int), .int .i64 i, .int .u64 0, .bool false, .int .i64 0], v]) (by simp [results, Tryz.results41, go_sem, a0, a1, a2, a3, a4, a5]) rfl ?_
  have k6 := put6_keeps W2 W.heap.size (.int .i64 4) (.int .u64 (ent.ref : Int)) (.int .i64 i) (.int .u64 0) (.bool false) (.int .i64 0)
  have hent : entVal0 ent = .agg #[.int .i64 4, .int .u64 (ent.ref : Int), .int .i64 i, .int .u64 0, .bool false, .int .i64 0] := by
    have := req_shape_alloc m i
    rw [hR'.out] at this
    exact this
  rw [hR'.out] at *
  refine ⟨v, by rw [hent], ?_, X', ?_, ?_⟩
  · exact hv'.out.typed k6 mB'.out (by decide)
  · exact hm'.out.keeps k6 fun x hx e => hX'.out.apart mA'.out.lt (fun h => Nat.lt_irrefl _ (oldX.out _ h)) (e ▸ hx)
  · exact ⟨((k1'.out.mono fun _ _ => False.elim).trans hX'.out.keeps fun _ _ h => h).trans k6 fun x hx e => absurd hx (by omega), fun x hx => (hX'.out.new x hx).imp id fun h => Nat.le_trans k1'.out.size h⟩

theorem req_shape_free (m : Mm) (ref : Nat) : entVal0 (doReq m (.free ref)).1 = .agg #[.int .i64 5, .int .u64 (ref : Int), .int .i64 0, .int .u64 0, .bool false, .int .i64 0] := by
  simp only [doReq]
  repeat' split
  all_goals rfl

end Go.Proofs.YtenhmficiegpiaaGreatDoor
