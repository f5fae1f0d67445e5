/-
  queue: (*line).Swap of a place with itself, by contract.
-/
import Derived.Test.YtjmkfloaagppdaaDoorQuSwap
namespace Go.Proofs.YtjmkfloaagppdaaDoor
open Go.RowKit Go.Extern.Stop Go.Stop Go.Extern

set_option maxRecDepth 100000 in
theorem line_swap_self {w : World} {q : Nat} {l : List Tm} {X : Nat → Prop} (h : Line w q l X) (i : Nat) (hi : i < l.length) :
    Calls Tryd.prog 100 #[.pointer (some ⟨q, 0, none⟩), .int .i64 i, .int .i64 i] w fun e w' => e = .returned (.tuple #[]) ∧ Line w' q (sw l i i) X ∧ Keeps X w w' := by
  obtain ⟨mb, v, f, h⟩ := h
  obtain ⟨g, c, rfl⟩ := TRow.form h.row (by omega)
  have few := h.few
  have c0 : w.cell? ⟨q, 0, none⟩ = some (.slice (some ⟨g, 0, none⟩) l.length c) := h.blk.at_ 0
  have i0 := TRow.when h.row i hi
  have i1 := TRow.id h.row i hi
  have hil : (i : Int) < l.length := by omega
  have fi0 : w.frozen? ⟨g, i * 2, none⟩ = false := h.row.frozenAt _
  have fi1 : w.frozen? ⟨g, i * 2 + 1, none⟩ = false := h.row.frozenAt _
  obtain ⟨t, ht⟩ : ∃ t, at_ l i = t := ⟨_, rfl⟩
  rw [ht] at i0 i1
  obtain ⟨n, hn⟩ : ∃ n, l.length = n := ⟨_, rfl⟩
  rw [hn] at c0 hil hi few h
  have h' := Lib.hid h
  clear h
  have ht' := Lib.hid ht
  have hn' := Lib.hid hn
  clear ht hn
  go_enter Tryd.func100, Tryd.ntmps100
  go_wp2_with fail
  go_region
  have hh1 := ((h'.out.half hn'.out).sw (i := i) (j := i) (by rw [hn'.out]; exact hi) (by rw [hn'.out]; exact hi)).drew.drew
  rw [ht'.out] at hh1
  have k1 := Lib.hid ((swWorld_keeps w g i i t t).drew.drew)
  have wt : (Lit.int .i64 t.2).wf = true := (h'.out.wf t (by rw [← ht'.out]; exact at_mem (by rw [hn'.out]; exact hi))).2
  have hl := Lib.hid h'.out.pos.keys
  have hln : (l.map (·.2)).length ≤ 200 := by rw [List.length_map, hn'.out]; exact few
  obtain ⟨W1, hW1⟩ : ∃ W, W = (swWorld w g i i t t).drew.drew := ⟨_, rfl⟩
  rw [← hW1] at hh1 k1
  have hW1' := Lib.hid hW1
  obtain ⟨s0, s1, s2, s3⟩ := half_cells hh1 hi hi (x := t.2) (y := t.2) (by rw [at_sw (by rw [hn'.out]; exact hi) (by rw [hn'.out]; exact hi), if_pos rfl, ht'.out]) (by rw [at_sw (by rw [hn'.out]; exact hi) (by rw [hn'.out]; exact hi), if_pos rfl, ht'.out])
  have H1 := Lib.hid hh1
  clear hh1 hW1 i0 i1 c0 fi0 fi1
  go_wp2_with fail
  refine still_tail_at 13 (by kernel_rfl) (by kernel_rfl) W1 hW1'.out ?_
  simp only [List.take_succ_cons, List.take_zero, List.drop_succ_cons, List.drop_zero]
  repeat still_step
  refine wpStill_nil ?_
  clear s0 s1 s2 s3
  have hi62 : i < 4611686018427387904 := by omega
  go_wp2_with (first | (at_mapUpdate; refine wpList_upd _ rfl _ _ _ 55 rfl 3 3 plE Tryd.underlying3 Tryd.underlying55 mb f rfl H1.out.map _ hl.out (by unfold maxLen; omega) t.2 rfl wt ⟨i, hi62⟩ rfl ?_; intro W2 hM2 hG2; have M2 := Lib.hid hM2; have K2 := Lib.hid (Keeps.of_grown hG2); clear hM2 hG2))
  have hh2 := (H1.out.put K2.out M2.out).drew
  obtain ⟨s0, s1, s2, s3⟩ := half_cells hh2 hi hi (x := t.2) (y := t.2) (by rw [at_sw (by rw [hn'.out]; exact hi) (by rw [hn'.out]; exact hi), if_pos rfl, ht'.out]) (by rw [at_sw (by rw [hn'.out]; exact hi) (by rw [hn'.out]; exact hi), if_pos rfl, ht'.out])
  obtain ⟨W3, hW3⟩ : ∃ W, W = W2.drew := ⟨_, rfl⟩
  rw [← hW3] at hh2 s0 s1 s2 s3
  have K3 := Lib.hid (show Keeps (fun x => x = mb) W1 W3 by rw [hW3]; exact K2.out.drew)
  have hW3' := Lib.hid hW3
  have H2 := Lib.hid hh2
  clear hh2 hW3 M2
  refine still_tail_at 13 (by kernel_rfl) (by kernel_rfl) W3 hW3'.out ?_
  simp only [List.take_succ_cons, List.take_zero, List.drop_succ_cons, List.drop_zero]
  repeat still_step
  refine wpStill_nil ?_
  clear s0 s1 s2 s3
  go_wp2_with (first | (at_mapUpdate; refine wpList_upd _ rfl _ _ _ 55 rfl 3 3 plE Tryd.underlying3 Tryd.underlying55 mb _ rfl H2.out.map _ (upd_keys hl.out _ _) (by unfold maxLen; simp only [List.length_cons]; omega) t.2 rfl wt ⟨i, hi62⟩ rfl ?_; intro W4 hM4 hG4; have M4 := Lib.hid hM4; have K4 := Lib.hid (Keeps.of_grown hG4); clear hM4 hG4))
  go_end0
  have hil' : i < l.length := by rw [hn'.out]; exact hi
  have kk : Keeps (fun x => x = g ∨ x = mb) w W4 := ((k1.out.mono fun _ _ h => .inl h).trans K3.out fun _ _ h => .inr h).trans K4.out fun _ _ h => .inr h
  have hp := h'.out.pos.sw (by rw [hn'.out]; exact few) hil' hil'
  have hM := M4.out
  rw [← ht'.out] at hM
  refine ⟨rfl, Half.line h'.out ((H2.out.put K4.out M4.out)) (f' := _) (by rw [← ht'.out]; exact hp) (fun x hx => h'.out.wf x ((sw_perm hil' hil').mem_iff.1 hx)) (by rw [length_sw, hn'.out]; exact few) kk.size, kk.mono fun x _ h => ?_⟩
  rcases h with rfl | rfl
  · exact h'.out.inX.2.2 _ rfl
  · exact h'.out.inX.2.1

/-- Swap, whatever the two places are. -/
theorem line_swap_any {w : World} {q : Nat} {l : List Tm} {X : Nat → Prop} (h : Line w q l X) (i j : Nat) (hi : i < l.length) (hj : j < l.length) :
    Calls Tryd.prog 100 #[.pointer (some ⟨q, 0, none⟩), .int .i64 i, .int .i64 j] w fun e w' => e = .returned (.tuple #[]) ∧ Line w' q (sw l i j) X ∧ Keeps X w w' := by
  by_cases e : i = j
  · subst e; exact line_swap_self h i hi
  · exact line_swap h i j hi hj e
end Go.Proofs.YtjmkfloaagppdaaDoor
