/-
  concordref04.Queue: Cancel, Move, Push, Due by contract.
-/
import Derived.Test.YtjmkfloaagppdaaDoorQuRefPut
import Derived.IntWalk
namespace Go.Proofs.YtjmkfloaagppdaaDoor
open Go.RowKit Go.Extern.Stop Go.Stop Go.Extern

theorem rd_drop_if {w : World} {g c n : Nat} {L : List Tm} (hn : L.length = n) (h : TRow w (.slice (some ⟨g, 0, none⟩) n c) L) (k : Nat) (hk : k ≤ n) (c' : Nat) : Rd w (.slice (if c = k then some ⟨g, 0, none⟩ else some ⟨g, k * 2, none⟩) (n - k) c') (L.drop k) := by
  by_cases hc : c = k
  · have := TRow.room hn h
    exact rd_drop_all _ hn k (by omega) c'
  · rw [if_neg hc]
    exact rd_drop hn h k hk c'

theorem RWent.then_ {w w1 w2 : World} {r : Nat} {L' : List Tm} {Y Y1 : Nat → Prop} (h2 : ∀ x, Y1 x → Y x ∨ w.heap.size ≤ x) (h3 : Keeps (fun x => x = r) w w1) (h : RWent w1 r L' Y1 w2) : RWent w r L' Y w2 := by
  obtain ⟨⟨Y2, h4, h5⟩, h6⟩ := h
  exact ⟨⟨Y2, h4, fun x hx => (h5 x hx).elim (h2 x) fun g => .inr (Nat.le_trans h3.size g)⟩, h3.trans_ h6⟩
theorem RWent.after {w w1 w2 : World} {r : Nat} {L : List Tm} {Y : Nat → Prop} (k : Keeps (fun _ => False) w w1) (h : RWent w1 r L Y w2) : RWent w r L Y w2 := by
  obtain ⟨⟨Y1, h1, h2⟩, h3⟩ := h
  exact ⟨⟨Y1, h1, fun x hx => (h2 x hx).imp id fun g => Nat.le_trans k.size g⟩, (k.mono fun _ _ => False.elim : Keeps (fun x => x = r) w w1).trans_ h3⟩

set_option maxRecDepth 100000 in
set_option maxHeartbeats 1000000 in
theorem ref_cancel_ok {w : World} {r : Nat} {L : List Tm} {Y : Nat → Prop} (h : RQ w r L Y) (few : L.length ≤ 200) (ho : Once L) (id : Int) (k : Nat) (hk : k < L.length) (he : (at_ L k).2 = id) (hz : Finds L id k) :
    Calls Tryd.prog 25 #[.pointer (some ⟨r, 0, none⟩), .int .i64 id] w fun e w' => e = .returned (.int .i64 0) ∧ RWent w r (del id L) Y w' := by
  have cf := Lib.hid (ref_find h few id k hz)
  have h0 := Lib.hid h
  have hd := Lib.hid (del_at ho hk)
  rw [he] at hd
  obtain ⟨v, h1, hR, _⟩ := h
  obtain ⟨g, c, rfl⟩ := TRow.form hR (by omega)
  have hcap := TRow.room rfl hR
  have S1 := Lib.hid (fun V (K : Keeps (fun _ => False) w V) => ((h1.keeps K _root_.id).at_ 0 : V.cell? ⟨r, 0, none⟩ = some (.slice (some ⟨g, 0, none⟩) L.length c)))
  have S2 := Lib.hid (fun V (K : Keeps (fun _ => False) w V) => (h1.keeps K _root_.id).free 0)
  have R0 := Lib.hid hR
  have oE := Lib.hid ((lit_none (w := w) (W := w) (Nat.le_refl _)).same (Keeps.refl _ _).drew)
  obtain ⟨m, hm⟩ : ∃ m, k + 1 = m := ⟨_, rfl⟩
  rw [hm] at hd
  have e1 : IntKind.i64.wrap ((k : Int) + 1) = (m : Int) := by rw [IntWalk.i64_in _ (by omega)]; omega
  have hk0 : (0 : Int) ≤ (k : Int) := by omega
  have hk1 : ¬ (k : Int) < 0 := by omega
  have hkc : (k : Int) ≤ (c : Int) := by omega
  have hc0 : ¬ c = 0 := by omega
  have hm0 : (0 : Int) ≤ (m : Int) := by omega
  have hmL : (m : Int) ≤ (L.length : Int) := by omega
  have fin := Lib.hid (fun V a cc (kC : Keeps (fun _ => False) w V) (hO : Own V (.slice a (L.length - 1) cc) ([] ++ L.take k ++ L.drop m) w.heap.size) => (h0.out.store kC (by rw [← hd.out]; exact hO) : RWent w r (del id L) Y (V.setCell ⟨r, 0, none⟩ (.slice a (L.length - 1) cc))))
  clear h1 hR ho he hz hd h0
  go_enter Tryd.func25, Tryd.ntmps25
  go_wp2_with (first | (go_at_call 39; refine cf.out.mono ?_; rintro e w' ⟨rfl, rfl⟩))
  refine AnyT.begin (S := fun V => V.cell? ⟨r, 0, none⟩ = some (.slice (some ⟨g, 0, none⟩) L.length c)) (by kernel_rfl) (S1.out _ (Keeps.refl _ _).drew) (fun hHeld => ?_)
  (refine AnyT.take (i := 0) (v := ?_) rfl (by kernel_rfl) (fun _ _ _ h => h) (Or.inl ⟨by rfl, ?_⟩) (by assumption) ?_; rotate_left; (· (intro V hSV; (try dsimp only at hSV); (first | (go_simp; done) | (go_simp; with_reducible rfl)))); simp only [Act.put, List.setIfInBounds_toArray, List.set_cons_zero, List.set_cons_succ])
  (refine AnyT.take (i := 2) (v := ?_) rfl (by kernel_rfl) (fun _ _ _ h => h) (Or.inl ⟨by rfl, ?_⟩) (by assumption) ?_; rotate_left; (· (intro V hSV; (try dsimp only at hSV); (first | (go_simp; done) | (go_simp; with_reducible rfl)))); simp only [Act.put, List.setIfInBounds_toArray, List.set_cons_zero, List.set_cons_succ])
  (refine AnyT.take (i := 3) (v := ?_) rfl (by kernel_rfl) (fun _ _ _ h => h) (Or.inl ⟨by rfl, ?_⟩) (by assumption) ?_; rotate_left; (· (intro V hSV; (try dsimp only at hSV); (first | (go_simp; done) | (go_simp; with_reducible rfl)))); simp only [Act.put, List.setIfInBounds_toArray, List.set_cons_zero, List.set_cons_succ])
  (refine AnyT.take (i := 4) (v := ?_) rfl (by kernel_rfl) (fun _ _ _ h => h) (Or.inl ⟨by rfl, ?_⟩) (by assumption) ?_; rotate_left; (· (intro V hSV; (try dsimp only at hSV); (first | (go_simp; done) | (go_simp; with_reducible rfl)))); simp only [Act.put, List.setIfInBounds_toArray, List.set_cons_zero, List.set_cons_succ])
  (refine AnyT.take (i := 5) (v := ?_) rfl (by kernel_rfl) (fun _ _ _ h => h) (Or.inl ⟨by rfl, ?_⟩) (by assumption) ?_; rotate_left; (· (intro V hSV; (try dsimp only at hSV); (first | (go_simp; done) | (go_simp; with_reducible rfl)))); simp only [Act.put, List.setIfInBounds_toArray, List.set_cons_zero, List.set_cons_succ])
  (refine AnyT.take (i := 6) (v := ?_) rfl (by kernel_rfl) (fun _ _ _ h => h) (Or.inl ⟨by rfl, ?_⟩) (by assumption) ?_; rotate_left; (· (intro V hSV; (try dsimp only at hSV); (first | (go_simp; done) | (go_simp; with_reducible rfl)))); simp only [Act.put, List.setIfInBounds_toArray, List.set_cons_zero, List.set_cons_succ])
  (refine AnyT.take (i := 7) (v := ?_) rfl (by kernel_rfl) (fun _ _ _ h => h) (Or.inl ⟨by rfl, ?_⟩) (by assumption) ?_; rotate_left; (· (intro V hSV; (try dsimp only at hSV); (first | (go_simp; done) | (go_simp; with_reducible rfl)))); simp only [Act.put, List.setIfInBounds_toArray, List.set_cons_zero, List.set_cons_succ])
  (refine AnyT.take (i := 9) (v := ?_) rfl (by kernel_rfl) (fun _ _ _ h => h) (Or.inl ⟨by rfl, ?_⟩) (by assumption) ?_; rotate_left; (· (intro V hSV; (try dsimp only at hSV); (first | (go_simp; done) | (go_simp; with_reducible rfl)))); simp only [Act.put, List.setIfInBounds_toArray, List.set_cons_zero, List.set_cons_succ])
  (refine AnyT.take (i := 10) (v := ?_) rfl (by kernel_rfl) (fun _ _ _ h => h) (Or.inl ⟨by rfl, ?_⟩) (by assumption) ?_; rotate_left; (· (intro V hSV; (try dsimp only at hSV); (first | (go_simp; done) | (go_simp; with_reducible rfl)))); simp only [Act.put, List.setIfInBounds_toArray, List.set_cons_zero, List.set_cons_succ])
  (refine AnyT.take (i := 11) (v := ?_) rfl (by kernel_rfl) (fun _ _ _ h => h) (Or.inl ⟨by rfl, ?_⟩) (by assumption) ?_; rotate_left; (· (intro V hSV; (try dsimp only at hSV); (first | (go_simp; done) | (go_simp; with_reducible rfl)))); simp only [Act.put, List.setIfInBounds_toArray, List.set_cons_zero, List.set_cons_succ])
  (refine AnyT.take (i := 12) (v := ?_) rfl (by kernel_rfl) (fun _ _ _ h => h) (Or.inl ⟨by rfl, ?_⟩) (by assumption) ?_; rotate_left; (· (intro V hSV; (try dsimp only at hSV); (first | (go_simp; done) | (go_simp; with_reducible rfl)))); simp only [Act.put, List.setIfInBounds_toArray, List.set_cons_zero, List.set_cons_succ])
  (refine AnyT.take (i := 13) (v := ?_) rfl (by kernel_rfl) (fun _ _ _ h => h) (Or.inl ⟨by rfl, ?_⟩) (by assumption) ?_; rotate_left; (· (intro V hSV; (try dsimp only at hSV); (first | (go_simp; done) | (go_simp; with_reducible rfl)))); simp only [Act.put, List.setIfInBounds_toArray, List.set_cons_zero, List.set_cons_succ])
  (refine AnyT.take (i := 14) (v := ?_) rfl (by kernel_rfl) (fun _ _ _ h => h) (Or.inl ⟨by rfl, ?_⟩) (by assumption) ?_; rotate_left; (· (intro V hSV; (try dsimp only at hSV); (first | (go_simp; done) | (go_simp; with_reducible rfl)))); simp only [Act.put, List.setIfInBounds_toArray, List.set_cons_zero, List.set_cons_succ])
  (refine AnyT.take (i := 15) (v := ?_) rfl (by kernel_rfl) (fun _ _ _ h => h) (Or.inl ⟨by rfl, ?_⟩) (by assumption) ?_; rotate_left; (· (intro V hSV; (try dsimp only at hSV); (first | (go_simp; done) | (go_simp; with_reducible rfl)))); simp only [Act.put, List.setIfInBounds_toArray, List.set_cons_zero, List.set_cons_succ])
  refine AnyT.ready (rs := [1]) (by kernel_rfl) (by simp) (ReadyT.cons rfl (fun K hK => ?_) ReadyT.nil)
  go_simp
  refine hK.out _ _ (fun _ => S1.out _ (by repeat (first | exact Keeps.refl _ _ | exact kA.out | exact kB.out | apply Keeps.drew | apply Keeps.alloc))) (fun hH => ?_)
  have hHeld := hH (of_decide_eq_true (by kernel_rfl))
  clear hH hK K
  try simp only [Act.put, List.setIfInBounds_toArray, List.set_cons_zero, List.set_cons_succ]
  refine AnyT.ready (rs := [8]) (by kernel_rfl) (by simp) (ReadyT.cons rfl (fun K hK => ?_) ReadyT.nil)
  refine step_append_mine rfl _ _ rfl w (.slice (some ⟨_, 0, none⟩) 0 0) [] (L.take k) rfl oE.out (by repeat (first | exact Keeps.refl _ _ | exact kA.out | exact kB.out | apply Keeps.drew | apply Keeps.alloc)) _ rfl (rd_take rfl (ownsRow_keeps R0.out (by repeat (first | exact Keeps.refl _ _ | exact kA.out | exact kB.out | apply Keeps.drew | apply Keeps.alloc)) fun _ _ h => h) k (by omega) _) k (by simp; try omega) (by omega) ?_
  intro aoA capA VA hO kA kA2
  have oA := Lib.hid hO
  have kA := Lib.hid kA
  clear hO kA2
  refine hK.out _ _ (fun _ => S1.out _ (by repeat (first | exact Keeps.refl _ _ | exact kA.out | exact kB.out | apply Keeps.drew | apply Keeps.alloc))) (fun hH => ?_)
  have hHeld := hH (of_decide_eq_true (by kernel_rfl))
  clear hH hK K
  try simp only [Act.put, List.setIfInBounds_toArray, List.set_cons_zero, List.set_cons_succ]
  refine AnyT.ready (rs := [16]) (by kernel_rfl) (by simp) (ReadyT.cons rfl (fun K hK => ?_) ReadyT.nil)
  refine step_append_mine rfl _ _ rfl w (.slice aoA k capA) ([] ++ L.take k) (L.drop m) rfl oA.out kA.out _ rfl (rd_drop_if rfl (ownsRow_keeps R0.out kA.out fun _ _ h => h) m (by omega) _) (L.length - 1) (by simp; try omega) (by omega) ?_
  intro aoB capB VB hO kB kB2
  have oB := Lib.hid hO
  have c0 := S1.out _ kB
  have f0 := S2.out _ kB
  have kB := Lib.hid kB
  clear hO kB2
  refine hK.out _ _ (fun _ => S1.out _ (by repeat (first | exact Keeps.refl _ _ | exact kA.out | exact kB.out | apply Keeps.drew | apply Keeps.alloc))) (fun hH => ?_)
  have hHeld := hH (of_decide_eq_true (by kernel_rfl))
  clear hH hK K
  try simp only [Act.put, List.setIfInBounds_toArray, List.set_cons_zero, List.set_cons_succ]
  (refine AnyT.take (i := 17) (v := ?_) rfl (by kernel_rfl) (fun _ _ _ h => h) (Or.inl ⟨by rfl, ?_⟩) (by assumption) ?_; rotate_left; (· (intro V hSV; (try dsimp only at hSV); (first | (go_simp; done) | (go_simp; with_reducible rfl)))); simp only [Act.put, List.setIfInBounds_toArray, List.set_cons_zero, List.set_cons_succ])
  (refine AnyT.take (i := 18) (v := ?_) rfl (by kernel_rfl) (fun _ _ _ h => h) (Or.inl ⟨by rfl, ?_⟩) (by assumption) ?_; rotate_left; (· (intro V hSV; (try dsimp only at hSV); (first | (go_simp; done) | (go_simp; with_reducible rfl)))); simp only [Act.put, List.setIfInBounds_toArray, List.set_cons_zero, List.set_cons_succ])
  refine AnyT.ready (rs := [19]) (by kernel_rfl) (by simp) (ReadyT.cons rfl (fun K hK => ?_) ReadyT.nil)
  go_simp
  refine hK.out _ _ (fun h => absurd h (of_decide_eq_false (by kernel_rfl))) (fun _ => ?_)
  clear hK K
  try simp only [Act.put, List.setIfInBounds_toArray, List.set_cons_zero, List.set_cons_succ]
  refine AnyT.done (by kernel_rfl) ?_ _
  all_goals go_wp2_with fail
  all_goals go_ret
  all_goals exact ⟨rfl, fin.out _ _ _ kB.out oB.out⟩

theorem ref_cancel_miss {w : World} {r : Nat} {L : List Tm} {Y : Nat → Prop} (h : RQ w r L Y) (few : L.length ≤ 200) (id : Int) (hz : Finds L id (-1)) :
    Calls Tryd.prog 25 #[.pointer (some ⟨r, 0, none⟩), .int .i64 id] w fun e w' => e = .returned (.int .i64 6) ∧ w = w' := by
  have cf := Lib.hid (ref_find h few id (-1) hz)
  clear h hz
  go_enter Tryd.func25, Tryd.ntmps25
  go_wp2_with (first | (go_at_call 39; refine cf.out.mono ?_; rintro e w' ⟨rfl, rfl⟩))
  go_ret
  exact ⟨rfl, by trivial⟩

theorem ref_move_ok {w : World} {r : Nat} {L : List Tm} {Y : Nat → Prop} (h : RQ w r L Y) (few : L.length ≤ 200) (ho : Once L) (id x : Int) (k : Nat) (hk : k < L.length) (he : (at_ L k).2 = id) (hz : Finds L id k) :
    Calls Tryd.prog 24 #[.pointer (some ⟨r, 0, none⟩), .int .i64 id, .int .i64 x] w fun e w' => e = .returned (.int .i64 0) ∧ RWent w r (ins (x, id) (del id L)) Y w' := by
  have cc := Lib.hid (ref_cancel_ok h few ho id k hk he hz)
  have fd : (del id L).length ≤ 200 := Nat.le_trans (List.length_filter_le _ _) few
  have cp := Lib.hid (fun W Y1 (h1 : RQ W r (del id L) Y1) => ref_put h1 fd (x, id))
  unfold tmVal at cp
  clear h ho he hz
  go_enter Tryd.func24, Tryd.ntmps24
  go_wp2_with (first
    | (go_at_call 25; refine cc.out.mono ?_; rintro e w1 ⟨rfl, ⟨Y1, hQ1, hY1⟩, hK1⟩; have Q1 := Lib.hid hQ1; have X1 := Lib.hid hY1; have K1 := Lib.hid hK1; clear hQ1 hY1 hK1)
    | (go_at_call 40; refine (cp.out _ Y1 Q1.out).mono ?_; rintro e w2 ⟨rfl, hW⟩; have W2 := Lib.hid (RWent.then_ X1.out K1.out hW); clear hW))
  go_ret
  exact ⟨rfl, W2.out⟩

theorem ref_move_miss {w : World} {r : Nat} {L : List Tm} {Y : Nat → Prop} (h : RQ w r L Y) (few : L.length ≤ 200) (id x : Int) (hz : Finds L id (-1)) :
    Calls Tryd.prog 24 #[.pointer (some ⟨r, 0, none⟩), .int .i64 id, .int .i64 x] w fun e w' => e = .returned (.int .i64 6) ∧ w = w' := by
  have cc := Lib.hid (ref_cancel_miss h few id hz)
  clear h hz
  go_enter Tryd.func24, Tryd.ntmps24
  go_wp2_with (first | (go_at_call 25; refine cc.out.mono ?_; rintro e w' ⟨rfl, rfl⟩))
  go_ret
  exact ⟨rfl, by trivial⟩

/-! ### Push -/
theorem RQ.len {w : World} {r : Nat} {L : List Tm} {Y : Nat → Prop} (h : RQ w r L Y) : ∃ o c, w.cell? ⟨r, 0, none⟩ = some (.slice o L.length c) := by
  obtain ⟨v, h1, hR, _⟩ := h
  obtain ⟨o, c, rfl, _⟩ := TRow.shape hR
  exact ⟨o, c, h1.at_ 0⟩

set_option maxRecDepth 100000 in
theorem ref_push_ok {w : World} {r : Nat} {L : List Tm} {Y : Nat → Prop} (h : RQ w r L Y) (few : L.length < 200) (t : Tm) (hz : Finds L t.2 (-1)) :
    Calls Tryd.prog 23 #[.pointer (some ⟨r, 0, none⟩), tmVal t] w fun e w' => e = .returned (.int .i64 0) ∧ RWent w r (ins t L) Y w' := by
  obtain ⟨W1, hW1⟩ : ∃ W, W = w.alloc (.cells #[.int .i64 t.1, .int .i64 t.2] 31) := ⟨_, rfl⟩
  have k1 : Keeps (fun _ => False) w W1 := by rw [hW1]; exact (Keeps.refl _ w).alloc _
  have mT : Whole W1 w.heap.size 31 #[.int .i64 t.1, .int .i64 t.2] := by rw [hW1]; exact Whole.made _ _ _
  have h1 := h.same k1
  have cf := Lib.hid (ref_find h1 (by omega) t.2 (-1) hz)
  have cp := Lib.hid (ref_put h1 (by omega) t)
  unfold tmVal at cp
  obtain ⟨o, c, c0⟩ := h1.len
  have b0 : W1.cell? ⟨w.heap.size, 0, none⟩ = some (.int .i64 t.1) := mT.at_ 0
  have b1 : W1.cell? ⟨w.heap.size, 1, none⟩ = some (.int .i64 t.2) := mT.at_ 1
  have hn : ¬ (200 : Int) ≤ (L.length : Int) := by omega
  have k1' := Lib.hid k1
  have hW1' := Lib.hid hW1
  clear h h1 hz k1 mT hW1
  unfold tmVal
  go_enter Tryd.func23, Tryd.ntmps23
  go_wp2_with fail
  rw [← hW1'.out]
  go_wp2_with (first
    | (go_at_call 39; refine cf.out.mono ?_; rintro e w' ⟨rfl, rfl⟩)
    | (go_at_call 40; refine cp.out.mono ?_; rintro e w2 ⟨rfl, hW⟩; have W2 := Lib.hid (RWent.after k1'.out hW); clear hW))
  go_ret
  exact ⟨rfl, W2.out⟩

set_option maxRecDepth 100000 in
theorem ref_push_there {w : World} {r : Nat} {L : List Tm} {Y : Nat → Prop} (h : RQ w r L Y) (few : L.length ≤ 200) (t : Tm) (k : Nat) (hz : Finds L t.2 k) :
    Calls Tryd.prog 23 #[.pointer (some ⟨r, 0, none⟩), tmVal t] w fun e w' => e = .returned (.int .i64 7) ∧ Keeps (fun _ => False) w w' := by
  obtain ⟨W1, hW1⟩ : ∃ W, W = w.alloc (.cells #[.int .i64 t.1, .int .i64 t.2] 31) := ⟨_, rfl⟩
  have k1 : Keeps (fun _ => False) w W1 := by rw [hW1]; exact (Keeps.refl _ w).alloc _
  have mT : Whole W1 w.heap.size 31 #[.int .i64 t.1, .int .i64 t.2] := by rw [hW1]; exact Whole.made _ _ _
  have h1 := h.same k1
  have cf := Lib.hid (ref_find h1 few t.2 k hz)
  have b0 : W1.cell? ⟨w.heap.size, 0, none⟩ = some (.int .i64 t.1) := mT.at_ 0
  have b1 : W1.cell? ⟨w.heap.size, 1, none⟩ = some (.int .i64 t.2) := mT.at_ 1
  have hk0 : (0 : Int) ≤ (k : Int) := by omega
  have k1' := Lib.hid k1
  have hW1' := Lib.hid hW1
  clear h h1 hz k1 mT hW1
  unfold tmVal
  go_enter Tryd.func23, Tryd.ntmps23
  go_wp2_with fail
  rw [← hW1'.out]
  go_wp2_with (first | (go_at_call 39; refine cf.out.mono ?_; rintro e w' ⟨rfl, rfl⟩))
  go_ret
  exact ⟨rfl, k1'.out⟩

/-! ### Due -/
set_option maxRecDepth 100000 in
set_option maxHeartbeats 1000000 in
theorem slice_in {o : Option Addr} {n c : Nat} {Y : Nat → Prop} (h : ∀ g, (Value.slice o n c).ownBlock = some g → Y g) (n' c' : Nat) : ∀ b off m d, Value.slice o n' c' = .slice (some ⟨b, off, none⟩) m d → Y b := by
  intro b off m d e
  simp only [Value.slice.injEq] at e
  obtain ⟨rfl, _, _⟩ := e
  exact h b rfl

set_option maxRecDepth 100000 in
set_option maxHeartbeats 1000000 in
theorem ref_due {w : World} {r : Nat} {L : List Tm} {Y : Nat → Prop} (h : RQ w r L Y) (few : L.length ≤ 200) (now : Int) :
    Calls Tryd.prog 26 #[.pointer (some ⟨r, 0, none⟩), .int .i64 now] w fun e w' => ∃ u, e = .returned u ∧ (Rd w' u (due now L) ∧ ∀ b off n c, u = .slice (some ⟨b, off, none⟩) n c → Y b) ∧ RWent w r (undue now L) Y w' := by
  have h0 := Lib.hid h
  obtain ⟨v, h1, hR, hYr, hY, hYl⟩ := h
  obtain ⟨o, c, rfl, ho⟩ := TRow.shape hR
  have Y0 := Lib.hid (slice_in hY)
  clear hY hYr hYl
  have hcap := TRow.room rfl hR
  have c0 : w.cell? ⟨r, 0, none⟩ = some (.slice o L.length c) := h1.at_ 0
  have S1 := Lib.hid (fun V (K : Keeps (fun _ => False) w V) => (⟨(h1.keeps K _root_.id).at_ 0, (h1.keeps K _root_.id).free 0⟩ : V.cell? ⟨r, 0, none⟩ = some (.slice o L.length c) ∧ V.frozen? ⟨r, 0, none⟩ = false))
  have R0 := Lib.hid hR
  have hb := Lib.hid h1
  have oE := Lib.hid (lit_none (w := w) (W := w) (Nat.le_refl _))
  have cE := (S1.out (w.alloc (.cells #[] 31)) ((Keeps.refl _ _).alloc _)).1
  clear h1 hR
  go_enter Tryd.func26, Tryd.ntmps26
  go_wp2_with fail
  go_loopw [5] (fun iv wr => ∃ i : Nat, iv = .int .i64 i ∧ i ≤ L.length ∧ (∀ j, j < i → (at_ L j).1 ≤ now) ∧ w = wr) (fun iv _ => L.length - (intOf iv).toNat)
  case atStart => exact ⟨0, rfl, Nat.zero_le _, fun j hj => absurd hj (Nat.not_lt_zero _), by trivial⟩
  case round =>
    obtain ⟨i, rfl, hi, hD, rfl⟩ := hrel
    have D0 := Lib.hid hD
    clear hD
    by_cases hin : i < L.length
    · have hin' : (i : Int) < (L.length : Int) := by omega
      obtain ⟨g, rfl⟩ := ho (by omega)
      have y0 := TRow.when R0.out i hin
      obtain ⟨p, hp⟩ : ∃ p, (at_ L i).1 = p := ⟨_, rfl⟩
      rw [hp] at y0
      have hp' := Lib.hid hp
      clear hp
      by_cases hpq : p ≤ now
      · go_wp2_with fail
        go_roundw
        case rel =>
          refine ⟨i + 1, by go_num, by omega, fun j hj => ?_, by trivial⟩
          rcases Nat.lt_or_ge j i with h | h
          · exact D0.out j h
          · obtain rfl : j = i := by omega
            rw [hp'.out]
            exact hpq
        case measure => simp [intOf]; omega
      · have hda := Lib.hid (due_at hi D0.out fun _ => by rw [hp'.out]; omega)
        have hc0 : ¬ c = 0 := by omega
        have hck : ¬ c = i := by omega
        have hic : (i : Int) ≤ (c : Int) := by omega
        have hi0 : (0 : Int) ≤ (i : Int) := by omega
        have hiL : (i : Int) ≤ (L.length : Int) := by omega
        go_wp2_with (first
          | (at_builtin; refine wpList_append_mine' _ rfl _ _ rfl w (.slice (some ⟨_, 0, none⟩) 0 0) [] (L.drop i) rfl oE.out ((Keeps.refl _ _).alloc _) _ rfl (rd_drop rfl (ownsRow_keeps R0.out ((Keeps.refl (fun _ => False) w).alloc _) fun _ _ h => h) i hi _) (L.length - i) (by simp) (by omega) ?_; intro ao cc V hO kV kV2; obtain ⟨x0, x1⟩ := S1.out _ kV; have oV := Lib.hid hO; have kV := Lib.hid kV; clear hO kV2))
        go_ret
        have f := h0.out.store kV.out oV.out
        rw [List.nil_append, hda.out.2] at f
        refine ⟨_, rfl, ⟨?_, Y0.out _ _⟩, f⟩
        rw [← hda.out.1]
        exact rd_take rfl (ownsRow_keeps R0.out f.2 fun g' hg e => row_ne R0.out hb.out (by decide) (by rw [hg, e])) i hi _
    · have hin' : ¬ (i : Int) < (L.length : Int) := by omega
      have hiL : i = L.length := by omega
      have hda := Lib.hid (due_at hi D0.out fun h => absurd h hin)
      have hdr := Lib.hid (show L.drop i = [] from List.drop_of_length_le (by omega))
      have hic : (i : Int) ≤ (c : Int) := by omega
      have hi0 : (0 : Int) ≤ (i : Int) := by omega
      have hiL' : (i : Int) ≤ (L.length : Int) := by omega
      by_cases hL0 : L = []
      · obtain rfl : i = 0 := by rw [hiL, hL0]; rfl
        have hda := Lib.hid (show L = due now L ∧ [] = undue now L from by
          have := hda.out
          rw [hL0]
          exact ⟨rfl, rfl⟩)
        replace hL0 := Lib.hid hL0
        clear hiL hin
        go_wp2_with (first
          | (at_builtin; refine wpList_append_mine' _ rfl _ _ rfl w (.slice (some ⟨_, 0, none⟩) 0 0) [] [] rfl oE.out ((Keeps.refl _ _).alloc _) _ rfl (by rw [hL0.out]; exact rd_nil _ _ _) 0 (by simp) (by omega) ?_; intro ao cc V hO kV kV2; obtain ⟨x0, x1⟩ := S1.out _ kV; have oV := Lib.hid hO; have kV := Lib.hid kV; clear hO kV2))
        all_goals go_ret
        all_goals
          have f := h0.out.store kV.out oV.out
          rw [List.nil_append, hda.out.2] at f
          refine ⟨_, rfl, ⟨?_, Y0.out _ _⟩, f⟩
          rw [← hda.out.1, hL0.out]
          exact rd_nil _ _ _
      · obtain ⟨g, rfl⟩ := ho (List.length_pos_iff.2 hL0)
        have hc0 : ¬ c = 0 := by have := List.length_pos_iff.2 hL0; omega
        clear hL0 hiL
        go_wp2_with (first
          | (at_builtin; refine wpList_append_mine' _ rfl _ _ rfl w (.slice (some ⟨_, 0, none⟩) 0 0) [] (L.drop i) rfl oE.out ((Keeps.refl _ _).alloc _) _ rfl (rd_drop_all _ rfl i (by omega) _) (L.length - i) (by simp) (by omega) ?_; intro ao cc V hO kV kV2; obtain ⟨x0, x1⟩ := S1.out _ kV; have oV := Lib.hid hO; have kV := Lib.hid kV; clear hO kV2))
        all_goals go_ret
        all_goals
          have f := h0.out.store kV.out oV.out
          rw [List.nil_append, hda.out.2] at f
          refine ⟨_, rfl, ⟨?_, Y0.out _ _⟩, f⟩
          rw [← hda.out.1]
          exact rd_take rfl (ownsRow_keeps R0.out f.2 fun g' hg e => row_ne R0.out hb.out (by decide) (by rw [hg, e])) i hi _
end Go.Proofs.YtjmkfloaagppdaaDoor
