/-
  The document's sets: Mark by contract (printed by gen/mkrmark.py).
-/
import Derived.Test.YtkolkimmhlmlgaaDoorStRefWrite
namespace Go.Proofs.YtkolkimmhlmlgaaDoor
open Go.RowKit Go.Maps Go.Extern.Stop Go.Stop Go.Extern

section
variable {α : Type} (K : RK α)

/-- append of what is in a row, to a row. -/
theorem RK.append_row (w : World) (v : Value) (l news : List α) (hown : K.Row w v l) (x : Value) (hR : K.Row w x news) (n : Nat) (hn : l.length + news.length = n) (hbig : n ≤ 100000) (ty : TypeId) :
    ∃ ao cap w', (Builtin.append_ #[K.T, K.T] ty #[v, x]).run Tryd.prog w = .ok (.slice ao n cap) w' ∧ K.Row w' (.slice ao n cap) (l ++ news) ∧ w.grownBy w' v.ownBlock ∧ ((Value.slice ao n cap).ownBlock = v.ownBlock ∨ (Value.slice ao n cap).ownBlock = some w.heap.size) := by
  obtain ⟨o, c, rfl, ho⟩ := row_shape hR
  rcases Nat.eq_zero_or_pos news.length with h0 | h0
  · obtain rfl : news = [] := List.eq_nil_of_length_eq_zero h0
    cases o with
    | some ad => exact K.append w v l [] hown ad 0 c rfl (fun j u hj => by rw [show K.cs [] = [] from List.eq_nil_of_length_eq_zero (by rw [K.len]; simp)] at hj; simp at hj) n hn hbig ty
    | none =>
      obtain ⟨o', cv, rfl, _⟩ := row_shape hown
      obtain ⟨i0, hi, hz0, hz1, hz2⟩ := info_parts K.info
      have hle : l.length ≤ cv := by
        rcases hown.2 with ⟨e, h0⟩ | ⟨g, cap, cur, e, _, _, hnc, _⟩
        · rw [h0]; exact Nat.zero_le _
        · simp only [Value.slice.injEq] at e
          obtain ⟨_, _, rfl⟩ := e
          exact hnc
      have e : l.length = n := hn
      subst e
      refine ⟨o', cv, w, ?_, by rw [List.append_nil]; exact hown, ⟨rfl, rfl, rfl, Nat.le_refl _, fun _ _ _ => rfl⟩, .inl rfl⟩
      have hu := K.hu
      cases o' <;> simp [Builtin.append_, run_underlying hu, sizeOf, typeInfo, hi, Builtin.lenOf, Builtin.firstCells, hle, storeCells]
  · obtain ⟨g, rfl⟩ := ho h0
    exact K.append w v l news hown ⟨g, 0, none⟩ news.length c rfl (fun j u hj => World.ownsRow.cells hR rfl j u hj) n hn hbig ty

/-- A row that was made since w0. -/
def Mine (w0 w : World) (v : Value) (l : List α) : Prop := K.Row w v l ∧ ∀ g, v.ownBlock = some g → w0.heap.size ≤ g

variable {K}
theorem Mine.same {w0 w w' : World} {v : Value} {l : List α} (h : Mine K w0 w v l) (k : Keeps (fun _ => False) w w') : Mine K w0 w' v l := ⟨ownsRow_keeps h.1 k fun _ _ => id, h.2⟩
variable (K)

theorem step_append_f {ops : Array Oper} {o : Oper} {a : Act} {w : World} {K' : Act → World → Prop} {Q : Exit → Act → World → Prop} {E : Prop}
    (hg : o.guard = none) (s x : Operand) (hop : o.op = Op.call { callee := Callee.builtin Builtin.append, args := #[s, x], argTypes := #[K.T, K.T] })
    (w0 : World) (v : Value) (l news : List α) (hs : a.eval s = v) (hown : Mine K w0 w v l) (k0 : Keeps (fun _ => False) w0 w) (xv : Value) (hx : a.eval x = xv) (hR : K.Row w xv news) (n : Nat) (hn : l.length + news.length = n) (hbig : n ≤ 100000)
    (hK : ∀ ao cap w', Mine K w0 w' (.slice ao n cap) (l ++ news) → Keeps (fun _ => False) w0 w' → Keeps (fun x => v.ownBlock = some x) w w' → K' (a.put o.dst (.slice ao n cap)) w') :
    if Region.wanted o (yielded ops a.tmps) = true then Oper.wp Tryd.prog o a w K' Q else E := by
  have hw : Region.wanted o (yielded ops a.tmps) = true := by simp [Region.wanted, hg]
  rw [if_pos hw]
  obtain ⟨ao, cap, w', hr, h2, h3, h5⟩ := K.append_row w v l news hown.1 xv hR n hn hbig o.type
  have kk : Keeps (fun x => v.ownBlock = some x) w w' := (Keeps.refl _ w).grown h3 fun k hk _ => hk
  unfold Oper.wp
  simp [execOp, hop, resolve, invoke, builtin, hs, hx, hr, Result.andThen]
  refine hK ao cap w' ⟨h2, fun g hg => ?_⟩ (k0.trans kk fun x hx e => absurd hx (Nat.not_lt.2 (hown.2 x e))) kk
  rcases h5 with e | e
  · exact hown.2 g (by rw [← e]; exact hg)
  · rw [e] at hg
    injection hg with hg
    rw [← hg]
    exact k0.size
end

theorem row_lit_k {w : World} {b : Nat} (x : Sl) (h : Whole w b 29 #[slv x]) : slK.Row w (.slice (some ⟨b, 0, none⟩) 1 1) [x] :=
  ⟨rfl, .inr ⟨b, 1, _, rfl, Nat.zero_le _, h, Nat.le_refl _, (by decide : 1 ≤ maxLen), rfl, rfl⟩⟩
theorem row_lit_0 {w : World} {b : Nat} (h : Whole w b 29 #[]) : slK.Row w (.slice (some ⟨b, 0, none⟩) 0 0) [] :=
  ⟨rfl, .inr ⟨b, 0, _, rfl, Nat.zero_le _, h, Nat.le_refl _, Nat.zero_le _, rfl, rfl⟩⟩

/-- What lies where, when both literals have been laid, in either order. -/
theorem lits7 (w : World) (wo : Option Addr) (wl wc : Nat) :
    Hid (Mine slK w (w.alloc (.cells #[] 29)).drew (.slice (some ⟨w.heap.size, 0, none⟩) 0 0) []) ∧
    Hid (Mine slK w ((w.alloc (.cells #[] 29)).alloc (.cells #[.slice wo wl wc] 29)).drew (.slice (some ⟨w.heap.size, 0, none⟩) 0 0) []) ∧
    Hid (Mine slK w ((w.alloc (.cells #[.slice wo wl wc] 29)).alloc (.cells #[] 29)).drew (.slice (some ⟨w.heap.size + 1, 0, none⟩) 0 0) []) ∧
    Hid (slK.Row ((w.alloc (.cells #[] 29)).alloc (.cells #[.slice wo wl wc] 29)).drew (.slice (some ⟨w.heap.size + 1, 0, none⟩) 1 1) [(wo, wl, wc)]) ∧
    Hid (slK.Row ((w.alloc (.cells #[.slice wo wl wc] 29)).alloc (.cells #[] 29)).drew (.slice (some ⟨w.heap.size, 0, none⟩) 1 1) [(wo, wl, wc)]) := by
  have own : ∀ (b : Nat) g, w.heap.size ≤ b → (Value.slice (some ⟨b, 0, none⟩) 0 0).ownBlock = some g → w.heap.size ≤ g := fun b g hb hg => by
    simp [Value.ownBlock] at hg; omega
  have e1 : Whole ((w.alloc (.cells #[.slice wo wl wc] 29)).alloc (.cells #[] 29)) (w.heap.size + 1) 29 #[] := by
    have := Whole.made (w.alloc (.cells #[.slice wo wl wc] 29)) 29 #[]
    rwa [World.size_alloc] at this
  have e2 : Whole ((w.alloc (.cells #[] 29)).alloc (.cells #[.slice wo wl wc] 29)) (w.heap.size + 1) 29 #[.slice wo wl wc] := by
    have := Whole.made (w.alloc (.cells #[] 29)) 29 #[.slice wo wl wc]
    rwa [World.size_alloc] at this
  exact ⟨Lib.hid ⟨row_lit_0 (Whole.made w _ _).drew, fun g => own _ g (Nat.le_refl _)⟩, Lib.hid ⟨row_lit_0 ((Whole.made w _ _).alloc _).drew, fun g => own _ g (Nat.le_refl _)⟩, Lib.hid ⟨row_lit_0 e1.drew, fun g => own _ g (Nat.le_succ _)⟩, Lib.hid (row_lit_k (wo, wl, wc) e2.drew), Lib.hid (row_lit_k (wo, wl, wc) ((Whole.made w _ _).alloc _).drew)⟩

set_option maxRecDepth 100000 in
set_option maxHeartbeats 2000000 in
theorem rmark_any {w : World} {r : Nat} {A : AS} {Y : Nat → Prop} (h : RS w r A Y) (ok : A.Ok) :
    Calls Tryd.prog 24 #[.pointer (some ⟨r, 0, none⟩)] w fun e w' => e = .returned (.tuple #[.int .i64 ((aMark A).2.1 : Nat), .int .i64 ((aMark A).2.2 : Nat)]) ∧ RDid w w' r (aMark A).1 Y := by
  have h' := Lib.hid h
  obtain ⟨vR, vW, vM, ws, h⟩ := h
  have few := ok.mfew
  obtain ⟨n, hn⟩ : ∃ n, ws.length = n := ⟨_, rfl⟩
  obtain ⟨o, cap, rfl, _⟩ := row_shape h.marks
  obtain ⟨wo, wc, rfl, _⟩ := row_shape h.writes
  obtain ⟨wl, hwl⟩ : ∃ wl, A.W.length = wl := ⟨_, rfl⟩
  have hln := h.len
  rw [hn] at hln
  have c2 : w.cell? ⟨r, 2, none⟩ = some (.slice o n cap) := by rw [← hn]; exact h.blk.at_ 2
  have hn' := Lib.hid hn
  have hP := Lib.hid h
  by_cases hf : 20 ≤ A.M.length
  · have ea : aMark A = (A, 0, 10) := by unfold aMark; rw [if_pos hf]
    have E := Lib.hid ea
    have b1 : (20 : Int) ≤ (n : Int) := by omega
    clear ea h hn
    go_enter Tryd.func24, Tryd.ntmps24
    go_wp2_with fail
    go_ret2
    rw [E.out]
    exact ⟨rfl, RDid.same h'.out (Keeps.refl _ _)⟩
  have ea : aMark A = ({ A with M := A.M ++ [A.W] }, n + 1, 0) := by unfold aMark; rw [if_neg hf, hln]
  have E := Lib.hid ea
  have b1 : ¬ (20 : Int) ≤ (n : Int) := by omega
  have S1 : ∀ V, Keeps (fun _ => False) w V → (V.cell? ⟨r, 1, none⟩ = some (.slice wo wl wc) ∧ V.cell? ⟨r, 2, none⟩ = some (.slice o n cap)) := fun V K => ⟨by rw [← hwl]; exact (h.blk.keeps K id).at_ 1, by rw [← hn]; exact (h.blk.keeps K id).at_ 2⟩
  have S2 : ∀ V, Keeps (fun _ => False) w V → V.frozen? ⟨r, 2, none⟩ = false := fun V K => (h.blk.keeps K id).free 2
  have RM : slK.Row w (.slice o n cap) ws := by rw [← hn]; exact h.marks
  have RM := Lib.hid RM
  have S1 := Lib.hid S1
  have S2 := Lib.hid S2
  have hsW' : Value.slice wo A.W.length wc = slv (wo, wl, wc) := by rw [hwl]; rfl
  have fin : ∀ (VB : World) (ao : Option Addr) (cb : Nat), Mine slK w VB (.slice ao (n + 1) cb) ([] ++ ws ++ [(wo, wl, wc)]) → Keeps (fun _ => False) w VB → RDid w (VB.setCell ⟨r, 2, none⟩ (.slice ao (n + 1) cb)) r { A with M := A.M ++ [A.W] } Y := fun VB ao cb hO kB => by
    obtain ⟨W5, hW5⟩ : ∃ W, W = VB.setCell ⟨r, 2, none⟩ (.slice ao (n + 1) cb) := ⟨_, rfl⟩
    have ks : Keeps (fun x => x = r) VB W5 := by rw [hW5]; exact (Keeps.refl (fun x => x = r) VB).setCell (p := ⟨r, 2, none⟩) (fun _ => rfl) _
    rw [← hW5]
    have kk' : Keeps (fun x => x = r) w W5 := (kB.mono fun _ _ => False.elim).trans ks fun _ _ e => e
    have nrow : ∀ {t : TypeId} {size : Nat} {v : Value} {m : Nat} {xs : List Value}, w.ownsRow 0 t size v m xs → t ≠ 32 → ∀ g, v.ownBlock = some g → ¬ g = r := fun hv n2 g hg e => row_ne hv hP.out.blk n2 (by rw [hg, e])
    have lr := hP.out.blk.lt
    have R5 : slK.Row W5 (.slice ao (n + 1) cb) (ws ++ [(wo, wl, wc)]) := ownsRow_keeps hO.1 ks fun g hg e => by have := hO.2 g hg; omega
    refine ⟨fun y => Y y ∨ (Value.slice ao (n + 1) cb).ownBlock = some y, ⟨vR, _, _, ws ++ [(wo, wl, wc)], {
      blk := by rw [hW5]; exact (hP.out.blk.keeps kB id).set_ 2 _
      reads := ownsRow_keeps hP.out.reads kk' (nrow hP.out.reads (by decide))
      writes := ownsRow_keeps hP.out.writes kk' (nrow hP.out.writes (by decide))
      marks := R5
      len := by simp [hP.out.len]
      each := fun j v m hv hm => by
        have hpl := hP.out.len
        rcases Nat.lt_trichotomy j ws.length with hj | hj | hj
        · rw [List.getElem?_append_left hj] at hv
          have hm' : A.M[j]? = some m := by rw [← hm]; show _ = (A.M ++ [A.W])[j]?; rw [List.getElem?_append_left (by omega)]
          exact ownsRow_keeps (hP.out.each j v m hv hm') kk' (nrow (hP.out.each j v m hv hm') (by decide))
        · have hv' : v = (wo, wl, wc) := by rw [List.getElem?_append_right (by omega), show j - ws.length = 0 by omega] at hv; simpa using hv.symm
          have hm' : m = A.W := by
            have h9 : (A.M ++ [A.W])[j]? = some m := hm
            rw [List.getElem?_append_right (by omega), show j - A.M.length = 0 by omega] at h9; simpa using h9.symm
          rw [hv', hm', ← hsW']
          exact ownsRow_keeps hP.out.writes kk' (nrow hP.out.writes (by decide))
        · rw [List.getElem?_eq_none (by simp; omega)] at hv
          cases hv
      inY := ⟨.inl hP.out.inY.1, fun g hg => .inl (hP.out.inY.2.1 g hg), fun g hg => .inl (hP.out.inY.2.2.1 g hg), fun g hg => .inr hg, fun v hv g hg => by
        rcases List.mem_append.1 hv with hv | hv
        · exact .inl (hP.out.inY.2.2.2.2 v hv g hg)
        · simp at hv
          exact .inl (hP.out.inY.2.2.1 g (by rw [hsW', ← hv]; exact hg))⟩
      old := fun y hy => by
        rcases hy with hy | hy
        · exact Nat.lt_of_lt_of_le (hP.out.old y hy) kk'.size
        · exact (World.ownsRow.lt R5 y hy).2 }⟩, fun y hy => ?_, kk'.mono fun y _ hy => by rw [hy]; exact hP.out.inY.1⟩
    rcases hy with hy | hy
    · exact .inl hy
    · exact .inr (hO.2 y hy)
  have fin := Lib.hid fin
  obtain ⟨oE, oET, oTE, mET, mTE⟩ := lits7 w wo wl wc
  clear ea h hn hf hln few hsW' hwl
  go_enter Tryd.func24, Tryd.ntmps24
  go_wp2_with fail
  refine AnyT.begin (S := fun V => V.cell? ⟨r, 1, none⟩ = some (.slice wo wl wc) ∧ V.cell? ⟨r, 2, none⟩ = some (.slice o n cap)) (by kernel_rfl) (S1.out _ (Keeps.refl _ _).drew) (fun hHeld => ?_)
  (refine AnyT.take (i := 0) (v := ?_) rfl (by kernel_rfl) (fun _ _ _ h => h) (Or.inl ⟨by rfl, ?_⟩) (by assumption) ?_; rotate_left; (· (intro V hSV; (try dsimp only at hSV); (first | (go_simp; done) | (go_simp; with_reducible rfl)))); simp only [Act.put, List.setIfInBounds_toArray, List.set_cons_zero, List.set_cons_succ])
  (refine AnyT.take (i := 2) (v := ?_) rfl (by kernel_rfl) (fun _ _ _ h => h) (Or.inl ⟨by rfl, ?_⟩) (by assumption) ?_; rotate_left; (· (intro V hSV; (try dsimp only at hSV); (first | (go_simp; done) | (go_simp; with_reducible rfl)))); simp only [Act.put, List.setIfInBounds_toArray, List.set_cons_zero, List.set_cons_succ])
  (refine AnyT.take (i := 3) (v := ?_) rfl (by kernel_rfl) (fun _ _ _ h => h) (Or.inl ⟨by rfl, ?_⟩) (by assumption) ?_; rotate_left; (· (intro V hSV; (try dsimp only at hSV); (first | (go_simp; done) | (go_simp; with_reducible rfl)))); simp only [Act.put, List.setIfInBounds_toArray, List.set_cons_zero, List.set_cons_succ])
  (refine AnyT.take (i := 4) (v := ?_) rfl (by kernel_rfl) (fun _ _ _ h => h) (Or.inl ⟨by rfl, ?_⟩) (by assumption) ?_; rotate_left; (· (intro V hSV; (try dsimp only at hSV); (first | (go_simp; done) | (go_simp; with_reducible rfl)))); simp only [Act.put, List.setIfInBounds_toArray, List.set_cons_zero, List.set_cons_succ])
  (refine AnyT.take (i := 5) (v := ?_) rfl (by kernel_rfl) (fun _ _ _ h => h) (Or.inl ⟨by rfl, ?_⟩) (by assumption) ?_; rotate_left; (· (intro V hSV; (try dsimp only at hSV); (first | (go_simp; done) | (go_simp; with_reducible rfl)))); simp only [Act.put, List.setIfInBounds_toArray, List.set_cons_zero, List.set_cons_succ])
  (refine AnyT.take (i := 7) (v := ?_) rfl (by kernel_rfl) (fun _ _ _ h => h) (Or.inl ⟨by rfl, ?_⟩) (by assumption) ?_; rotate_left; (· (intro V hSV; (try dsimp only at hSV); (first | (go_simp; done) | (go_simp; with_reducible rfl)))); simp only [Act.put, List.setIfInBounds_toArray, List.set_cons_zero, List.set_cons_succ])
  (refine AnyT.take (i := 8) (v := ?_) rfl (by kernel_rfl) (fun _ _ _ h => h) (Or.inl ⟨by rfl, ?_⟩) (by assumption) ?_; rotate_left; (· (intro V hSV; (try dsimp only at hSV); (first | (go_simp; done) | (go_simp; with_reducible rfl)))); simp only [Act.put, List.setIfInBounds_toArray, List.set_cons_zero, List.set_cons_succ])
  (refine AnyT.take (i := 9) (v := ?_) rfl (by kernel_rfl) (fun _ _ _ h => h) (Or.inl ⟨by rfl, ?_⟩) (by assumption) ?_; rotate_left; (· (intro V hSV; (try dsimp only at hSV); (first | (go_simp; done) | (go_simp; with_reducible rfl)))); simp only [Act.put, List.setIfInBounds_toArray, List.set_cons_zero, List.set_cons_succ])
  (refine AnyT.take (i := 10) (v := ?_) rfl (by kernel_rfl) (fun _ _ _ h => h) (Or.inl ⟨by rfl, ?_⟩) (by assumption) ?_; rotate_left; (· (intro V hSV; (try dsimp only at hSV); (first | (go_simp; done) | (go_simp; with_reducible rfl)))); simp only [Act.put, List.setIfInBounds_toArray, List.set_cons_zero, List.set_cons_succ])
  refine AnyT.ready (rs := [1, 11]) (by kernel_rfl) (by simp) (ReadyT.cons rfl (fun K hK => ?_) (ReadyT.cons rfl (fun K hK => ?_) ReadyT.nil))
  · go_simp
    refine hK.out _ _ (fun _ => S1.out _ (by repeat (first | exact Keeps.refl _ _ | exact kA.out | exact kB.out | apply Keeps.drew | apply Keeps.alloc))) (fun hH => ?_)
    have hHeld := hH (of_decide_eq_true (by kernel_rfl))
    clear hH hK K
    try simp only [Act.put, List.setIfInBounds_toArray, List.set_cons_zero, List.set_cons_succ]
    refine AnyT.ready (rs := [6, 11]) (by kernel_rfl) (by simp) (ReadyT.cons rfl (fun K hK => ?_) (ReadyT.cons rfl (fun K hK => ?_) ReadyT.nil))
    · refine step_append_f slK rfl _ _ rfl w (.slice (some ⟨_, 0, none⟩) 0 0) [] ws rfl (by first | exact oE.out | exact oET.out | exact oTE.out) (by repeat (first | exact Keeps.refl _ _ | exact kA.out | exact kB.out | apply Keeps.drew | apply Keeps.alloc)) (.slice o n cap) rfl (ownsRow_keeps RM.out (by repeat (first | exact Keeps.refl _ _ | exact kA.out | exact kB.out | apply Keeps.drew | apply Keeps.alloc)) fun _ _ => id) n (by simp [hn'.out]) (by omega) ?_
      intro aoA capA VA hO kA kA2
      have oA := Lib.hid hO
      have kA := Lib.hid kA
      have kA2 := Lib.hid kA2
      clear hO
      refine hK.out _ _ (fun _ => S1.out _ (by repeat (first | exact Keeps.refl _ _ | exact kA.out | exact kB.out | apply Keeps.drew | apply Keeps.alloc))) (fun hH => ?_)
      have hHeld := hH (of_decide_eq_true (by kernel_rfl))
      clear hH hK K
      try simp only [Act.put, List.setIfInBounds_toArray, List.set_cons_zero, List.set_cons_succ]
      refine AnyT.ready (rs := [11]) (by kernel_rfl) (by simp) (ReadyT.cons rfl (fun K hK => ?_) ReadyT.nil)
      go_simp
      refine hK.out _ _ (fun _ => S1.out _ (by repeat (first | exact Keeps.refl _ _ | exact kA.out | exact kB.out | apply Keeps.drew | apply Keeps.alloc))) (fun hH => ?_)
      have hHeld := hH (of_decide_eq_true (by kernel_rfl))
      clear hH hK K
      try simp only [Act.put, List.setIfInBounds_toArray, List.set_cons_zero, List.set_cons_succ]
      refine AnyT.ready (rs := [12]) (by kernel_rfl) (by simp) (ReadyT.cons rfl (fun K hK => ?_) ReadyT.nil)
      refine step_append_f slK rfl _ _ rfl w (.slice aoA n capA) ([] ++ ws) [(wo, wl, wc)] rfl (by first | exact oA.out | exact oA.out.same ((Keeps.refl _ _).alloc _)) (by repeat (first | exact Keeps.refl _ _ | exact kA.out | exact kB.out | apply Keeps.drew | apply Keeps.alloc)) (.slice (some ⟨_, 0, none⟩) 1 1) rfl (by first | exact row_lit_k (wo, wl, wc) (Whole.made VA _ _) | exact ownsRow_keeps mET.out kA2.out (fun g hg e => by simp [Value.ownBlock] at hg e; omega) | exact ownsRow_keeps mTE.out kA2.out (fun g hg e => by simp [Value.ownBlock] at hg e; omega)) (n + 1) (by simp [hn'.out]) (by omega) ?_
      intro aoB capB VB hO kB kB2
      have oB := Lib.hid hO
      have c0 := (S1.out _ kB).2
      have f0 := S2.out _ kB
      have kB := Lib.hid kB
      clear hO kB2
      refine hK.out _ _ (fun _ => S1.out _ (by repeat (first | exact Keeps.refl _ _ | exact kA.out | exact kB.out | apply Keeps.drew | apply Keeps.alloc))) (fun hH => ?_)
      have hHeld := hH (of_decide_eq_true (by kernel_rfl))
      clear hH hK K
      try simp only [Act.put, List.setIfInBounds_toArray, List.set_cons_zero, List.set_cons_succ]
      (refine AnyT.take (i := 13) (v := ?_) rfl (by kernel_rfl) (fun _ _ _ h => h) (Or.inl ⟨by rfl, ?_⟩) (by assumption) ?_; rotate_left; (· (intro V hSV; (try dsimp only at hSV); (first | (go_simp; done) | (go_simp; with_reducible rfl)))); simp only [Act.put, List.setIfInBounds_toArray, List.set_cons_zero, List.set_cons_succ])
      (refine AnyT.take (i := 14) (v := ?_) rfl (by kernel_rfl) (fun _ _ _ h => h) (Or.inl ⟨by rfl, ?_⟩) (by assumption) ?_; rotate_left; (· (intro V hSV; (try dsimp only at hSV); (first | (go_simp; done) | (go_simp; with_reducible rfl)))); simp only [Act.put, List.setIfInBounds_toArray, List.set_cons_zero, List.set_cons_succ])
      refine AnyT.ready (rs := [15]) (by kernel_rfl) (by simp) (ReadyT.cons rfl (fun K hK => ?_) ReadyT.nil)
      go_simp
      refine hK.out _ _ (fun h => absurd h (of_decide_eq_false (by kernel_rfl))) (fun _ => ?_)
      clear hK K
      try simp only [Act.put, List.setIfInBounds_toArray, List.set_cons_zero, List.set_cons_succ]
      refine AnyT.done (by kernel_rfl) ?_ _
      have F := Lib.hid (fin.out _ _ _ oB.out kB.out)
      go_wp2_with fail
      go_ret2
      rw [E.out]
      exact ⟨rfl, F.out⟩
    · go_simp
      refine hK.out _ _ (fun _ => S1.out _ (by repeat (first | exact Keeps.refl _ _ | exact kA.out | exact kB.out | apply Keeps.drew | apply Keeps.alloc))) (fun hH => ?_)
      have hHeld := hH (of_decide_eq_true (by kernel_rfl))
      clear hH hK K
      try simp only [Act.put, List.setIfInBounds_toArray, List.set_cons_zero, List.set_cons_succ]
      refine AnyT.ready (rs := [6]) (by kernel_rfl) (by simp) (ReadyT.cons rfl (fun K hK => ?_) ReadyT.nil)
      refine step_append_f slK rfl _ _ rfl w (.slice (some ⟨_, 0, none⟩) 0 0) [] ws rfl (by first | exact oE.out | exact oET.out | exact oTE.out) (by repeat (first | exact Keeps.refl _ _ | exact kA.out | exact kB.out | apply Keeps.drew | apply Keeps.alloc)) (.slice o n cap) rfl (ownsRow_keeps RM.out (by repeat (first | exact Keeps.refl _ _ | exact kA.out | exact kB.out | apply Keeps.drew | apply Keeps.alloc)) fun _ _ => id) n (by simp [hn'.out]) (by omega) ?_
      intro aoA capA VA hO kA kA2
      have oA := Lib.hid hO
      have kA := Lib.hid kA
      have kA2 := Lib.hid kA2
      clear hO
      refine hK.out _ _ (fun _ => S1.out _ (by repeat (first | exact Keeps.refl _ _ | exact kA.out | exact kB.out | apply Keeps.drew | apply Keeps.alloc))) (fun hH => ?_)
      have hHeld := hH (of_decide_eq_true (by kernel_rfl))
      clear hH hK K
      try simp only [Act.put, List.setIfInBounds_toArray, List.set_cons_zero, List.set_cons_succ]
      refine AnyT.ready (rs := [12]) (by kernel_rfl) (by simp) (ReadyT.cons rfl (fun K hK => ?_) ReadyT.nil)
      refine step_append_f slK rfl _ _ rfl w (.slice aoA n capA) ([] ++ ws) [(wo, wl, wc)] rfl (by first | exact oA.out | exact oA.out.same ((Keeps.refl _ _).alloc _)) (by repeat (first | exact Keeps.refl _ _ | exact kA.out | exact kB.out | apply Keeps.drew | apply Keeps.alloc)) (.slice (some ⟨_, 0, none⟩) 1 1) rfl (by first | exact row_lit_k (wo, wl, wc) (Whole.made VA _ _) | exact ownsRow_keeps mET.out kA2.out (fun g hg e => by simp [Value.ownBlock] at hg e; omega) | exact ownsRow_keeps mTE.out kA2.out (fun g hg e => by simp [Value.ownBlock] at hg e; omega)) (n + 1) (by simp [hn'.out]) (by omega) ?_
      intro aoB capB VB hO kB kB2
      have oB := Lib.hid hO
      have c0 := (S1.out _ kB).2
      have f0 := S2.out _ kB
      have kB := Lib.hid kB
      clear hO kB2
      refine hK.out _ _ (fun _ => S1.out _ (by repeat (first | exact Keeps.refl _ _ | exact kA.out | exact kB.out | apply Keeps.drew | apply Keeps.alloc))) (fun hH => ?_)
      have hHeld := hH (of_decide_eq_true (by kernel_rfl))
      clear hH hK K
      try simp only [Act.put, List.setIfInBounds_toArray, List.set_cons_zero, List.set_cons_succ]
      (refine AnyT.take (i := 13) (v := ?_) rfl (by kernel_rfl) (fun _ _ _ h => h) (Or.inl ⟨by rfl, ?_⟩) (by assumption) ?_; rotate_left; (· (intro V hSV; (try dsimp only at hSV); (first | (go_simp; done) | (go_simp; with_reducible rfl)))); simp only [Act.put, List.setIfInBounds_toArray, List.set_cons_zero, List.set_cons_succ])
      (refine AnyT.take (i := 14) (v := ?_) rfl (by kernel_rfl) (fun _ _ _ h => h) (Or.inl ⟨by rfl, ?_⟩) (by assumption) ?_; rotate_left; (· (intro V hSV; (try dsimp only at hSV); (first | (go_simp; done) | (go_simp; with_reducible rfl)))); simp only [Act.put, List.setIfInBounds_toArray, List.set_cons_zero, List.set_cons_succ])
      refine AnyT.ready (rs := [15]) (by kernel_rfl) (by simp) (ReadyT.cons rfl (fun K hK => ?_) ReadyT.nil)
      go_simp
      refine hK.out _ _ (fun h => absurd h (of_decide_eq_false (by kernel_rfl))) (fun _ => ?_)
      clear hK K
      try simp only [Act.put, List.setIfInBounds_toArray, List.set_cons_zero, List.set_cons_succ]
      refine AnyT.done (by kernel_rfl) ?_ _
      have F := Lib.hid (fin.out _ _ _ oB.out kB.out)
      go_wp2_with fail
      go_ret2
      rw [E.out]
      exact ⟨rfl, F.out⟩
  · go_simp
    refine hK.out _ _ (fun _ => S1.out _ (by repeat (first | exact Keeps.refl _ _ | exact kA.out | exact kB.out | apply Keeps.drew | apply Keeps.alloc))) (fun hH => ?_)
    have hHeld := hH (of_decide_eq_true (by kernel_rfl))
    clear hH hK K
    try simp only [Act.put, List.setIfInBounds_toArray, List.set_cons_zero, List.set_cons_succ]
    refine AnyT.ready (rs := [1]) (by kernel_rfl) (by simp) (ReadyT.cons rfl (fun K hK => ?_) ReadyT.nil)
    go_simp
    refine hK.out _ _ (fun _ => S1.out _ (by repeat (first | exact Keeps.refl _ _ | exact kA.out | exact kB.out | apply Keeps.drew | apply Keeps.alloc))) (fun hH => ?_)
    have hHeld := hH (of_decide_eq_true (by kernel_rfl))
    clear hH hK K
    try simp only [Act.put, List.setIfInBounds_toArray, List.set_cons_zero, List.set_cons_succ]
    refine AnyT.ready (rs := [6]) (by kernel_rfl) (by simp) (ReadyT.cons rfl (fun K hK => ?_) ReadyT.nil)
    refine step_append_f slK rfl _ _ rfl w (.slice (some ⟨_, 0, none⟩) 0 0) [] ws rfl (by first | exact oE.out | exact oET.out | exact oTE.out) (by repeat (first | exact Keeps.refl _ _ | exact kA.out | exact kB.out | apply Keeps.drew | apply Keeps.alloc)) (.slice o n cap) rfl (ownsRow_keeps RM.out (by repeat (first | exact Keeps.refl _ _ | exact kA.out | exact kB.out | apply Keeps.drew | apply Keeps.alloc)) fun _ _ => id) n (by simp [hn'.out]) (by omega) ?_
    intro aoA capA VA hO kA kA2
    have oA := Lib.hid hO
    have kA := Lib.hid kA
    have kA2 := Lib.hid kA2
    clear hO
    refine hK.out _ _ (fun _ => S1.out _ (by repeat (first | exact Keeps.refl _ _ | exact kA.out | exact kB.out | apply Keeps.drew | apply Keeps.alloc))) (fun hH => ?_)
    have hHeld := hH (of_decide_eq_true (by kernel_rfl))
    clear hH hK K
    try simp only [Act.put, List.setIfInBounds_toArray, List.set_cons_zero, List.set_cons_succ]
    refine AnyT.ready (rs := [12]) (by kernel_rfl) (by simp) (ReadyT.cons rfl (fun K hK => ?_) ReadyT.nil)
    refine step_append_f slK rfl _ _ rfl w (.slice aoA n capA) ([] ++ ws) [(wo, wl, wc)] rfl (by first | exact oA.out | exact oA.out.same ((Keeps.refl _ _).alloc _)) (by repeat (first | exact Keeps.refl _ _ | exact kA.out | exact kB.out | apply Keeps.drew | apply Keeps.alloc)) (.slice (some ⟨_, 0, none⟩) 1 1) rfl (by first | exact row_lit_k (wo, wl, wc) (Whole.made VA _ _) | exact ownsRow_keeps mET.out kA2.out (fun g hg e => by simp [Value.ownBlock] at hg e; omega) | exact ownsRow_keeps mTE.out kA2.out (fun g hg e => by simp [Value.ownBlock] at hg e; omega)) (n + 1) (by simp [hn'.out]) (by omega) ?_
    intro aoB capB VB hO kB kB2
    have oB := Lib.hid hO
    have c0 := (S1.out _ kB).2
    have f0 := S2.out _ kB
    have kB := Lib.hid kB
    clear hO kB2
    refine hK.out _ _ (fun _ => S1.out _ (by repeat (first | exact Keeps.refl _ _ | exact kA.out | exact kB.out | apply Keeps.drew | apply Keeps.alloc))) (fun hH => ?_)
    have hHeld := hH (of_decide_eq_true (by kernel_rfl))
    clear hH hK K
    try simp only [Act.put, List.setIfInBounds_toArray, List.set_cons_zero, List.set_cons_succ]
    (refine AnyT.take (i := 13) (v := ?_) rfl (by kernel_rfl) (fun _ _ _ h => h) (Or.inl ⟨by rfl, ?_⟩) (by assumption) ?_; rotate_left; (· (intro V hSV; (try dsimp only at hSV); (first | (go_simp; done) | (go_simp; with_reducible rfl)))); simp only [Act.put, List.setIfInBounds_toArray, List.set_cons_zero, List.set_cons_succ])
    (refine AnyT.take (i := 14) (v := ?_) rfl (by kernel_rfl) (fun _ _ _ h => h) (Or.inl ⟨by rfl, ?_⟩) (by assumption) ?_; rotate_left; (· (intro V hSV; (try dsimp only at hSV); (first | (go_simp; done) | (go_simp; with_reducible rfl)))); simp only [Act.put, List.setIfInBounds_toArray, List.set_cons_zero, List.set_cons_succ])
    refine AnyT.ready (rs := [15]) (by kernel_rfl) (by simp) (ReadyT.cons rfl (fun K hK => ?_) ReadyT.nil)
    go_simp
    refine hK.out _ _ (fun h => absurd h (of_decide_eq_false (by kernel_rfl))) (fun _ => ?_)
    clear hK K
    try simp only [Act.put, List.setIfInBounds_toArray, List.set_cons_zero, List.set_cons_succ]
    refine AnyT.done (by kernel_rfl) ?_ _
    have F := Lib.hid (fin.out _ _ _ oB.out kB.out)
    go_wp2_with fail
    go_ret2
    rw [E.out]
    exact ⟨rfl, F.out⟩
end Go.Proofs.YtkolkimmhlmlgaaDoor
