/-
  append of the timers of any slice that reads as a list to a row of timers of one's own.
-/
import Derived.Test.YtjmkfloaagppdaaDoorQuApp
import Derived.Test.YtjmkfloaagppdaaDoorQuSame
import Derived.Test.YtjmkfloaagppdaaDoorQuArgs
namespace Go.Proofs.YtjmkfloaagppdaaDoor
open Go.RowKit Go.Extern.Stop Go.Stop Go.Extern

theorem rd_news {w : World} {b off : Nat} {l : List Tm} (h : ∀ k, k < l.length → w.cell? ⟨b, off + k * 2, none⟩ = some (.int .i64 (at_ l k).1) ∧ w.cell? ⟨b, off + k * 2 + 1, none⟩ = some (.int .i64 (at_ l k).2)) :
    ∀ j u, (tmCells l)[j]? = some u → w.cell? ((⟨b, off, none⟩ : Addr).add j) = some u := by
  intro j u hj
  have hlt : j < (tmCells l).length := by
    rcases Nat.lt_or_ge j (tmCells l).length with h | h
    · exact h
    · rw [List.getElem?_eq_none h] at hj; cases hj
  rw [tmCells_len] at hlt
  rw [show (⟨b, off, none⟩ : Addr).add j = ⟨b, off + j, none⟩ by simp [Addr.add]]
  rcases (show j = j / 2 * 2 ∨ j = j / 2 * 2 + 1 by omega) with e | e
  · have := (h (j / 2) (by omega)).1
    rw [e, tmCells_when l (j / 2) (by omega)] at hj
    rw [e, this]; exact hj
  · have := (h (j / 2) (by omega)).2
    rw [e, tmCells_id l (j / 2) (by omega)] at hj
    rw [e, ← Nat.add_assoc, this]; exact hj

theorem run_append_rd (w : World) (v : Value) (l news : List Tm) (hown : TRow w v l) (x : Value) (hR : Rd w x news) (n : Nat) (hn : l.length + news.length = n) (hbig : n ≤ 100000) (ty : TypeId) :
    ∃ ao cap w', (Builtin.append_ #[27, 27] ty #[v, x]).run Tryd.prog w = .ok (.slice ao n cap) w' ∧ TRow w' (.slice ao n cap) (l ++ news) ∧ w.grownBy w' v.ownBlock ∧ ((Value.slice ao n cap).ownBlock = v.ownBlock ∨ (Value.slice ao n cap).ownBlock = some w.heap.size) := by
  obtain ⟨a, c, rfl, h⟩ := hR
  rcases h with rfl | ⟨b, off, rfl, h⟩
  · cases a with
    | some ad => exact run_append_tms w v l [] hown ad 0 c rfl (fun j u hj => by simp [tmCells] at hj) n hn hbig ty
    | none =>
      obtain ⟨o, cv, rfl, _⟩ := TRow.shape hown
      obtain ⟨i0, hi, hz0, hz1, hz2⟩ := info_parts info_timer
      have hle : l.length ≤ cv := by
        rcases hown.2 with ⟨e, h0⟩ | ⟨g, cap, cur, e, _, _, hnc, _⟩
        · rw [h0]; exact Nat.zero_le _
        · simp only [Value.slice.injEq] at e
          obtain ⟨_, _, rfl⟩ := e
          exact hnc
      have e : l.length = n := hn
      subst e
      refine ⟨o, cv, w, ?_, by rw [List.append_nil]; exact hown, ⟨rfl, rfl, rfl, Nat.le_refl _, fun _ _ _ => rfl⟩, .inl rfl⟩
      have hu := Tryd.underlying27
      cases o <;> simp [Builtin.append_, run_underlying hu, sizeOf, typeInfo, hi, Builtin.lenOf, Builtin.firstCells, hle, storeCells]
  · exact run_append_tms w v l news hown ⟨b, off, none⟩ news.length c rfl (rd_news h) n hn hbig ty

theorem wpList_append_rd (w : World) {ops : Array Oper} {rest : List Oper} {o : Oper} {a : Act} {Q : Exit → Act → World → Prop}
    (hg : o.guard = none) (s x : Operand) (hop : o.op = Op.call { callee := Callee.builtin Builtin.append, args := #[s, x], argTypes := #[27, 27] })
    (v : Value) (l news : List Tm) (hs : a.eval s = v) (hown : TRow w v l) (xv : Value) (hx : a.eval x = xv) (hR : Rd w xv news) (n : Nat) (hn : l.length + news.length = n) (hbig : n ≤ 100000)
    (hK : ∀ ao cap w', TRow w' (.slice ao n cap) (l ++ news) → w.grownBy w' v.ownBlock → ((Value.slice ao n cap).ownBlock = v.ownBlock ∨ (Value.slice ao n cap).ownBlock = some w.heap.size) → wpList Tryd.prog ops Q rest (a.put o.dst (.slice ao n cap)) w') :
    wpList Tryd.prog ops Q (o :: rest) a w := by
  refine wpList_plain hg fun K hK' => ?_
  obtain ⟨ao, cap, w', hr, h2, h3, h5⟩ := run_append_rd w v l news hown xv hR n hn hbig o.type
  unfold Oper.wp execOp
  simp only [hop, resolve, invoke, builtin, Sem.run_bind, Sem.run_pure, Result.andThen_ok, List.map_toArray, List.map_cons, List.map_nil, hs, hx, hr]
  exact hK' _ _ (hK ao cap w' h2 h3 h5)

theorem step_append_rd {ops : Array Oper} {o : Oper} {a : Act} {w : World} {K : Act → World → Prop} {Q : Exit → Act → World → Prop} {E : Prop}
    (hg : o.guard = none) (s x : Operand) (hop : o.op = Op.call { callee := Callee.builtin Builtin.append, args := #[s, x], argTypes := #[27, 27] })
    (v : Value) (l news : List Tm) (hs : a.eval s = v) (hown : TRow w v l) (xv : Value) (hx : a.eval x = xv) (hR : Rd w xv news) (n : Nat) (hn : l.length + news.length = n) (hbig : n ≤ 100000)
    (hK : ∀ ao cap w', TRow w' (.slice ao n cap) (l ++ news) → w.grownBy w' v.ownBlock → ((Value.slice ao n cap).ownBlock = v.ownBlock ∨ (Value.slice ao n cap).ownBlock = some w.heap.size) → K (a.put o.dst (.slice ao n cap)) w') :
    if Region.wanted o (yielded ops a.tmps) = true then Oper.wp Tryd.prog o a w K Q else E := by
  have hw : Region.wanted o (yielded ops a.tmps) = true := by simp [Region.wanted, hg]
  rw [if_pos hw]
  obtain ⟨ao, cap, w', hr, h2, h3, h5⟩ := run_append_rd w v l news hown xv hR n hn hbig o.type
  unfold Oper.wp
  simp [execOp, hop, resolve, invoke, builtin, hs, hx, hr, Result.andThen]
  exact hK ao cap w' h2 h3 h5

/-- Behind an append to a slice of one's own that was made behind w0. -/
theorem own_append {w0 w w' : World} {v v' : Value} {l l' : List Tm} (h : Own w v l w0.heap.size) (k : Keeps (fun _ => False) w0 w) (hO : TRow w' v' l') (hG : w.grownBy w' v.ownBlock) (hl : v'.ownBlock = v.ownBlock ∨ v'.ownBlock = some w.heap.size) :
    Own w' v' l' w0.heap.size ∧ Keeps (fun _ => False) w0 w' ∧ Keeps (fun x => v.ownBlock = some x) w w' := by
  obtain ⟨o1, k2⟩ := h.more k.size hO hG hl
  exact ⟨o1, k.trans k2 fun x hx hB => absurd hx (Nat.not_lt.2 hB), (Keeps.refl _ w).grown hG fun k hk _ => hk⟩

theorem step_append_mine {ops : Array Oper} {o : Oper} {a : Act} {w : World} {K : Act → World → Prop} {Q : Exit → Act → World → Prop} {E : Prop}
    (hg : o.guard = none) (s x : Operand) (hop : o.op = Op.call { callee := Callee.builtin Builtin.append, args := #[s, x], argTypes := #[27, 27] })
    (w0 : World) (v : Value) (l news : List Tm) (hs : a.eval s = v) (hown : Own w v l w0.heap.size) (k0 : Keeps (fun _ => False) w0 w) (xv : Value) (hx : a.eval x = xv) (hR : Rd w xv news) (n : Nat) (hn : l.length + news.length = n) (hbig : n ≤ 100000)
    (hK : ∀ ao cap w', Own w' (.slice ao n cap) (l ++ news) w0.heap.size → Keeps (fun _ => False) w0 w' → Keeps (fun x => v.ownBlock = some x) w w' → K (a.put o.dst (.slice ao n cap)) w') :
    if Region.wanted o (yielded ops a.tmps) = true then Oper.wp Tryd.prog o a w K Q else E :=
  step_append_rd hg s x hop v l news hs hown.1 xv hx hR n hn hbig fun ao cap w' h1 h2 h3 => by
    obtain ⟨a1, a2, a3⟩ := own_append hown k0 h1 h2 h3
    exact hK ao cap w' a1 a2 a3

theorem wpList_append_mine' (w : World) {ops : Array Oper} {rest : List Oper} {o : Oper} {a : Act} {Q : Exit → Act → World → Prop}
    (hg : o.guard = none) (s x : Operand) (hop : o.op = Op.call { callee := Callee.builtin Builtin.append, args := #[s, x], argTypes := #[27, 27] })
    (w0 : World) (v : Value) (l news : List Tm) (hs : a.eval s = v) (hown : Own w v l w0.heap.size) (k0 : Keeps (fun _ => False) w0 w) (xv : Value) (hx : a.eval x = xv) (hR : Rd w xv news) (n : Nat) (hn : l.length + news.length = n) (hbig : n ≤ 100000)
    (hK : ∀ ao cap w', Own w' (.slice ao n cap) (l ++ news) w0.heap.size → Keeps (fun _ => False) w0 w' → Keeps (fun x => v.ownBlock = some x) w w' → wpList Tryd.prog ops Q rest (a.put o.dst (.slice ao n cap)) w') :
    wpList Tryd.prog ops Q (o :: rest) a w :=
  wpList_append_rd w hg s x hop v l news hs hown.1 xv hx hR n hn hbig fun ao cap w' h1 h2 h3 => by
    obtain ⟨a1, a2, a3⟩ := own_append hown k0 h1 h2 h3
    exact hK ao cap w' a1 a2 a3

/-- An empty slice that was laid. -/
theorem lit_none {w W : World} (h : w.heap.size ≤ W.heap.size) : Own (W.alloc (.cells #[] 31)) (.slice (some ⟨W.heap.size, 0, none⟩) 0 0) [] w.heap.size :=
  ⟨World.ownsRow_lit (base := 0) W #[] 0 (Nat.zero_le _) (Nat.zero_le _) rfl, fun g hg => by simp [Value.ownBlock] at hg; omega⟩

theorem rd_nil (w : World) (a : Option Addr) (c : Nat) : Rd w (.slice a 0 c) [] := ⟨a, c, rfl, .inl rfl⟩
theorem rd_take {w : World} {g c n : Nat} {L : List Tm} (hn : L.length = n) (h : TRow w (.slice (some ⟨g, 0, none⟩) n c) L) (k : Nat) (hk : k ≤ n) (c' : Nat) : Rd w (.slice (some ⟨g, 0, none⟩) k c') (L.take k) := by
  subst hn
  have hl : (L.take k).length = k := by rw [List.length_take]; omega
  refine ⟨some ⟨g, 0, none⟩, c', by rw [hl], .inr ⟨g, 0, rfl, fun j hj => ?_⟩⟩
  rw [hl] at hj
  have e : at_ (L.take k) j = at_ L j := at_eq (by rw [List.getElem?_take_of_lt hj]; exact at_some (by omega))
  rw [e, Nat.zero_add]
  exact ⟨TRow.when h j (by omega), TRow.id h j (by omega)⟩
theorem rd_drop {w : World} {g c n : Nat} {L : List Tm} (hn : L.length = n) (h : TRow w (.slice (some ⟨g, 0, none⟩) n c) L) (k : Nat) (hk : k ≤ n) (c' : Nat) : Rd w (.slice (some ⟨g, k * 2, none⟩) (n - k) c') (L.drop k) := by
  subst hn
  have hl : (L.drop k).length = L.length - k := List.length_drop
  refine ⟨some ⟨g, k * 2, none⟩, c', by rw [hl], .inr ⟨g, k * 2, rfl, fun j hj => ?_⟩⟩
  rw [hl] at hj
  have e : at_ (L.drop k) j = at_ L (k + j) := at_eq (by rw [List.getElem?_drop]; exact at_some (by omega))
  have e1 : k * 2 + j * 2 = (k + j) * 2 := by omega
  rw [e, e1]
  exact ⟨TRow.when h (k + j) (by omega), TRow.id h (k + j) (by omega)⟩
theorem rd_drop_all {w : World} (a : Option Addr) {n : Nat} {L : List Tm} (hn : L.length = n) (k : Nat) (hk : n ≤ k) (c' : Nat) : Rd w (.slice a (n - k) c') (L.drop k) := by
  rw [List.drop_of_length_le (by omega), show n - k = 0 by omega]
  exact rd_nil w a c'
theorem TRow.room {w : World} {a : Option Addr} {n c : Nat} {L : List Tm} (hn : L.length = n) (h : TRow w (.slice a n c) L) : n ≤ c := by
  subst hn
  rcases h.2 with ⟨e, h0⟩ | ⟨g, cap, cur, e, _, _, hnc, _⟩
  · rw [h0]; exact Nat.zero_le _
  · simp only [Value.slice.injEq] at e
    obtain ⟨_, _, rfl⟩ := e
    exact hnc
end Go.Proofs.YtjmkfloaagppdaaDoor
