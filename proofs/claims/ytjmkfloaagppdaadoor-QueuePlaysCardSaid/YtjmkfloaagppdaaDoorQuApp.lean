/-
  append of timers to a row of timers of one's own: at the operation, and as one step of a region that draws.
-/
import Derived.Test.YtjmkfloaagppdaaDoorQuLess
import Derived.Maps.AppendAt
namespace Go.Proofs.YtjmkfloaagppdaaDoor
open Go.RowKit Go.Extern.Stop Go.Stop Go.Extern

theorem info_timer : (Tryd.prog.info? 31).map (fun i => (i.zero, i.size, i.bytes)) = some (some (.agg #[.int .i64 0, .int .i64 0]), 2, 16) := by kernel_rfl

theorem run_append_tms (w : World) (v : Value) (l news : List Tm) (hown : TRow w v l) (ad : Addr) (m c : Nat) (hm : news.length = m) (hnews : ∀ j u, (tmCells news)[j]? = some u → w.cell? (ad.add j) = some u) (n : Nat) (hn : l.length + m = n) (hbig : n ≤ 100000) (ty : TypeId) :
    ∃ ao cap w', (Builtin.append_ #[27, 27] ty #[v, .slice (some ad) m c]).run Tryd.prog w = .ok (.slice ao n cap) w' ∧ TRow w' (.slice ao n cap) (l ++ news) ∧ w.grownBy w' v.ownBlock ∧ ((Value.slice ao n cap).ownBlock = v.ownBlock ∨ (Value.slice ao n cap).ownBlock = some w.heap.size) := by
  subst hm
  obtain ⟨i0, hi, hz0, hz1, hz2⟩ := info_parts info_timer
  obtain ⟨v', w', hr, h2, h3, h4, h5⟩ := run_append_own_at (P := Tryd.prog) w 0 27 ty 31 i0 (.agg #[.int .i64 0, .int .i64 0]) 2 16 Tryd.underlying27 hi hz0 hz1 hz2 rfl (by decide) v l.length (tmCells l) hown ad news.length c (tmCells news) (tmCells_len news) hnews (tmCells_one news) (by unfold maxLen; omega) (by omega) (Nat.zero_le _)
  rw [← tmCells_app] at h2
  have h2' : TRow w' v' (l ++ news) := by
    show World.ownsRow _ _ _ _ _ (l ++ news).length _
    rw [List.length_append]
    exact h2
  obtain ⟨ao, cap, hv, _⟩ := TRow.shape h2'
  rw [List.length_append, hn] at hv
  subst hv
  exact ⟨ao, cap, w', hr, h2', h3, h5⟩

theorem wpList_append_tms (w : World) {ops : Array Oper} {rest : List Oper} {o : Oper} {a : Act} {Q : Exit → Act → World → Prop}
    (hg : o.guard = none) (s x : Operand) (hop : o.op = Op.call { callee := Callee.builtin Builtin.append, args := #[s, x], argTypes := #[27, 27] })
    (v : Value) (l news : List Tm) (hs : a.eval s = v) (hown : TRow w v l) (ad : Addr) (m c : Nat) (hm : news.length = m) (hx : a.eval x = .slice (some ad) m c) (hnews : ∀ j u, (tmCells news)[j]? = some u → w.cell? (ad.add j) = some u) (n : Nat) (hn : l.length + m = n) (hbig : n ≤ 100000)
    (hK : ∀ ao cap w', TRow w' (.slice ao n cap) (l ++ news) → w.grownBy w' v.ownBlock → ((Value.slice ao n cap).ownBlock = v.ownBlock ∨ (Value.slice ao n cap).ownBlock = some w.heap.size) → wpList Tryd.prog ops Q rest (a.put o.dst (.slice ao n cap)) w') :
    wpList Tryd.prog ops Q (o :: rest) a w := by
  refine wpList_plain hg fun K hK' => ?_
  obtain ⟨ao, cap, w', hr, h2, h3, h5⟩ := run_append_tms w v l news hown ad m c hm hnews n hn hbig o.type
  unfold Oper.wp execOp
  simp only [hop, resolve, invoke, builtin, Sem.run_bind, Sem.run_pure, Result.andThen_ok, List.map_toArray, List.map_cons, List.map_nil, hs, hx, hr]
  exact hK' _ _ (hK ao cap w' h2 h3 h5)

theorem step_append_tms {ops : Array Oper} {o : Oper} {a : Act} {w : World} {K : Act → World → Prop} {Q : Exit → Act → World → Prop} {E : Prop}
    (hg : o.guard = none) (s x : Operand) (hop : o.op = Op.call { callee := Callee.builtin Builtin.append, args := #[s, x], argTypes := #[27, 27] })
    (v : Value) (l news : List Tm) (hs : a.eval s = v) (hown : TRow w v l) (ad : Addr) (m c : Nat) (hm : news.length = m) (hx : a.eval x = .slice (some ad) m c) (hnews : ∀ j u, (tmCells news)[j]? = some u → w.cell? (ad.add j) = some u) (n : Nat) (hn : l.length + m = n) (hbig : n ≤ 100000)
    (hK : ∀ ao cap w', TRow w' (.slice ao n cap) (l ++ news) → w.grownBy w' v.ownBlock → ((Value.slice ao n cap).ownBlock = v.ownBlock ∨ (Value.slice ao n cap).ownBlock = some w.heap.size) → K (a.put o.dst (.slice ao n cap)) w') :
    if Region.wanted o (yielded ops a.tmps) = true then Oper.wp Tryd.prog o a w K Q else E := by
  have hw : Region.wanted o (yielded ops a.tmps) = true := by simp [Region.wanted, hg]
  rw [if_pos hw]
  obtain ⟨ao, cap, w', hr, h2, h3, h5⟩ := run_append_tms w v l news hown ad m c hm hnews n hn hbig o.type
  unfold Oper.wp
  simp [execOp, hop, resolve, invoke, builtin, hs, hx, hr, Result.andThen]
  exact hK ao cap w' h2 h3 h5

/-- One timer that was laid in a new block. -/
theorem one_timer {w : World} {b : Nat} {ty : TypeId} {t : Tm} (h : Whole w b ty #[.int .i64 t.1, .int .i64 t.2]) : ∀ j u, (tmCells [t])[j]? = some u → w.cell? ((⟨b, 0, none⟩ : Addr).add j) = some u := by
  intro j u hj
  match j, hj with
  | 0, hj => simp [tmCells] at hj; subst hj; exact h.at_ 0
  | 1, hj => simp [tmCells] at hj; subst hj; exact h.at_ 1
  | j + 2, hj => simp [tmCells] at hj
end Go.Proofs.YtjmkfloaagppdaaDoor
