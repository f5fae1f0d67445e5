/-
  append of what came in, to a row of one's own: as one step of a region that draws, and at the operation.
-/
import Derived.Test.YtpmbkeaimdeglaaDoorRkRows
namespace Go.Proofs.YtpmbkeaimdeglaaDoor
open Go.RowKit Go.Maps Go.Extern.Stop Go.Stop Go.Extern

section
variable {α : Type} (K : RK α)

/-- append of what came in, to a row. -/
theorem RK.append_arg (w : World) (v : Value) (l news : List α) (hown : K.Row w v l) (o : Option Addr) (m c : Nat) (hm : news.length = m) (hnews : ∀ ad, o = some ad → ∀ j u, (K.cs news)[j]? = some u → w.cell? (ad.add j) = some u) (h0 : o = none → m = 0) (n : Nat) (hn : l.length + m = n) (hbig : n ≤ 100000) (ty : TypeId) :
    ∃ ao cap w', (Builtin.append_ #[K.T, K.T] ty #[v, .slice o m c]).run Tryd.prog w = .ok (.slice ao n cap) w' ∧ K.Row w' (.slice ao n cap) (l ++ news) ∧ w.grownBy w' v.ownBlock ∧ ((Value.slice ao n cap).ownBlock = v.ownBlock ∨ (Value.slice ao n cap).ownBlock = some w.heap.size) := by
  cases o with
  | some ad => exact K.append w v l news hown ad m c hm (hnews ad rfl) n hn hbig ty
  | none =>
    obtain rfl := h0 rfl
    obtain rfl : news = [] := List.eq_nil_of_length_eq_zero hm
    obtain ⟨o', cv, rfl, _⟩ := row_shape hown
    obtain ⟨i0, hi, hz0, hz1, hz2⟩ := info_parts K.info
    have hle : l.length ≤ cv := by
      rcases hown.2 with ⟨e, h0⟩ | ⟨g, cap, cur, e, _, _, hnc, _⟩
      · rw [h0]; exact Nat.zero_le _
      · simp only [Value.slice.injEq] at e
        obtain ⟨_, _, rfl⟩ := e
        exact hnc
    have e : l.length = n := hn
    subst e
    refine ⟨o', cv, w, ?_, by rw [List.append_nil]; exact hown, ⟨rfl, rfl, rfl, Nat.le_refl _, fun _ _ _ => rfl⟩, .inl rfl⟩
    have hu := K.hu
    cases o' <;> simp [Builtin.append_, run_underlying hu, sizeOf, typeInfo, hi, Builtin.lenOf, Builtin.firstCells, hle, storeCells]

theorem step_append_arg {ops : Array Oper} {o : Oper} {a : Act} {w : World} {K' : Act → World → Prop} {Q : Exit → Act → World → Prop} {E : Prop}
    (hg : o.guard = none) (s x : Operand) (hop : o.op = Op.call { callee := Callee.builtin Builtin.append, args := #[s, x], argTypes := #[K.T, K.T] })
    (w0 : World) (v : Value) (l news : List α) (hs : a.eval s = v) (hown : Mine K w0 w v l) (k0 : Keeps (fun _ => False) w0 w) (xo : Option Addr) (m c : Nat) (hx : a.eval x = .slice xo m c) (hm : news.length = m) (hnews : ∀ ad, xo = some ad → ∀ j u, (K.cs news)[j]? = some u → w.cell? (ad.add j) = some u) (h0 : xo = none → m = 0) (n : Nat) (hn : l.length + m = n) (hbig : n ≤ 100000)
    (hK : ∀ ao cap w', Mine K w0 w' (.slice ao n cap) (l ++ news) → Keeps (fun _ => False) w0 w' → Keeps (fun x => v.ownBlock = some x) w w' → K' (a.put o.dst (.slice ao n cap)) w') :
    if Region.wanted o (yielded ops a.tmps) = true then Oper.wp Tryd.prog o a w K' Q else E := by
  have hw : Region.wanted o (yielded ops a.tmps) = true := by simp [Region.wanted, hg]
  rw [if_pos hw]
  obtain ⟨ao, cap, w', hr, h2, h3, h5⟩ := K.append_arg w v l news hown.1 xo m c hm hnews h0 n hn hbig o.type
  have kk : Keeps (fun x => v.ownBlock = some x) w w' := (Keeps.refl _ w).grown h3 fun k hk _ => hk
  unfold Oper.wp
  simp [execOp, hop, resolve, invoke, builtin, hs, hx, hr, Result.andThen]
  refine hK ao cap w' ⟨h2, fun g hg => ?_⟩ (k0.trans kk fun x hx e => absurd hx (Nat.not_lt.2 (hown.2 x e))) kk
  rcases h5 with e | e
  · exact hown.2 g (by rw [← e]; exact hg)
  · rw [e] at hg
    injection hg with hg
    rw [← hg]
    exact k0.size
end

theorem wpList_append_arg {α : Type} (K : RK α) {ops : Array Oper} {rest : List Oper} {o : Oper} {a : Act} {w : World} {Q : Exit → Act → World → Prop}
    (hg : o.guard = none) (s x : Operand) (hop : o.op = Op.call { callee := Callee.builtin Builtin.append, args := #[s, x], argTypes := #[K.T, K.T] })
    (w0 : World) (v : Value) (l news : List α) (hs : a.eval s = v) (hown : Mine K w0 w v l) (k0 : Keeps (fun _ => False) w0 w) (xo : Option Addr) (m c : Nat) (hx : a.eval x = .slice xo m c) (hm : news.length = m) (hnews : ∀ ad, xo = some ad → ∀ j u, (K.cs news)[j]? = some u → w.cell? (ad.add j) = some u) (h0 : xo = none → m = 0) (n : Nat) (hn : l.length + m = n) (hbig : n ≤ 100000)
    (hK : ∀ ao cap w', Mine K w0 w' (.slice ao n cap) (l ++ news) → Keeps (fun _ => False) w0 w' → Keeps (fun x => v.ownBlock = some x) w w' → wpList Tryd.prog ops Q rest (a.put o.dst (.slice ao n cap)) w') :
    wpList Tryd.prog ops Q (o :: rest) a w := by
  refine wpList_plain hg fun K' hK' => ?_
  obtain ⟨ao, cap, w', hr, h2, h3, h5⟩ := K.append_arg w v l news hown.1 xo m c hm hnews h0 n hn hbig o.type
  have kk : Keeps (fun x => v.ownBlock = some x) w w' := (Keeps.refl _ w).grown h3 fun k hk _ => hk
  unfold Oper.wp
  simp [execOp, hop, resolve, invoke, builtin, hs, hx, hr, Result.andThen]
  refine hK' _ _ (hK ao cap w' ⟨h2, fun g hg => ?_⟩ (k0.trans kk fun x hx e => absurd hx (Nat.not_lt.2 (hown.2 x e))) kk)
  rcases h5 with e | e
  · exact hown.2 g (by rw [← e]; exact hg)
  · rw [e] at hg
    injection hg with hg
    rw [← hg]
    exact k0.size
end Go.Proofs.YtpmbkeaimdeglaaDoor
