/-
  Arguments that are slices of kinds and of calls (concordlaw08.Act), as lists; append of what came in, make of empty lists.
-/
import Derived.Test.YtnlogilbiifmiaaDoorMoRow
import Derived.Test.YtnlogilbiifmiaaDoorMoIntL
import Derived.Laws.MakeOwn
namespace Go.Proofs.YtnlogilbiifmiaaDoor
open Go.RowKit Go.Maps Go.Extern.Stop Go.Stop Go.Extern

structure Act8 where
  k : Int
  c : Int
  key : Int
  v : Int

/-- A slice of calls that came in. -/
def Acts8 (w : World) (a : Option Addr) (len cap : Nat) : Prop :=
  (a = none ∧ len = 0 ∧ cap = 0) ∨ ∃ x : Addr, a = some x ∧ len ≤ cap ∧ cap ≤ maxLen ∧ ∀ i, i < len → ∃ k c v n : Int,
    w.cell? (x.add (i * 4 + 0)) = some (.int .i64 k) ∧ w.cell? (x.add (i * 4 + 1)) = some (.int .i64 c) ∧ w.cell? (x.add (i * 4 + 2)) = some (.int .i64 v) ∧ w.cell? (x.add (i * 4 + 3)) = some (.int .i64 n) ∧ (Lit.int .i64 v).wf = true

structure Act8L (w : World) (a : Option Addr) (n cap : Nat) (L : List Act8) : Prop where
  len : L.length = n
  fit : n ≤ cap ∧ cap ≤ maxLen
  at_ : 0 < n → ∃ b o, a = some ⟨b, o, none⟩ ∧ ∀ i x, L[i]? = some x → w.cell? ⟨b, o + i * 4, none⟩ = some (.int .i64 x.k) ∧ w.cell? ⟨b, o + i * 4 + 1, none⟩ = some (.int .i64 x.c) ∧ w.cell? ⟨b, o + i * 4 + 2, none⟩ = some (.int .i64 x.key) ∧ w.cell? ⟨b, o + i * 4 + 3, none⟩ = some (.int .i64 x.v)
  wf : ∀ x ∈ L, (Lit.int .i64 x.key).wf = true

theorem Acts8.list {w : World} {a : Option Addr} {len cap : Nat} (h : Acts8 w a len cap) : ∃ L, Act8L w a len cap L := by
  rcases h with ⟨rfl, rfl, rfl⟩ | ⟨x, rfl, h1, h2, h3⟩
  · exact ⟨[], rfl, ⟨Nat.le_refl _, Nat.zero_le _⟩, fun h => absurd h (Nat.lt_irrefl _), fun x hx => by cases hx⟩
  · have h4 : ∀ i : Nat, ∃ y : Act8, i < len → w.cell? (x.add (i * 4 + 0)) = some (.int .i64 y.k) ∧ w.cell? (x.add (i * 4 + 1)) = some (.int .i64 y.c) ∧ w.cell? (x.add (i * 4 + 2)) = some (.int .i64 y.key) ∧ w.cell? (x.add (i * 4 + 3)) = some (.int .i64 y.v) ∧ (Lit.int .i64 y.key).wf = true := fun i => by
      by_cases hi : i < len
      · obtain ⟨k, c, v, n, e⟩ := h3 i hi
        exact ⟨⟨k, c, v, n⟩, fun _ => e⟩
      · exact ⟨⟨0, 0, 0, 0⟩, fun h => absurd h hi⟩
    have hf := fun i => Classical.choose_spec (h4 i)
    generalize hg : (fun i => Classical.choose (h4 i)) = f
    have hf' : ∀ i, i < len → w.cell? (x.add (i * 4 + 0)) = some (.int .i64 (f i).k) ∧ w.cell? (x.add (i * 4 + 1)) = some (.int .i64 (f i).c) ∧ w.cell? (x.add (i * 4 + 2)) = some (.int .i64 (f i).key) ∧ w.cell? (x.add (i * 4 + 3)) = some (.int .i64 (f i).v) ∧ (Lit.int .i64 (f i).key).wf = true := fun i hi => by
      rw [← hg]; exact hf i hi
    have hat : ∀ i y, ((List.range len).map f)[i]? = some y → i < len ∧ y = f i := fun i y hy => by
      obtain ⟨hi, e⟩ := List.getElem?_eq_some_iff.1 hy
      have hi' : i < len := by simpa using hi
      exact ⟨hi', by rw [← e]; simp⟩
    refine ⟨(List.range len).map f, by simp, ⟨h1, h2⟩, fun h0 => ?_, fun y hy => ?_⟩
    · have h5 := (hf' 0 h0).1
      have hx := spot_none (x := x) (by simpa using h5)
      refine ⟨x.block, x.off, by rw [← hx], fun i y hy => ?_⟩
      obtain ⟨hi, rfl⟩ := hat i y hy
      obtain ⟨q1, q2, q3, q4, _⟩ := hf' i hi
      rw [add_plain x hx] at q1 q2 q3 q4
      exact ⟨q1, by rw [Nat.add_assoc]; exact q2, by rw [Nat.add_assoc]; exact q3, by rw [Nat.add_assoc]; exact q4⟩
    · obtain ⟨i, hi, rfl⟩ := List.mem_map.1 hy
      exact (hf' i (List.mem_range.1 hi)).2.2.2.2


section
variable {α : Type} (K : RK α)

/-- append of what came in, to a row. -/
theorem RK.append_arg (w : World) (v : Value) (l news : List α) (hown : K.Row w v l) (o : Option Addr) (m c : Nat) (hm : news.length = m) (hnews : ∀ ad, o = some ad → ∀ j u, (K.cs news)[j]? = some u → w.cell? (ad.add j) = some u) (h0 : o = none → m = 0) (n : Nat) (hn : l.length + m = n) (hbig : n ≤ 100000) (ty : TypeId) :
    ∃ ao cap w', (Builtin.append_ #[K.T, K.T] ty #[v, .slice o m c]).run Tryd.prog w = .ok (.slice ao n cap) w' ∧ K.Row w' (.slice ao n cap) (l ++ news) ∧ w.grownBy w' v.ownBlock ∧ ((Value.slice ao n cap).ownBlock = v.ownBlock ∨ (Value.slice ao n cap).ownBlock = some w.heap.size) := by
  cases o with
  | some ad => exact K.append w v l news hown ad m c hm (hnews ad rfl) n hn hbig ty
  | none =>
    obtain rfl := h0 rfl
    obtain rfl : news = [] := List.eq_nil_of_length_eq_zero hm
    obtain ⟨o', cv, rfl, _⟩ := row_shape hown
    obtain ⟨i0, hi, hz0, hz1, hz2⟩ := info_parts K.info
    have hle : l.length ≤ cv := by
      rcases hown.2 with ⟨e, h0⟩ | ⟨g, cap, cur, e, _, _, hnc, _⟩
      · rw [h0]; exact Nat.zero_le _
      · simp only [Value.slice.injEq] at e
        obtain ⟨_, _, rfl⟩ := e
        exact hnc
    have e : l.length = n := hn
    subst e
    refine ⟨o', cv, w, ?_, by rw [List.append_nil]; exact hown, ⟨rfl, rfl, rfl, Nat.le_refl _, fun _ _ _ => rfl⟩, .inl rfl⟩
    have hu := K.hu
    cases o' <;> simp [Builtin.append_, run_underlying hu, sizeOf, typeInfo, hi, Builtin.lenOf, Builtin.firstCells, hle, storeCells]

theorem step_append_arg {ops : Array Oper} {o : Oper} {a : Act} {w : World} {K' : Act → World → Prop} {Q : Exit → Act → World → Prop} {E : Prop}
    (hg : o.guard = none) (s x : Operand) (hop : o.op = Op.call { callee := Callee.builtin Builtin.append, args := #[s, x], argTypes := #[K.T, K.T] })
    (w0 : World) (v : Value) (l news : List α) (hs : a.eval s = v) (hown : Mine K w0 w v l) (k0 : Keeps (fun _ => False) w0 w) (xo : Option Addr) (m c : Nat) (hx : a.eval x = .slice xo m c) (hm : news.length = m) (hnews : ∀ ad, xo = some ad → ∀ j u, (K.cs news)[j]? = some u → w.cell? (ad.add j) = some u) (h0 : xo = none → m = 0) (n : Nat) (hn : l.length + m = n) (hbig : n ≤ 100000)
    (hK : ∀ ao cap w', Mine K w0 w' (.slice ao n cap) (l ++ news) → Keeps (fun _ => False) w0 w' → Keeps (fun x => v.ownBlock = some x) w w' → K' (a.put o.dst (.slice ao n cap)) w') :
    if Region.wanted o (yielded ops a.tmps) = true then Oper.wp Tryd.prog o a w K' Q else E := by
  have hw : Region.wanted o (yielded ops a.tmps) = true := by simp [Region.wanted, hg]
  rw [if_pos hw]
  obtain ⟨ao, cap, w', hr, h2, h3, h5⟩ := K.append_arg w v l news hown.1 xo m c hm hnews h0 n hn hbig o.type
  have kk : Keeps (fun x => v.ownBlock = some x) w w' := (Keeps.refl _ w).grown h3 fun k hk _ => hk
  unfold Oper.wp
  simp [execOp, hop, resolve, invoke, builtin, hs, hx, hr, Result.andThen]
  refine hK ao cap w' ⟨h2, fun g hg => ?_⟩ (k0.trans kk fun x hx e => absurd hx (Nat.not_lt.2 (hown.2 x e))) kk
  rcases h5 with e | e
  · exact hown.2 g (by rw [← e]; exact hg)
  · rw [e] at hg
    injection hg with hg
    rw [← hg]
    exact k0.size
end

/-- make of empty lists. -/
def nilCells (n : Nat) : Array Value := madeCells (Value.slice none 0 0).cells (n * 1)
theorem make_lists (n : Nat) (hn : n ≤ 100000) (w : World) :
    (Instr.makeSlice 57 (.int .i64 (n : Int)) (.int .i64 (n : Int))).run Tryd.prog w = .ok (.slice (some ⟨w.heap.size, 0, none⟩) n n) (w.alloc (.cells (nilCells n) 45)) := by
  obtain ⟨i, hi, hz, hs, hb⟩ := info_parts listK.info
  have hr := run_make (P := Tryd.prog) w listK.T listK.e i _ listK.hu hi hz .i64 .i64 n n (by omega) (Int.le_refl _) (by
    rw [hb]
    show ((24 : Nat) : Int) * (n : Int) ≤ _
    omega) (by omega)
  simp only [Int.toNat_natCast, hs] at hr
  exact hr
theorem nil_row {w : World} {b n : Nat} (hn : n ≤ 100000) (h : Whole w b 45 (nilCells n)) : listK.Row w (.slice (some ⟨b, 0, none⟩) n n) (List.replicate n (none, 0, 0)) := by
  refine ⟨by rw [listK.len], .inr ⟨b, n, _, by rw [List.length_replicate], Nat.zero_le _, h, by rw [List.length_replicate]; exact Nat.le_refl _, by unfold maxLen; omega, by unfold nilCells; rw [size_madeCells]; rfl, ?_⟩⟩
  have hsz : (nilCells n).toList.length = n := by unfold nilCells; rw [Array.length_toList, size_madeCells, Nat.mul_one]
  rw [List.length_replicate, List.take_of_length_le (by rw [hsz]; show n ≤ n * 1; omega)]
  refine List.ext_getElem (by rw [hsz, listK.len, List.length_replicate]; show n = n * 1; omega) fun i h1 h2 => ?_
  have e1 : (nilCells n).toList[i] = .slice none 0 0 := by
    unfold nilCells madeCells
    simp [Value.cells, Nat.mod_one]
  have e2 : (listK.cs (List.replicate n ((none, 0, 0) : Sl8)))[i] = .slice none 0 0 := by
    show (List.map slv8 (List.replicate n (none, 0, 0)))[i]'(h2) = _
    simp [slv8]
  rw [e1, e2]
end Go.Proofs.YtnlogilbiifmiaaDoor
