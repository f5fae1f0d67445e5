/-
  What stays of maps and rows; rows of one's own, whatever they hold, as lists ('RK': how a list is told by cells): append, at the operation and as one step of a region that draws; make and copy. (Cut out of the texts of sets, StMem and StRows.)
  Rows of ints.
  Rows of the layer of collections: pairs, ints.
  An argument that is a slice of kinds, as a list.
  append of what came in, to a row of one's own: as one step of a region that draws, and at the operation.
-/
import Derived.Test.YthidipigpfcbbaaGreatDoorPgPlain
import Derived.Test.YthidipigpfcbbaaGreatDoorProg
import Derived.Test.YthidipigpfcbbaaGreatDoorBkArgs
import Derived.Laws.AppendOwn
import Derived.Maps.AppendAt
import Derived.LoopTactic
import Derived.WalkKit
import Derived.BigGuard
import Derived.BigCall
import Derived.CellFam
import Derived.Deep.Draws
import Derived.Deep.QuietTactic
import Derived.BigQuiet
import Derived.Lib.Hide

namespace Go.Proofs.YthidipigpfcbbaaGreatDoor
open Go.RowKit Go.Maps Go.Extern.Stop Go.Stop Go.Extern

/-! ### what stays -/
theorem HoldsM.keeps {V : Type} {P : Program} {K : TypeId} {E : Enc V} {w w' : World} {b : Nat} {f : Int → Option V} {S : Nat → Prop} (h : HoldsM P K E w b f) (k : Keeps S w w') (hS : ¬ S b) : HoldsM P K E w' b f :=
  h.of_block (k.block b h.lt hS)
theorem ownsRow_keeps {w w' : World} {base : Nat} {e : TypeId} {size : Nat} {v : Value} {n : Nat} {xs : List Value} {S : Nat → Prop} (h : w.ownsRow base e size v n xs) (k : Keeps S w w') (hS : ∀ g, v.ownBlock = some g → ¬ S g) : w'.ownsRow base e size v n xs := by
  refine ⟨h.1, ?_⟩
  rcases h.2 with hn | ⟨g, cap, cur, rfl, hb, hgg, rest⟩
  · exact .inl hn
  · exact .inr ⟨g, cap, cur, rfl, hb, (k.block g (lt_of_block hgg) (hS g rfl)).trans hgg, rest⟩
theorem Whole.ne_map {V : Type} {P : Program} {K : TypeId} {E : Enc V} {w : World} {b g : Nat} {t : TypeId} {cs : Array Value} {f : Int → Option V} (h : Whole w g t cs) (h' : HoldsM P K E w b f) : g ≠ b := by
  rintro rfl
  obtain ⟨D, n, ⟨es, clock, hb, _⟩, _⟩ := h'
  unfold Whole at h
  rw [h] at hb
  cases hb
theorem row_whole {w : World} {base : Nat} {e : TypeId} {size : Nat} {v : Value} {n g : Nat} {xs : List Value} (h : w.ownsRow base e size v n xs) (hg : v.ownBlock = some g) : ∃ cs, Whole w g e cs := by
  rcases h.2 with ⟨rfl, _⟩ | ⟨g', cap, cur, rfl, _, hh, _⟩
  · simp [Value.ownBlock] at hg
  · obtain rfl : g' = g := by simpa [Value.ownBlock] using hg
    exact ⟨cur, hh⟩
theorem row_ne {w : World} {base : Nat} {e : TypeId} {size : Nat} {v : Value} {n : Nat} {xs : List Value} {g : Nat} {t : TypeId} {cs : Array Value} (h : w.ownsRow base e size v n xs) (hg : Whole w g t cs) (hne : e ≠ t) : ¬ v.ownBlock = some g := by
  intro he
  obtain ⟨c, hc⟩ := row_whole h he
  exact Whole.ne_ (t := e) hc hg hne rfl
theorem row_ne_row {w : World} {base base' : Nat} {e e' : TypeId} {size size' : Nat} {v v' : Value} {n n' : Nat} {xs xs' : List Value} (h : w.ownsRow base e size v n xs) (h' : w.ownsRow base' e' size' v' n' xs') (hne : e ≠ e') {g : Nat} (hg : v.ownBlock = some g) : ¬ v'.ownBlock = some g := by
  intro he
  obtain ⟨c, hc⟩ := row_whole h hg
  exact row_ne h' hc (fun e => hne e.symm) he
theorem row_ne_map {V : Type} {P : Program} {K : TypeId} {E : Enc V} {w : World} {base b : Nat} {e : TypeId} {size : Nat} {v : Value} {n : Nat} {xs : List Value} {f : Int → Option V} (h : w.ownsRow base e size v n xs) (h' : HoldsM P K E w b f) : ¬ v.ownBlock = some b := by
  intro he
  obtain ⟨c, hc⟩ := row_whole h he
  exact hc.ne_map h' rfl
/-- The shape of a row's slice. -/
theorem row_shape {w : World} {base : Nat} {e : TypeId} {size : Nat} {v : Value} {n : Nat} {xs : List Value} (h : w.ownsRow base e size v n xs) : ∃ o c, v = .slice o n c ∧ (0 < n → ∃ g, o = some ⟨g, 0, none⟩) := by
  rcases h.2 with ⟨hv, hn⟩ | ⟨g, cap, cur, hv, _⟩
  · exact ⟨_, _, by rw [hn]; exact hv, fun h => by omega⟩
  · exact ⟨_, _, hv, fun _ => ⟨g, rfl⟩⟩
theorem Keeps.of_grown {w w' : World} {b : Nat} (h : w.grownBy w' (some b)) : Keeps (fun x => x = b) w w' :=
  (Keeps.refl (fun x => x = b) w).grown h fun _ hk _ => (Option.some.inj hk).symm

/-- How rows of a type hold lists. -/
structure RK (α : Type) where
  T : TypeId
  e : TypeId
  size : Nat
  bytes : Nat
  z : Value
  cs : List α → List Value
  app : ∀ l m, cs (l ++ m) = cs l ++ cs m
  len : ∀ l, (cs l).length = l.length * size
  one : ∀ l, ∀ u ∈ cs l, u.oneCell' = true
  hu : Tryz.prog.underlying T = some (.slice e)
  info : (Tryz.prog.info? e).map (fun i => (i.zero, i.size, i.bytes)) = some (some z, size, bytes)
  zs : z.cells.size = size
  pos : 0 < size
  few : bytes ≤ 1000

/-- A slice of one's own that holds l. -/
abbrev RK.Row {α : Type} (K : RK α) (w : World) (v : Value) (l : List α) : Prop := w.ownsRow 0 K.e K.size v l.length (K.cs l)

section
variable {α : Type} (K : RK α)

theorem RK.append (w : World) (v : Value) (l news : List α) (hown : K.Row w v l) (ad : Addr) (m c : Nat) (hm : news.length = m) (hnews : ∀ j u, (K.cs news)[j]? = some u → w.cell? (ad.add j) = some u) (n : Nat) (hn : l.length + m = n) (hbig : n ≤ 1000000) (ty : TypeId) :
    ∃ ao cap w', (Builtin.append_ #[K.T, K.T] ty #[v, .slice (some ad) m c]).run Tryz.prog w = .ok (.slice ao n cap) w' ∧ K.Row w' (.slice ao n cap) (l ++ news) ∧ w.grownBy w' v.ownBlock ∧ ((Value.slice ao n cap).ownBlock = v.ownBlock ∨ (Value.slice ao n cap).ownBlock = some w.heap.size) := by
  subst hm
  obtain ⟨i0, hi, hz0, hz1, hz2⟩ := info_parts K.info
  have hb := K.few
  obtain ⟨v', w', hr, h2, h3, h4, h5⟩ := run_append_own_at (P := Tryz.prog) w 0 K.T ty K.e i0 K.z K.size K.bytes K.hu hi hz0 hz1 hz2 K.zs K.pos v l.length (K.cs l) hown ad news.length c (K.cs news) (K.len news) hnews (K.one news) (by unfold maxLen; omega) (by
    rw [hn]
    exact Nat.le_trans (Nat.mul_le_mul hbig hb) (by decide)) (Nat.zero_le _)
  rw [← K.app] at h2
  have h2' : K.Row w' v' (l ++ news) := by
    show World.ownsRow _ _ _ _ _ (l ++ news).length _
    rw [List.length_append]
    exact h2
  obtain ⟨ao, cap, hv, _⟩ := row_shape h2'
  rw [List.length_append, hn] at hv
  subst hv
  exact ⟨ao, cap, w', hr, h2', h3, h5⟩

theorem wpList_append_k (w : World) {ops : Array Oper} {rest : List Oper} {o : Oper} {a : Act} {Q : Exit → Act → World → Prop}
    (hg : o.guard = none) (s x : Operand) (hop : o.op = Op.call { callee := Callee.builtin Builtin.append, args := #[s, x], argTypes := #[K.T, K.T] })
    (v : Value) (l news : List α) (hs : a.eval s = v) (hown : K.Row w v l) (ad : Addr) (m c : Nat) (hm : news.length = m) (hx : a.eval x = .slice (some ad) m c) (hnews : ∀ j u, (K.cs news)[j]? = some u → w.cell? (ad.add j) = some u) (n : Nat) (hn : l.length + m = n) (hbig : n ≤ 1000000)
    (hK : ∀ ao cap w', K.Row w' (.slice ao n cap) (l ++ news) → w.grownBy w' v.ownBlock → ((Value.slice ao n cap).ownBlock = v.ownBlock ∨ (Value.slice ao n cap).ownBlock = some w.heap.size) → wpList Tryz.prog ops Q rest (a.put o.dst (.slice ao n cap)) w') :
    wpList Tryz.prog ops Q (o :: rest) a w := by
  refine wpList_plain hg fun K' hK' => ?_
  obtain ⟨ao, cap, w', hr, h2, h3, h5⟩ := K.append w v l news hown ad m c hm hnews n hn hbig o.type
  unfold Oper.wp execOp
  simp only [hop, resolve, invoke, builtin, Sem.run_bind, Sem.run_pure, Result.andThen_ok, List.map_toArray, List.map_cons, List.map_nil, hs, hx, hr]
  exact hK' _ _ (hK ao cap w' h2 h3 h5)

theorem step_append_k {ops : Array Oper} {o : Oper} {a : Act} {w : World} {K' : Act → World → Prop} {Q : Exit → Act → World → Prop} {E : Prop}
    (hg : o.guard = none) (s x : Operand) (hop : o.op = Op.call { callee := Callee.builtin Builtin.append, args := #[s, x], argTypes := #[K.T, K.T] })
    (v : Value) (l news : List α) (hs : a.eval s = v) (hown : K.Row w v l) (ad : Addr) (m c : Nat) (hm : news.length = m) (hx : a.eval x = .slice (some ad) m c) (hnews : ∀ j u, (K.cs news)[j]? = some u → w.cell? (ad.add j) = some u) (n : Nat) (hn : l.length + m = n) (hbig : n ≤ 1000000)
    (hK : ∀ ao cap w', K.Row w' (.slice ao n cap) (l ++ news) → w.grownBy w' v.ownBlock → ((Value.slice ao n cap).ownBlock = v.ownBlock ∨ (Value.slice ao n cap).ownBlock = some w.heap.size) → K' (a.put o.dst (.slice ao n cap)) w') :
    if Region.wanted o (yielded ops a.tmps) = true then Oper.wp Tryz.prog o a w K' Q else E := by
  have hw : Region.wanted o (yielded ops a.tmps) = true := by simp [Region.wanted, hg]
  rw [if_pos hw]
  obtain ⟨ao, cap, w', hr, h2, h3, h5⟩ := K.append w v l news hown ad m c hm hnews n hn hbig o.type
  unfold Oper.wp
  simp [execOp, hop, resolve, invoke, builtin, hs, hx, hr, Result.andThen]
  exact hK ao cap w' h2 h3 h5

/-- make, as long as what is there. -/
theorem RK.make (n : Nat) (hn : n ≤ 1000000) (w : World) :
    ∃ cur, cur.size = n * K.size ∧ (Instr.makeSlice K.T (.int .i64 (n : Int)) (.int .i64 (n : Int))).run Tryz.prog w = .ok (.slice (some ⟨w.heap.size, 0, none⟩) n n) (w.alloc (.cells cur K.e)) := by
  obtain ⟨i, hi, hz, hs, hb⟩ := info_parts K.info
  have hf := K.few
  have hr := run_make (P := Tryz.prog) w K.T K.e i _ K.hu hi hz .i64 .i64 n n (by omega) (Int.le_refl _) (by
    rw [hb]
    have h1 : K.bytes * n ≤ 1000 * 1000000 := Nat.mul_le_mul hf hn
    have h2 : (K.bytes : Int) * (n : Int) = ((K.bytes * n : Nat) : Int) := by simp
    rw [h2]
    omega) (by omega)
  simp only [Int.toNat_natCast, hs] at hr
  exact ⟨_, by simp [madeCells, K.zs], hr⟩

theorem RK.copy (w : World) (g bw n c : Nat) (cur : Array Value) (t ty : TypeId) (l : List α) (hlen : l.length = n) (hg : w.heap[g]? = some (.cells cur t (0, 0))) (hcur : cur.size = n * K.size) (h : K.Row w (.slice (some ⟨bw, 0, none⟩) n c) l) :
    (Builtin.copy_ #[K.T, K.T] ty #[.slice (some ⟨g, 0, none⟩) n n, .slice (some ⟨bw, 0, none⟩) n c]).run Tryz.prog w = .ok (.int .i64 (n : Int)) (w.setRow g (K.cs l).toArray) := by
  obtain ⟨i, hi, hz, hs, hb⟩ := info_parts K.info
  have hsrc : ∀ j v, (K.cs l)[j]? = some v → w.cell? ((⟨bw, 0, none⟩ : Addr).add j) = some v := fun j v hv => World.ownsRow.cells h rfl j v hv
  have hl := run_loadCells_list (P := Tryz.prog) w ⟨bw, 0, none⟩ (K.cs l) hsrc
  have hst := run_storeCells_at Tryz.prog g 0 t (K.cs l) 0 cur w hg (by rw [K.len, hlen, hcur]; omega) (K.one l)
  have he : (K.cs l).length = n * K.size := by rw [K.len, hlen]
  rw [he] at hl
  simp [Builtin.copy_, run_underlying K.hu, Builtin.lenOf, Builtin.firstCells, sizeOf, typeInfo, hi, hs, hl, hst]
  exact ⟨rfl, by rw [List.drop_eq_nil_of_le (by rw [he, ← hcur]; simp), List.append_nil]⟩

theorem RK.copy0 (w : World) (a : Addr) (o : Option Addr) (c : Nat) (ty : TypeId) :
    (Builtin.copy_ #[K.T, K.T] ty #[.slice (some a) 0 0, .slice o 0 c]).run Tryz.prog w = .ok (.int .i64 0) w := by
  obtain ⟨i, hi, hz, hs, hb⟩ := info_parts K.info
  have hl : ∀ x : Addr, (loadCells x 0).run Tryz.prog w = .ok #[] w := fun x => by simpa using run_loadCells_list (P := Tryz.prog) w x [] (fun j v h => by simp at h)
  cases o <;> simp [Builtin.copy_, run_underlying K.hu, Builtin.lenOf, Builtin.firstCells, sizeOf, typeInfo, hi, hl, storeCells, goInt]
end

section
variable {α : Type} (K : RK α)

/-- append of what is in a row, to a row. -/
theorem RK.append_row (w : World) (v : Value) (l news : List α) (hown : K.Row w v l) (x : Value) (hR : K.Row w x news) (n : Nat) (hn : l.length + news.length = n) (hbig : n ≤ 1000000) (ty : TypeId) :
    ∃ ao cap w', (Builtin.append_ #[K.T, K.T] ty #[v, x]).run Tryz.prog w = .ok (.slice ao n cap) w' ∧ K.Row w' (.slice ao n cap) (l ++ news) ∧ w.grownBy w' v.ownBlock ∧ ((Value.slice ao n cap).ownBlock = v.ownBlock ∨ (Value.slice ao n cap).ownBlock = some w.heap.size) := by
  obtain ⟨o, c, rfl, ho⟩ := row_shape hR
  rcases Nat.eq_zero_or_pos news.length with h0 | h0
  · obtain rfl : news = [] := List.eq_nil_of_length_eq_zero h0
    cases o with
    | some ad => exact K.append w v l [] hown ad 0 c rfl (fun j u hj => by rw [show K.cs [] = [] from List.eq_nil_of_length_eq_zero (by rw [K.len]; simp)] at hj; simp at hj) n hn hbig ty
    | none =>
      obtain ⟨o', cv, rfl, _⟩ := row_shape hown
      obtain ⟨i0, hi, hz0, hz1, hz2⟩ := info_parts K.info
      have hle : l.length ≤ cv := by
        rcases hown.2 with ⟨e, h0⟩ | ⟨g, cap, cur, e, _, _, hnc, _⟩
        · rw [h0]; exact Nat.zero_le _
        · simp only [Value.slice.injEq] at e
          obtain ⟨_, _, rfl⟩ := e
          exact hnc
      have e : l.length = n := hn
      subst e
      refine ⟨o', cv, w, ?_, by rw [List.append_nil]; exact hown, ⟨rfl, rfl, rfl, Nat.le_refl _, fun _ _ _ => rfl⟩, .inl rfl⟩
      have hu := K.hu
      cases o' <;> simp [Builtin.append_, run_underlying hu, sizeOf, typeInfo, hi, Builtin.lenOf, Builtin.firstCells, hle, storeCells]
  · obtain ⟨g, rfl⟩ := ho h0
    exact K.append w v l news hown ⟨g, 0, none⟩ news.length c rfl (fun j u hj => World.ownsRow.cells hR rfl j u hj) n hn hbig ty

/-- A row that was made since w0. -/
def Mine (w0 w : World) (v : Value) (l : List α) : Prop := K.Row w v l ∧ ∀ g, v.ownBlock = some g → w0.heap.size ≤ g

variable {K}
theorem Mine.same {w0 w w' : World} {v : Value} {l : List α} (h : Mine K w0 w v l) (k : Keeps (fun _ => False) w w') : Mine K w0 w' v l := ⟨ownsRow_keeps h.1 k fun _ _ => id, h.2⟩
variable (K)

theorem step_append_f {ops : Array Oper} {o : Oper} {a : Act} {w : World} {K' : Act → World → Prop} {Q : Exit → Act → World → Prop} {E : Prop}
    (hg : o.guard = none) (s x : Operand) (hop : o.op = Op.call { callee := Callee.builtin Builtin.append, args := #[s, x], argTypes := #[K.T, K.T] })
    (w0 : World) (v : Value) (l news : List α) (hs : a.eval s = v) (hown : Mine K w0 w v l) (k0 : Keeps (fun _ => False) w0 w) (xv : Value) (hx : a.eval x = xv) (hR : K.Row w xv news) (n : Nat) (hn : l.length + news.length = n) (hbig : n ≤ 1000000)
    (hK : ∀ ao cap w', Mine K w0 w' (.slice ao n cap) (l ++ news) → Keeps (fun _ => False) w0 w' → Keeps (fun x => v.ownBlock = some x) w w' → K' (a.put o.dst (.slice ao n cap)) w') :
    if Region.wanted o (yielded ops a.tmps) = true then Oper.wp Tryz.prog o a w K' Q else E := by
  have hw : Region.wanted o (yielded ops a.tmps) = true := by simp [Region.wanted, hg]
  rw [if_pos hw]
  obtain ⟨ao, cap, w', hr, h2, h3, h5⟩ := K.append_row w v l news hown.1 xv hR n hn hbig o.type
  have kk : Keeps (fun x => v.ownBlock = some x) w w' := (Keeps.refl _ w).grown h3 fun k hk _ => hk
  unfold Oper.wp
  simp [execOp, hop, resolve, invoke, builtin, hs, hx, hr, Result.andThen]
  refine hK ao cap w' ⟨h2, fun g hg => ?_⟩ (k0.trans kk fun x hx e => absurd hx (Nat.not_lt.2 (hown.2 x e))) kk
  rcases h5 with e | e
  · exact hown.2 g (by rw [← e]; exact hg)
  · rw [e] at hg
    injection hg with hg
    rw [← hg]
    exact k0.size
theorem wpList_append_row {ops : Array Oper} {rest : List Oper} {o : Oper} {a : Act} {w : World} {Q : Exit → Act → World → Prop}
    (hg : o.guard = none) (s x : Operand) (hop : o.op = Op.call { callee := Callee.builtin Builtin.append, args := #[s, x], argTypes := #[K.T, K.T] })
    (w0 : World) (v : Value) (l news : List α) (hs : a.eval s = v) (hown : Mine K w0 w v l) (k0 : Keeps (fun _ => False) w0 w) (xv : Value) (hx : a.eval x = xv) (hR : K.Row w xv news) (n : Nat) (hn : l.length + news.length = n) (hbig : n ≤ 1000000)
    (hK : ∀ ao cap w', Mine K w0 w' (.slice ao n cap) (l ++ news) → Keeps (fun _ => False) w0 w' → Keeps (fun x => v.ownBlock = some x) w w' → wpList Tryz.prog ops Q rest (a.put o.dst (.slice ao n cap)) w') :
    wpList Tryz.prog ops Q (o :: rest) a w := by
  refine wpList_plain hg fun K' hK' => ?_
  obtain ⟨ao, cap, w', hr, h2, h3, h5⟩ := K.append_row w v l news hown.1 xv hR n hn hbig o.type
  have kk : Keeps (fun x => v.ownBlock = some x) w w' := (Keeps.refl _ w).grown h3 fun k hk _ => hk
  unfold Oper.wp
  simp [execOp, hop, resolve, invoke, builtin, hs, hx, hr, Result.andThen]
  refine hK' _ _ (hK ao cap w' ⟨h2, fun g hg => ?_⟩ (k0.trans kk fun x hx e => absurd hx (Nat.not_lt.2 (hown.2 x e))) kk)
  rcases h5 with e | e
  · exact hown.2 g (by rw [← e]; exact hg)
  · rw [e] at hg
    injection hg with hg
    rw [← hg]
    exact k0.size
end

theorem one_cell_new {w : World} {b : Nat} {ty : TypeId} {v : Value} (h : Whole w b ty #[v]) : ∀ j u, ([v] : List Value)[j]? = some u → w.cell? ((⟨b, 0, none⟩ : Addr).add j) = some u := by
  intro j u hj
  match j, hj with
  | 0, hj => simp at hj; subst hj; exact h.at_ 0
  | j + 1, hj => simp at hj
theorem mine_some {α : Type} {K : RK α} {w0 w : World} {ao : Option Addr} {n c : Nat} {l : List α} (h : Mine K w0 w (.slice ao n c) l) (hl : l.length = n) (h0 : 0 < n) : ∃ g, ao = some ⟨g, 0, none⟩ ∧ w0.heap.size ≤ g := by
  obtain ⟨o, c', e, ho⟩ := row_shape h.1
  injection e with e1 e2 e3
  obtain ⟨g, hg⟩ := ho (by omega)
  subst e1
  subst hg
  exact ⟨g, rfl, h.2 g rfl⟩
theorem mine_cell {α : Type} {K : RK α} {w0 w : World} {g n c : Nat} {l : List α} (h : Mine K w0 w (.slice (some ⟨g, 0, none⟩) n c) l) (hl : l.length = n) (k : Nat) (hk : k < n * K.size) : w.cell? ⟨g, k, none⟩ = (K.cs l)[k]? ∧ w.frozen? ⟨g, k, none⟩ = false := by
  subst hl
  exact ⟨World.ownsRow.cellAt h.1 k hk, World.ownsRow.frozenAt h.1 k⟩
/-- A row of nothing that was laid in a new block. -/
theorem row_none {α : Type} (K : RK α) {w : World} {b : Nat} (h : Whole w b K.e #[]) (hc : K.cs [] = []) : K.Row w (.slice (some ⟨b, 0, none⟩) 0 0) [] :=
  ⟨by rw [hc]; simp, .inr ⟨b, 0, _, rfl, Nat.zero_le _, h, Nat.le_refl _, Nat.zero_le _, by simp, by rw [hc]; simp⟩⟩
end Go.Proofs.YthidipigpfcbbaaGreatDoor

namespace Go.Proofs.YthidipigpfcbbaaGreatDoor
open Go.RowKit Go.Maps Go.Extern.Stop Go.Stop Go.Extern

def intK : RK Int where
  T := 22
  e := 3
  size := 1
  bytes := 8
  z := .int .i64 0
  cs := fun l => l.map fun x => .int .i64 x
  app := fun l m => by simp
  len := fun l => by simp
  one := fun l u hu => by obtain ⟨b, _, rfl⟩ := List.mem_map.1 hu; rfl
  hu := Tryz.underlying22
  info := by kernel_rfl
  zs := rfl
  pos := by decide
  few := by decide
/-- A row that is laid whole. -/
theorem row_of {α : Type} (K : RK α) {w : World} {g n : Nat} {l : List α} (h : Whole w g K.e (K.cs l).toArray) (hn : l.length = n) (few : n ≤ 1000000) : K.Row w (.slice (some ⟨g, 0, none⟩) n n) l := by
  subst hn
  refine ⟨by rw [K.len], .inr ⟨g, l.length, _, rfl, Nat.zero_le _, h, Nat.le_refl _, by unfold maxLen; omega, by simp [K.len], ?_⟩⟩
  rw [List.take_of_length_le (by rw [Array.length_toList]; simp [K.len])]

abbrev IRow (w : World) (v : Value) (l : List Int) : Prop := intK.Row w v l

/-- A row of one-cell elements, its cells. -/
theorem irow_cells {w : World} {v : Value} {l : List Int} {n : Nat} (h : IRow w v l) (hn : l.length = n) :
    ∃ o c, v = .slice o n c ∧ (0 < n → ∃ g, o = some ⟨g, 0, none⟩ ∧ ∀ (i : Nat) (p : Int), l[i]? = some p → w.cell? ⟨g, i, none⟩ = some (.int .i64 p)) := by
  obtain ⟨o, c, rfl, ho⟩ := row_shape h
  subst hn
  refine ⟨o, c, rfl, fun h0 => ?_⟩
  obtain ⟨g, rfl⟩ := ho h0
  refine ⟨g, rfl, fun i p hp => ?_⟩
  have hi : i < l.length := (List.getElem?_eq_some_iff.1 hp).1
  refine (World.ownsRow.cellAt h i (by show i < l.length * 1; omega)).trans ?_
  show (l.map fun x => Value.int .i64 x)[i]? = _
  rw [List.getElem?_map, hp]; rfl
end Go.Proofs.YthidipigpfcbbaaGreatDoor

namespace Go.Proofs.YthidipigpfcbbaaGreatDoor
open Go.RowKit Go.Maps Go.Extern.Stop Go.Stop Go.Extern

def cellsP (l : Tl) : List Value := l.flatMap fun p => [.int .i64 p.1, .int .i64 p.2]
theorem cellsP_len (l : Tl) : (cellsP l).length = l.length * 2 := by
  induction l with
  | nil => rfl
  | cons t l ih => simp only [cellsP, List.flatMap_cons, List.length_append, List.length_cons, List.length_nil] at ih ⊢; omega
theorem cellsP_app (l m : Tl) : cellsP (l ++ m) = cellsP l ++ cellsP m := by simp [cellsP]
theorem cellsP_fst : ∀ (l : Tl) (k : Nat) (p : Int × Int), l[k]? = some p → (cellsP l)[k * 2]? = some (.int .i64 p.1)
  | t :: l, 0, p, h => by simp at h; subst h; simp [cellsP]
  | t :: l, k + 1, p, h => by
    have := cellsP_fst l k p (by simpa using h)
    have e : (k + 1) * 2 = k * 2 + 1 + 1 := by omega
    simp only [cellsP, List.flatMap_cons, List.cons_append, List.nil_append] at this ⊢
    rw [e, List.getElem?_cons_succ, List.getElem?_cons_succ, this]
  | [], k, p, h => by simp at h
theorem cellsP_snd : ∀ (l : Tl) (k : Nat) (p : Int × Int), l[k]? = some p → (cellsP l)[k * 2 + 1]? = some (.int .i64 p.2)
  | t :: l, 0, p, h => by simp at h; subst h; simp [cellsP]
  | t :: l, k + 1, p, h => by
    have := cellsP_snd l k p (by simpa using h)
    have e : (k + 1) * 2 + 1 = k * 2 + 1 + 1 + 1 := by omega
    simp only [cellsP, List.flatMap_cons, List.cons_append, List.nil_append] at this ⊢
    rw [e, List.getElem?_cons_succ, List.getElem?_cons_succ, this]
  | [], k, p, h => by simp at h
theorem cellsP_one (l : Tl) : ∀ u ∈ cellsP l, u.oneCell' = true := by
  intro u hu
  simp only [cellsP, List.mem_flatMap] at hu
  obtain ⟨t, _, hu⟩ := hu
  simp at hu
  rcases hu with rfl | rfl <;> rfl

/-- Rows of pairs. -/
def pairK : RK (Int × Int) where
  T := 55
  e := 59
  size := 2
  bytes := 16
  z := .agg #[.int .i64 0, .int .i64 0]
  cs := cellsP
  app := cellsP_app
  len := cellsP_len
  one := cellsP_one
  hu := Tryz.underlying55
  info := by kernel_rfl
  zs := rfl
  pos := by decide
  few := by decide
abbrev PRow (w : World) (v : Value) (l : Tl) : Prop := pairK.Row w v l

/-- A row of pairs, its cells. -/
theorem prow_cells {w : World} {v : Value} {l : Tl} {n : Nat} (h : PRow w v l) (hn : l.length = n) :
    ∃ o c, v = .slice o n c ∧ (0 < n → ∃ g, o = some ⟨g, 0, none⟩ ∧ ∀ (i : Nat) (p : Int × Int), l[i]? = some p → w.cell? ⟨g, i * 2, none⟩ = some (.int .i64 p.1) ∧ w.cell? ⟨g, i * 2 + 1, none⟩ = some (.int .i64 p.2)) := by
  obtain ⟨o, c, rfl, ho⟩ := row_shape h
  subst hn
  refine ⟨o, c, rfl, fun h0 => ?_⟩
  obtain ⟨g, rfl⟩ := ho h0
  refine ⟨g, rfl, fun i p hp => ?_⟩
  have hi : i < l.length := (List.getElem?_eq_some_iff.1 hp).1
  exact ⟨(World.ownsRow.cellAt h (i * 2) (by show i * 2 < l.length * 2; omega)).trans (cellsP_fst _ i _ hp), (World.ownsRow.cellAt h (i * 2 + 1) (by show i * 2 + 1 < l.length * 2; omega)).trans (cellsP_snd _ i _ hp)⟩
/-- What is at home in Y', but new, was in Y. -/
def Mvs (w : World) (Y Y' : Nat → Prop) : Prop := ∀ x, Y' x → Y x ∨ w.heap.size ≤ x
end Go.Proofs.YthidipigpfcbbaaGreatDoor

namespace Go.Proofs.YthidipigpfcbbaaGreatDoor
open Go.RowKit Go.Maps Go.Extern.Stop Go.Stop Go.Extern

/-- The ints K, in memory. -/
structure IntL (w : World) (a : Option Addr) (n : Nat) (K : List Int) : Prop where
  len : K.length = n
  fit : n ≤ maxLen
  none_ : a = none → n = 0
  at_ : 0 < n → ∃ b o, a = some ⟨b, o, none⟩ ∧ ∀ i x, K[i]? = some x → w.cell? ⟨b, o + i, none⟩ = some (.int .i64 x)

theorem Nums.list {w : World} {a : Option Addr} {len : Nat} (h : Nums w a len) : ∃ K, IntL w a len K := by
  rcases h with ⟨rfl, rfl⟩ | ⟨x, rfl, h2, h3⟩
  · exact ⟨[], rfl, Nat.zero_le _, fun _ => rfl, fun h => absurd h (Nat.lt_irrefl _)⟩
  · have h4 : ∀ i : Nat, ∃ y : Int, i < len → w.cell? (x.add i) = some (.int .i64 y) := fun i => by
      by_cases hi : i < len
      · obtain ⟨v, e, z, rfl, _⟩ := h3 i hi
        exact ⟨z, fun _ => e⟩
      · exact ⟨0, fun h => absurd h hi⟩
    have hf := fun i => Classical.choose_spec (h4 i)
    generalize hg : (fun i => Classical.choose (h4 i)) = f
    have hf' : ∀ i, i < len → w.cell? (x.add i) = some (.int .i64 (f i)) := fun i hi => by rw [← hg]; exact hf i hi
    refine ⟨(List.range len).map f, by simp, h2, (fun e => by cases e), fun h0 => ?_⟩
    have hx := spot_none (hf' 0 h0)
    refine ⟨x.block, x.off, by rw [← hx], fun i y hy => ?_⟩
    rw [List.getElem?_map] at hy
    obtain ⟨j, hj, rfl⟩ := Option.map_eq_some_iff.1 hy
    obtain ⟨h5, rfl⟩ := List.getElem?_eq_some_iff.1 hj
    rw [List.getElem_range]
    have := hf' i (by simpa using h5)
    rwa [add_plain x hx] at this
theorem IntL.same {w w' : World} {a : Option Addr} {n : Nat} {K : List Int} (h : IntL w a n K) (k : Keeps (fun _ => False) w w') : IntL w' a n K :=
  ⟨h.len, h.fit, h.none_, fun h0 => by
    obtain ⟨b, o, h1, h2⟩ := h.at_ h0
    exact ⟨b, o, h1, fun i x hx => (k.cell (cell_lt (h2 i x hx)) id).trans (h2 i x hx)⟩⟩
/-- Its cells, from its address on. -/
theorem IntL.cells {w : World} {a : Option Addr} {n : Nat} {K : List Int} (h : IntL w a n K) : ∀ ad, a = some ad → ∀ j u, (intK.cs K)[j]? = some u → w.cell? (ad.add j) = some u := fun ad ha j u hu => by
  have hu' : (K.map fun x => Value.int .i64 x)[j]? = some u := hu
  rw [List.getElem?_map] at hu'
  obtain ⟨x, hx, rfl⟩ := Option.map_eq_some_iff.1 hu'
  have hj := (List.getElem?_eq_some_iff.1 hx).1
  obtain ⟨b, o, h1, h2⟩ := h.at_ (by have := h.len; omega)
  rw [h1] at ha
  injection ha with ha
  subst ha
  rw [add_plain _ rfl]
  exact h2 j x hx
end Go.Proofs.YthidipigpfcbbaaGreatDoor

namespace Go.Proofs.YthidipigpfcbbaaGreatDoor
open Go.RowKit Go.Maps Go.Extern.Stop Go.Stop Go.Extern

section
variable {α : Type} (K : RK α)

/-- append of what came in, to a row. -/
theorem RK.append_arg (w : World) (v : Value) (l news : List α) (hown : K.Row w v l) (o : Option Addr) (m c : Nat) (hm : news.length = m) (hnews : ∀ ad, o = some ad → ∀ j u, (K.cs news)[j]? = some u → w.cell? (ad.add j) = some u) (h0 : o = none → m = 0) (n : Nat) (hn : l.length + m = n) (hbig : n ≤ 1000000) (ty : TypeId) :
    ∃ ao cap w', (Builtin.append_ #[K.T, K.T] ty #[v, .slice o m c]).run Tryz.prog w = .ok (.slice ao n cap) w' ∧ K.Row w' (.slice ao n cap) (l ++ news) ∧ w.grownBy w' v.ownBlock ∧ ((Value.slice ao n cap).ownBlock = v.ownBlock ∨ (Value.slice ao n cap).ownBlock = some w.heap.size) := by
  cases o with
  | some ad => exact K.append w v l news hown ad m c hm (hnews ad rfl) n hn hbig ty
  | none =>
    obtain rfl := h0 rfl
    obtain rfl : news = [] := List.eq_nil_of_length_eq_zero hm
    obtain ⟨o', cv, rfl, _⟩ := row_shape hown
    obtain ⟨i0, hi, hz0, hz1, hz2⟩ := info_parts K.info
    have hle : l.length ≤ cv := by
      rcases hown.2 with ⟨e, h0⟩ | ⟨g, cap, cur, e, _, _, hnc, _⟩
      · rw [h0]; exact Nat.zero_le _
      · simp only [Value.slice.injEq] at e
        obtain ⟨_, _, rfl⟩ := e
        exact hnc
    have e : l.length = n := hn
    subst e
    refine ⟨o', cv, w, ?_, by rw [List.append_nil]; exact hown, ⟨rfl, rfl, rfl, Nat.le_refl _, fun _ _ _ => rfl⟩, .inl rfl⟩
    have hu := K.hu
    cases o' <;> simp [Builtin.append_, run_underlying hu, sizeOf, typeInfo, hi, Builtin.lenOf, Builtin.firstCells, hle, storeCells]

theorem step_append_arg {ops : Array Oper} {o : Oper} {a : Act} {w : World} {K' : Act → World → Prop} {Q : Exit → Act → World → Prop} {E : Prop}
    (hg : o.guard = none) (s x : Operand) (hop : o.op = Op.call { callee := Callee.builtin Builtin.append, args := #[s, x], argTypes := #[K.T, K.T] })
    (w0 : World) (v : Value) (l news : List α) (hs : a.eval s = v) (hown : Mine K w0 w v l) (k0 : Keeps (fun _ => False) w0 w) (xo : Option Addr) (m c : Nat) (hx : a.eval x = .slice xo m c) (hm : news.length = m) (hnews : ∀ ad, xo = some ad → ∀ j u, (K.cs news)[j]? = some u → w.cell? (ad.add j) = some u) (h0 : xo = none → m = 0) (n : Nat) (hn : l.length + m = n) (hbig : n ≤ 1000000)
    (hK : ∀ ao cap w', Mine K w0 w' (.slice ao n cap) (l ++ news) → Keeps (fun _ => False) w0 w' → Keeps (fun x => v.ownBlock = some x) w w' → K' (a.put o.dst (.slice ao n cap)) w') :
    if Region.wanted o (yielded ops a.tmps) = true then Oper.wp Tryz.prog o a w K' Q else E := by
  have hw : Region.wanted o (yielded ops a.tmps) = true := by simp [Region.wanted, hg]
  rw [if_pos hw]
  obtain ⟨ao, cap, w', hr, h2, h3, h5⟩ := K.append_arg w v l news hown.1 xo m c hm hnews h0 n hn hbig o.type
  have kk : Keeps (fun x => v.ownBlock = some x) w w' := (Keeps.refl _ w).grown h3 fun k hk _ => hk
  unfold Oper.wp
  simp [execOp, hop, resolve, invoke, builtin, hs, hx, hr, Result.andThen]
  refine hK ao cap w' ⟨h2, fun g hg => ?_⟩ (k0.trans kk fun x hx e => absurd hx (Nat.not_lt.2 (hown.2 x e))) kk
  rcases h5 with e | e
  · exact hown.2 g (by rw [← e]; exact hg)
  · rw [e] at hg
    injection hg with hg
    rw [← hg]
    exact k0.size
end

theorem wpList_append_arg {α : Type} (K : RK α) {ops : Array Oper} {rest : List Oper} {o : Oper} {a : Act} {w : World} {Q : Exit → Act → World → Prop}
    (hg : o.guard = none) (s x : Operand) (hop : o.op = Op.call { callee := Callee.builtin Builtin.append, args := #[s, x], argTypes := #[K.T, K.T] })
    (w0 : World) (v : Value) (l news : List α) (hs : a.eval s = v) (hown : Mine K w0 w v l) (k0 : Keeps (fun _ => False) w0 w) (xo : Option Addr) (m c : Nat) (hx : a.eval x = .slice xo m c) (hm : news.length = m) (hnews : ∀ ad, xo = some ad → ∀ j u, (K.cs news)[j]? = some u → w.cell? (ad.add j) = some u) (h0 : xo = none → m = 0) (n : Nat) (hn : l.length + m = n) (hbig : n ≤ 1000000)
    (hK : ∀ ao cap w', Mine K w0 w' (.slice ao n cap) (l ++ news) → Keeps (fun _ => False) w0 w' → Keeps (fun x => v.ownBlock = some x) w w' → wpList Tryz.prog ops Q rest (a.put o.dst (.slice ao n cap)) w') :
    wpList Tryz.prog ops Q (o :: rest) a w := by
  refine wpList_plain hg fun K' hK' => ?_
  obtain ⟨ao, cap, w', hr, h2, h3, h5⟩ := K.append_arg w v l news hown.1 xo m c hm hnews h0 n hn hbig o.type
  have kk : Keeps (fun x => v.ownBlock = some x) w w' := (Keeps.refl _ w).grown h3 fun k hk _ => hk
  unfold Oper.wp
  simp [execOp, hop, resolve, invoke, builtin, hs, hx, hr, Result.andThen]
  refine hK' _ _ (hK ao cap w' ⟨h2, fun g hg => ?_⟩ (k0.trans kk fun x hx e => absurd hx (Nat.not_lt.2 (hown.2 x e))) kk)
  rcases h5 with e | e
  · exact hown.2 g (by rw [← e]; exact hg)
  · rw [e] at hg
    injection hg with hg
    rw [← hg]
    exact k0.size
end Go.Proofs.YthidipigpfcbbaaGreatDoor
