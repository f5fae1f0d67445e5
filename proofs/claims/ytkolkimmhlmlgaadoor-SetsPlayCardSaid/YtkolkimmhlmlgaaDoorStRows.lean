/-
  Rows of one's own, whatever they hold, as lists ('RK': how a list is told by cells): append, at the operation and as one step of a region that draws; make and copy.
-/
import Derived.Test.YtkolkimmhlmlgaaDoorStMem
import Derived.Maps.AppendAt
namespace Go.Proofs.YtkolkimmhlmlgaaDoor
open Go.RowKit Go.Extern.Stop Go.Stop Go.Extern

/-- How rows of a type hold lists. -/
structure RK (α : Type) where
  T : TypeId
  e : TypeId
  size : Nat
  bytes : Nat
  z : Value
  cs : List α → List Value
  app : ∀ l m, cs (l ++ m) = cs l ++ cs m
  len : ∀ l, (cs l).length = l.length * size
  one : ∀ l, ∀ u ∈ cs l, u.oneCell' = true
  hu : Tryd.prog.underlying T = some (.slice e)
  info : (Tryd.prog.info? e).map (fun i => (i.zero, i.size, i.bytes)) = some (some z, size, bytes)
  zs : z.cells.size = size
  pos : 0 < size
  few : bytes ≤ 1000

/-- A slice of one's own that holds l. -/
abbrev RK.Row {α : Type} (K : RK α) (w : World) (v : Value) (l : List α) : Prop := w.ownsRow 0 K.e K.size v l.length (K.cs l)

section
variable {α : Type} (K : RK α)

theorem RK.append (w : World) (v : Value) (l news : List α) (hown : K.Row w v l) (ad : Addr) (m c : Nat) (hm : news.length = m) (hnews : ∀ j u, (K.cs news)[j]? = some u → w.cell? (ad.add j) = some u) (n : Nat) (hn : l.length + m = n) (hbig : n ≤ 100000) (ty : TypeId) :
    ∃ ao cap w', (Builtin.append_ #[K.T, K.T] ty #[v, .slice (some ad) m c]).run Tryd.prog w = .ok (.slice ao n cap) w' ∧ K.Row w' (.slice ao n cap) (l ++ news) ∧ w.grownBy w' v.ownBlock ∧ ((Value.slice ao n cap).ownBlock = v.ownBlock ∨ (Value.slice ao n cap).ownBlock = some w.heap.size) := by
  subst hm
  obtain ⟨i0, hi, hz0, hz1, hz2⟩ := info_parts K.info
  have hb := K.few
  obtain ⟨v', w', hr, h2, h3, h4, h5⟩ := run_append_own_at (P := Tryd.prog) w 0 K.T ty K.e i0 K.z K.size K.bytes K.hu hi hz0 hz1 hz2 K.zs K.pos v l.length (K.cs l) hown ad news.length c (K.cs news) (K.len news) hnews (K.one news) (by unfold maxLen; omega) (by
    rw [hn]
    exact Nat.le_trans (Nat.mul_le_mul hbig hb) (by decide)) (Nat.zero_le _)
  rw [← K.app] at h2
  have h2' : K.Row w' v' (l ++ news) := by
    show World.ownsRow _ _ _ _ _ (l ++ news).length _
    rw [List.length_append]
    exact h2
  obtain ⟨ao, cap, hv, _⟩ := row_shape h2'
  rw [List.length_append, hn] at hv
  subst hv
  exact ⟨ao, cap, w', hr, h2', h3, h5⟩

theorem wpList_append_k (w : World) {ops : Array Oper} {rest : List Oper} {o : Oper} {a : Act} {Q : Exit → Act → World → Prop}
    (hg : o.guard = none) (s x : Operand) (hop : o.op = Op.call { callee := Callee.builtin Builtin.append, args := #[s, x], argTypes := #[K.T, K.T] })
    (v : Value) (l news : List α) (hs : a.eval s = v) (hown : K.Row w v l) (ad : Addr) (m c : Nat) (hm : news.length = m) (hx : a.eval x = .slice (some ad) m c) (hnews : ∀ j u, (K.cs news)[j]? = some u → w.cell? (ad.add j) = some u) (n : Nat) (hn : l.length + m = n) (hbig : n ≤ 100000)
    (hK : ∀ ao cap w', K.Row w' (.slice ao n cap) (l ++ news) → w.grownBy w' v.ownBlock → ((Value.slice ao n cap).ownBlock = v.ownBlock ∨ (Value.slice ao n cap).ownBlock = some w.heap.size) → wpList Tryd.prog ops Q rest (a.put o.dst (.slice ao n cap)) w') :
    wpList Tryd.prog ops Q (o :: rest) a w := by
  refine wpList_plain hg fun K' hK' => ?_
  obtain ⟨ao, cap, w', hr, h2, h3, h5⟩ := K.append w v l news hown ad m c hm hnews n hn hbig o.type
  unfold Oper.wp execOp
  simp only [hop, resolve, invoke, builtin, Sem.run_bind, Sem.run_pure, Result.andThen_ok, List.map_toArray, List.map_cons, List.map_nil, hs, hx, hr]
  exact hK' _ _ (hK ao cap w' h2 h3 h5)

theorem step_append_k {ops : Array Oper} {o : Oper} {a : Act} {w : World} {K' : Act → World → Prop} {Q : Exit → Act → World → Prop} {E : Prop}
    (hg : o.guard = none) (s x : Operand) (hop : o.op = Op.call { callee := Callee.builtin Builtin.append, args := #[s, x], argTypes := #[K.T, K.T] })
    (v : Value) (l news : List α) (hs : a.eval s = v) (hown : K.Row w v l) (ad : Addr) (m c : Nat) (hm : news.length = m) (hx : a.eval x = .slice (some ad) m c) (hnews : ∀ j u, (K.cs news)[j]? = some u → w.cell? (ad.add j) = some u) (n : Nat) (hn : l.length + m = n) (hbig : n ≤ 100000)
    (hK : ∀ ao cap w', K.Row w' (.slice ao n cap) (l ++ news) → w.grownBy w' v.ownBlock → ((Value.slice ao n cap).ownBlock = v.ownBlock ∨ (Value.slice ao n cap).ownBlock = some w.heap.size) → K' (a.put o.dst (.slice ao n cap)) w') :
    if Region.wanted o (yielded ops a.tmps) = true then Oper.wp Tryd.prog o a w K' Q else E := by
  have hw : Region.wanted o (yielded ops a.tmps) = true := by simp [Region.wanted, hg]
  rw [if_pos hw]
  obtain ⟨ao, cap, w', hr, h2, h3, h5⟩ := K.append w v l news hown ad m c hm hnews n hn hbig o.type
  unfold Oper.wp
  simp [execOp, hop, resolve, invoke, builtin, hs, hx, hr, Result.andThen]
  exact hK ao cap w' h2 h3 h5

/-- make, as long as what is there. -/
theorem RK.make (n : Nat) (hn : n ≤ 100000) (w : World) :
    ∃ cur, cur.size = n * K.size ∧ (Instr.makeSlice K.T (.int .i64 (n : Int)) (.int .i64 (n : Int))).run Tryd.prog w = .ok (.slice (some ⟨w.heap.size, 0, none⟩) n n) (w.alloc (.cells cur K.e)) := by
  obtain ⟨i, hi, hz, hs, hb⟩ := info_parts K.info
  have hf := K.few
  have hr := run_make (P := Tryd.prog) w K.T K.e i _ K.hu hi hz .i64 .i64 n n (by omega) (Int.le_refl _) (by
    rw [hb]
    have h1 : K.bytes * n ≤ 1000 * 100000 := Nat.mul_le_mul hf hn
    have h2 : (K.bytes : Int) * (n : Int) = ((K.bytes * n : Nat) : Int) := by simp
    rw [h2]
    omega) (by omega)
  simp only [Int.toNat_natCast, hs] at hr
  exact ⟨_, by simp [madeCells, K.zs], hr⟩

theorem RK.copy (w : World) (g bw n c : Nat) (cur : Array Value) (t ty : TypeId) (l : List α) (hlen : l.length = n) (hg : w.heap[g]? = some (.cells cur t (0, 0))) (hcur : cur.size = n * K.size) (h : K.Row w (.slice (some ⟨bw, 0, none⟩) n c) l) :
    (Builtin.copy_ #[K.T, K.T] ty #[.slice (some ⟨g, 0, none⟩) n n, .slice (some ⟨bw, 0, none⟩) n c]).run Tryd.prog w = .ok (.int .i64 (n : Int)) (w.setRow g (K.cs l).toArray) := by
  obtain ⟨i, hi, hz, hs, hb⟩ := info_parts K.info
  have hsrc : ∀ j v, (K.cs l)[j]? = some v → w.cell? ((⟨bw, 0, none⟩ : Addr).add j) = some v := fun j v hv => World.ownsRow.cells h rfl j v hv
  have hl := run_loadCells_list (P := Tryd.prog) w ⟨bw, 0, none⟩ (K.cs l) hsrc
  have hst := run_storeCells_at Tryd.prog g 0 t (K.cs l) 0 cur w hg (by rw [K.len, hlen, hcur]; omega) (K.one l)
  have he : (K.cs l).length = n * K.size := by rw [K.len, hlen]
  rw [he] at hl
  simp [Builtin.copy_, run_underlying K.hu, Builtin.lenOf, Builtin.firstCells, sizeOf, typeInfo, hi, hs, hl, hst]
  exact ⟨rfl, by rw [List.drop_eq_nil_of_le (by rw [he, ← hcur]; simp), List.append_nil]⟩

theorem RK.copy0 (w : World) (a : Addr) (o : Option Addr) (c : Nat) (ty : TypeId) :
    (Builtin.copy_ #[K.T, K.T] ty #[.slice (some a) 0 0, .slice o 0 c]).run Tryd.prog w = .ok (.int .i64 0) w := by
  obtain ⟨i, hi, hz, hs, hb⟩ := info_parts K.info
  have hl : ∀ x : Addr, (loadCells x 0).run Tryd.prog w = .ok #[] w := fun x => by simpa using run_loadCells_list (P := Tryd.prog) w x [] (fun j v h => by simp at h)
  cases o <;> simp [Builtin.copy_, run_underlying K.hu, Builtin.lenOf, Builtin.firstCells, sizeOf, typeInfo, hi, hl, storeCells, goInt]
end

/-- Rows of what was read, of what is written, of undo logs. -/
def seenK : RK (Int × Int) where
  T := 28
  e := 50
  size := 2
  bytes := 16
  z := .agg #[.int .u64 0, .int .i64 0]
  cs := cells2 .i64
  app := cells2_app _
  len := cells2_len _
  one := cells2_one _
  hu := Tryd.underlying28
  info := by kernel_rfl
  zs := rfl
  pos := by decide
  few := by decide
def wroteK : RK (Int × Int) where
  T := 29
  e := 60
  size := 2
  bytes := 16
  z := .agg #[.int .u64 0, .int .u64 0]
  cs := cells2 .u64
  app := cells2_app _
  len := cells2_len _
  one := cells2_one _
  hu := Tryd.underlying29
  info := by kernel_rfl
  zs := rfl
  pos := by decide
  few := by decide
def undoK : RK Nat where
  T := 56
  e := 79
  size := 1
  bytes := 8
  z := .map none
  cs := fun l => l.map fun b => .map (some b)
  app := fun l m => by simp
  len := fun l => by simp
  one := fun l u hu => by obtain ⟨b, _, rfl⟩ := List.mem_map.1 hu; rfl
  hu := Tryd.underlying56
  info := by kernel_rfl
  zs := rfl
  pos := by decide
  few := by decide

/-- One pair that was laid in a new block. -/
theorem one_pair {w : World} {b : Nat} {ty : TypeId} {q : IntKind} {p : Int × Int} (h : Whole w b ty #[.int .u64 p.1, .int q p.2]) : ∀ j u, (cells2 q [p])[j]? = some u → w.cell? ((⟨b, 0, none⟩ : Addr).add j) = some u := by
  intro j u hj
  match j, hj with
  | 0, hj => simp [cells2] at hj; subst hj; exact h.at_ 0
  | 1, hj => simp [cells2] at hj; subst hj; exact h.at_ 1
  | j + 2, hj => simp [cells2] at hj
theorem one_cell_new {w : World} {b : Nat} {ty : TypeId} {v : Value} (h : Whole w b ty #[v]) : ∀ j u, ([v] : List Value)[j]? = some u → w.cell? ((⟨b, 0, none⟩ : Addr).add j) = some u := by
  intro j u hj
  match j, hj with
  | 0, hj => simp at hj; subst hj; exact h.at_ 0
  | j + 1, hj => simp at hj
end Go.Proofs.YtkolkimmhlmlgaaDoor
