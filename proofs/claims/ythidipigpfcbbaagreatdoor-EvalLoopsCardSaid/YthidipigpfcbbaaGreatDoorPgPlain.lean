/-
  A map with integer keys as a plain function ('HoldsM': block b is a map that has at k what f says), whatever its elements are, as long as a datum tells each of them ('Enc'); look-ups, stores, ranges at the operation. Of no program.
  delete of a key of a map with integer keys, at the operation. Of no program.
  Plain lists of keys with numbers: look, put, the place of a key; rising keys; how many entries a map has. Of no program. (For maps with keys of type int: the texts of sets have the same of their own, at uint64: a seat that needs both must let those import this.)
  What a state of collections is, plainly: kinds, and of each collection its pairs by rising keys; the calls; what is right stays right. Of no program.
  Transactions, plainly: forests of statements; their lines in order; size, deep, which one is wrong; what was put behind, what was put within. Of no program.
-/
import Derived.Maps.OwnSet
import Derived.Maps.RangeWalk

namespace Go.Proofs.YthidipigpfcbbaaGreatDoor
open Go.Maps Go.RowKit

/-- How a map's elements are told by data, each by its own. -/
structure Enc (V : Type) where
  val : V → Value
  dat : V → DataW Unit
  R : Value → Option (DataW Unit × List MemPlace)
  ok : ∀ v, R (val v) = some (dat v, [])
  inv : ∀ x y, R x = some y → ∃ v, x = val v ∧ y = (dat v, [])
  inj : ∀ u v, dat u = dat v → u = v

def ik (k : Int) : Lit := .int .i64 k

theorem ik_key (k : Int) : WideAt.IsKeyLit (ik k) := trivial
theorem ik_ne {a b : Int} (h : a ≠ b) : ik a ≠ ik b := fun e => h (by unfold ik at e; injection e)

section
variable {V : Type}

/-- The datum D has at k what f says. -/
def Reads (E : Enc V) (D : DataW Unit) (f : Int → Option V) : Prop :=
  ∀ k, has D (ik k) = (f k).isSome ∧ ∀ z, D.atKey (ik k) z = (match f k with | some v => E.dat v | none => z)

def upd (f : Int → Option V) (k : Int) (v : V) : Int → Option V := fun j => if j = k then some v else f j

theorem Reads.empty (E : Enc V) : Reads E (.map []) (fun _ => none) := fun _ => ⟨rfl, fun _ => rfl⟩

theorem Reads.put {E : Enc V} {D : DataW Unit} {f : Int → Option V} (h : Reads E D f) (hD : IsMap D) (k : Int) (v : V) : Reads E (D.put (ik k) (E.dat v)) (upd f k v) := by
  intro j
  by_cases e : j = k
  · subst e
    simp only [upd, if_true, Option.isSome]
    exact ⟨has_put_same hD (ik_key _) _, fun z => atKey_put_same hD (ik_key _) _ z⟩
  · simp only [upd, if_neg e]
    exact ⟨(has_put_other (ik_ne e) _).trans (h j).1, fun z => (atKey_put_other (ik_ne e) _ z).trans ((h j).2 z)⟩

/-- Block b is a map that has at k what f says. -/
def HoldsM (P : Program) (K : TypeId) (E : Enc V) (w : World) (b : Nat) (f : Int → Option V) : Prop :=
  ∃ D n, w.ownsMap P K E.R b n D ∧ n = Maps.size D ∧ Reads E D f

open Classical in
theorem subset_length {α : Type} : ∀ {a b : List α}, a.Nodup → (∀ x ∈ a, x ∈ b) → a.length ≤ b.length
  | [], _, _, _ => Nat.zero_le _
  | x :: t, b, hn, hs => by
    have hx : x ∈ b := hs x (List.mem_cons_self ..)
    have h1 := List.length_erase_of_mem hx
    have h2 : 0 < b.length := List.length_pos_of_mem hx
    have hn' := List.nodup_cons.1 hn
    have h3 := subset_length (a := t) (b := b.erase x) hn'.2 (fun y hy => (List.mem_erase_of_ne (fun e : y = x => hn'.1 (by rw [← e]; exact hy))).2 (hs y (List.mem_cons_of_mem _ hy)))
    simp only [List.length_cons]
    omega

variable {P : Program} {K T e : TypeId} {E : Enc V} {w w' : World} {b : Nat} {f : Int → Option V}

theorem HoldsM.lt (h : HoldsM P K E w b f) : b < w.heap.size := by obtain ⟨_, _, h, _⟩ := h; exact h.lt
theorem HoldsM.made (P : Program) (K : TypeId) (E : Enc V) (w : World) : HoldsM P K E (w.alloc (.map #[] 0)) w.heap.size (fun _ => none) :=
  ⟨_, 0, World.ownsMap_made _ _ _ _, rfl, Reads.empty E⟩
theorem HoldsM.of_block (h : HoldsM P K E w b f) (hb : w'.heap[b]? = w.heap[b]?) : HoldsM P K E w' b f := by
  obtain ⟨D, n, ⟨es, clock, h1, h2⟩, h3⟩ := h
  exact ⟨D, n, ⟨es, clock, hb.trans h1, h2⟩, h3⟩

/-- A map has no more entries than a list that names all its keys. -/
theorem size_le {n : Nat} {D : DataW Unit} (hk : P.underlying K = some (.int .i64)) (h : w.ownsMap P K E.R b n D) (hr : Reads E D f) (l : List Int) (hl : ∀ k, (f k).isSome = true → k ∈ l) : Maps.size D ≤ l.length := by
  have K' := int_keyed hk
  obtain ⟨es, rfl, hp, _⟩ := h.entries K'
  have hkeys : ∀ p ∈ es, ∃ x, p.1 = ik x := by
    intro p hp
    obtain ⟨es0, clock, _, F, _, hD⟩ := h
    injection hD with hD
    rw [hD] at hp
    obtain ⟨x, hx, rfl⟩ := List.mem_map.1 (mem_sorted.1 hp)
    obtain ⟨y, hy⟩ := F.reads x hx
    obtain ⟨a, _, ha, _⟩ := Maps.keyOf_int_inv hk (WideElems.rd_key hy)
    exact ⟨a, by rw [WideElems.rg_of hy]; exact ha⟩
  have hn : (es.map (·.1)).Nodup := List.pairwise_map.2 hp
  have := subset_length hn (b := l.map ik) (fun x hx => by
    obtain ⟨p, hp, rfl⟩ := List.mem_map.1 hx
    obtain ⟨k, hk⟩ := hkeys p hp
    rw [hk]
    refine List.mem_map.2 ⟨k, hl k ?_, rfl⟩
    rw [← (hr k).1, has_eq, List.any_eq_true]
    exact ⟨p, hp, by rw [hk]; exact WideAt.sameKey_self (ik_key k)⟩)
  simpa [Maps.size] using this

theorem HoldsM.look (h : HoldsM P K E w b f) (hk : P.underlying K = some (.int .i64)) (ht : P.underlying T = some (.map K e)) (zv : V) (hz : (zeroValue e).run P w = .ok (E.val zv) w) (k : Int) (hw : (Lit.int .i64 k).wf = true) :
    (Instr.lookup T (.map (some b)) (.int .i64 k) false).run P w = .ok (E.val ((f k).getD zv)) w := by
  obtain ⟨D, n, h1, _, h3⟩ := h
  obtain ⟨v, ps, hr, hv⟩ := h1.lookup (int_keyed hk) ht hz (E.ok zv) (keyOf_int_mk hk hw)
  rw [hr]
  obtain ⟨u, rfl, hy⟩ := E.inv _ _ hv
  have h5 := congrArg Prod.fst hy
  have h4 := (h3 k).2 (E.dat zv)
  simp only at h5
  unfold ik at h4
  rw [h4] at h5
  cases hf : f k with
  | none => rw [hf] at h5; rw [← E.inj _ _ h5]; rfl
  | some x => rw [hf] at h5; rw [← E.inj _ _ h5]; rfl

theorem HoldsM.look_ok (h : HoldsM P K E w b f) (hk : P.underlying K = some (.int .i64)) (ht : P.underlying T = some (.map K e)) (zv : V) (hz : (zeroValue e).run P w = .ok (E.val zv) w) (k : Int) (hw : (Lit.int .i64 k).wf = true) :
    (Instr.lookup T (.map (some b)) (.int .i64 k) true).run P w = .ok (.tuple #[E.val ((f k).getD zv), .bool (f k).isSome]) w := by
  obtain ⟨D, n, h1, _, h3⟩ := h
  obtain ⟨v, ps, hr, hv⟩ := h1.look_ok (int_keyed hk) ht hz (E.ok zv) (keyOf_int_mk hk hw)
  rw [hr]
  have h6 := (h3 k).1
  unfold ik at h6
  rw [h6]
  obtain ⟨u, rfl, hy⟩ := E.inv _ _ hv
  have h5 := congrArg Prod.fst hy
  have h4 := (h3 k).2 (E.dat zv)
  simp only at h5
  unfold ik at h4
  rw [h4] at h5
  cases hf : f k with
  | none => rw [hf] at h5; rw [← E.inj _ _ h5]; rfl
  | some x => rw [hf] at h5; rw [← E.inj _ _ h5]; rfl

theorem HoldsM.store (h : HoldsM P K E w b f) (hk : P.underlying K = some (.int .i64)) (ht : P.underlying T = some (.map K e)) (l : List Int) (hl : ∀ j, (f j).isSome = true → j ∈ l) (hlen : l.length < maxLen) (k : Int) (hw : (Lit.int .i64 k).wf = true) (v : V) :
    ∃ w', (Instr.mapUpdate T (.map (some b)) (.int .i64 k) (E.val v)).run P w = .ok () w' ∧ HoldsM P K E w' b (upd f k v) ∧ w.grownBy w' (some b) := by
  obtain ⟨D, n, h1, rfl, h3⟩ := h
  have hs := size_le hk h1 h3 l hl
  obtain ⟨w', hr, h4, h5⟩ := h1.update (int_keyed hk) ht (Nat.lt_of_le_of_lt hs hlen) (keyOf_int_mk hk hw) (E.ok v)
  refine ⟨w', hr, ⟨_, Maps.size (D.put (ik k) (E.dat v)), ?_, rfl, h3.put h1.isMap k v⟩, h5⟩
  obtain ⟨es, clock, hb, F, _, hD⟩ := h4
  refine ⟨es, clock, hb, F, ?_, hD⟩
  show es.size ≤ Maps.size (D.put (.int .i64 k) (E.dat v))
  rw [hD]
  simp [Maps.size, length_sorted]
end

/-! ### at the operation -/
section
variable {V : Type} {P : Program} (w : World) {ops : Array Oper} {rest : List Oper} {o : Oper} {a : Act} {Q : Exit → Act → World → Prop}

theorem wpList_look (hg : o.guard = none) (m x : Operand) (t : TypeId) (hop : o.op = Op.lookup t m x false) (k e : TypeId) (E : Enc V) (hk : P.underlying k = some (.int .i64)) (ht : P.underlying t = some (.map k e)) (zv : V) (hz : (zeroValue e).run P w = .ok (E.val zv) w) (b : Nat) (f : Int → Option V)
    (hm : a.eval m = .map (some b)) (h : HoldsM P k E w b f) (i : Int) (hx : a.eval x = .int .i64 i) (hw : (Lit.int .i64 i).wf = true) (u : Value) (hu : E.val ((f i).getD zv) = u)
    (hK : wpList P ops Q rest (a.put o.dst u) w) : wpList P ops Q (o :: rest) a w := by
  subst hu
  refine wpList_plain hg fun K' hK' => ?_
  have hrun := h.look hk ht zv hz i hw
  unfold Oper.wp
  simp [execOp, hop, hm, hx, hrun, Result.andThen]
  exact hK' _ _ hK

theorem wpList_look_ok (hg : o.guard = none) (m x : Operand) (t : TypeId) (hop : o.op = Op.lookup t m x true) (k e : TypeId) (E : Enc V) (hk : P.underlying k = some (.int .i64)) (ht : P.underlying t = some (.map k e)) (zv : V) (hz : (zeroValue e).run P w = .ok (E.val zv) w) (b : Nat) (f : Int → Option V)
    (hm : a.eval m = .map (some b)) (h : HoldsM P k E w b f) (i : Int) (hx : a.eval x = .int .i64 i) (hw : (Lit.int .i64 i).wf = true) (u : Value) (c : Bool) (hu : E.val ((f i).getD zv) = u) (hc : (f i).isSome = c)
    (hK : wpList P ops Q rest (a.put o.dst (.tuple #[u, .bool c])) w) : wpList P ops Q (o :: rest) a w := by
  subst hu
  subst hc
  refine wpList_plain hg fun K' hK' => ?_
  have hrun := h.look_ok hk ht zv hz i hw
  unfold Oper.wp
  simp [execOp, hop, hm, hx, hrun, Result.andThen]
  exact hK' _ _ hK

theorem wpList_upd (hg : o.guard = none) (m x v : Operand) (t : TypeId) (hop : o.op = Op.mapUpdate t m x v) (k e : TypeId) (E : Enc V) (hk : P.underlying k = some (.int .i64)) (ht : P.underlying t = some (.map k e)) (b : Nat) (f : Int → Option V)
    (hm : a.eval m = .map (some b)) (h : HoldsM P k E w b f) (l : List Int) (hl : ∀ j, (f j).isSome = true → j ∈ l) (hlen : l.length < maxLen) (i : Int) (hx : a.eval x = .int .i64 i) (hw : (Lit.int .i64 i).wf = true) (u : V) (hv : a.eval v = E.val u)
    (hK : ∀ w', HoldsM P k E w' b (upd f i u) → w.grownBy w' (some b) → wpList P ops Q rest (a.put o.dst undef) w') : wpList P ops Q (o :: rest) a w := by
  refine wpList_plain hg fun K' hK' => ?_
  obtain ⟨w', hrun, r1, r2⟩ := h.store hk ht l hl hlen i hw u
  unfold Oper.wp
  simp [execOp, hop, hm, hx, hv, hrun, Result.andThen]
  exact hK' _ _ (hK w' r1 r2)

/-- 'for .. range m' under way: 'left': which keys are still to come. -/
def Ranging (P : Program) (k : TypeId) (E : Enc V) (w : World) (b r : Nat) (f : Int → Option V) (left : Int → Bool) (cnt : Nat) : Prop :=
  ∃ D n lf, w.ranges P k E.R b r n D lf cnt ∧ Reads E D f ∧ ∀ i, lf (ik i) = left i

theorem Ranging.left_eq {E : Enc V} {k : TypeId} {b r cnt : Nat} {f : Int → Option V} {left : Int → Bool} {w : World} (h : Ranging P k E w b r f left cnt) : w.rangeLeft b r = cnt := by
  obtain ⟨D, n, lf, h, _⟩ := h; exact h.left_eq
theorem Ranging.kept {E : Enc V} {k : TypeId} {b r cnt : Nat} {f : Int → Option V} {left : Int → Bool} {w w' : World} {row : Option Nat} (h : Ranging P k E w b r f left cnt) (hg : w.grownBy w' row) (hb : some b ≠ row) (hr : some r ≠ row) : Ranging P k E w' b r f left cnt := by
  obtain ⟨D, n, lf, h, h2⟩ := h; exact ⟨D, n, lf, h.kept hg hb hr, h2⟩
theorem Ranging.alloc {E : Enc V} {k : TypeId} {b r cnt : Nat} {f : Int → Option V} {left : Int → Bool} {w : World} (h : Ranging P k E w b r f left cnt) (o : Obj) : Ranging P k E (w.alloc o) b r f left cnt := by
  obtain ⟨D, n, lf, h, h2⟩ := h; exact ⟨D, n, lf, h.alloc o, h2⟩

theorem wpList_ranging (hg : o.guard = none) (m : Operand) (t : TypeId) (hop : o.op = Op.range t m) (k e : TypeId) (E : Enc V) (hk : P.underlying k = some (.int .i64)) (ht : P.underlying t = some (.map k e)) (b : Nat) (f : Int → Option V)
    (hm : a.eval m = .map (some b)) (h : HoldsM P k E w b f)
    (hK : ∀ w' cnt, Ranging P k E w' b w.heap.size f (fun i => (f i).isSome) cnt → w.grownBy w' none → w'.heap.size = w.heap.size + 1 → wpList P ops Q rest (a.put o.dst (.pointer (some ⟨w.heap.size, 0, none⟩))) w') :
    wpList P ops Q (o :: rest) a w := by
  obtain ⟨D, n, h1, _, h3⟩ := h
  exact wpList_range_own w hg m t hop k e (int_keyed hk) ht E.R b n D hm h1 fun w' h4 h5 h6 => hK w' _ ⟨D, n, _, h4, h3, fun i => (h3 i).1⟩ h5 h6

theorem wpList_next_ranging (hg : o.guard = none) (it : Operand) (hop : o.op = Op.next it false) (k : TypeId) (E : Enc V) (hk : P.underlying k = some (.int .i64)) (b r : Nat) (f : Int → Option V) (left : Int → Bool) (cnt : Nat)
    (hit : a.eval it = .pointer (some ⟨r, 0, none⟩)) (h : Ranging P k E w b r f left cnt)
    (hDone : (∀ i, left i = false) → wpList P ops Q rest (a.put o.dst (.tuple #[.bool false])) w)
    (hMore : ∀ (x : Int) (c : V) (w' : World) (cnt' : Nat), (Lit.int .i64 x).wf = true → left x = true → f x = some c → Ranging P k E w' b r f (fun i => left i && !decide (i = x)) cnt' → cnt' < cnt →
      w.grownBy w' (some r) → w'.heap.size = w.heap.size → (Instr.entry (.pointer (some ⟨r, 0, none⟩))).run P w' = .ok (.tuple #[.int .i64 x, E.val c]) w' → wpList P ops Q rest (a.put o.dst (.tuple #[.bool true, .int .i64 x, E.val c])) w') :
    wpList P ops Q (o :: rest) a w := by
  obtain ⟨D, n, lf, h1, h2, h3⟩ := h
  refine wpList_next_ranges w hg it hop k (int_keyed hk) E.R (Value.int .i64) E.val (fun key kl hkey => by obtain ⟨x, rfl, _⟩ := Maps.keyOf_int_inv hk hkey; exact ⟨x, rfl⟩) (fun v y hv => by obtain ⟨c, rfl, _⟩ := E.inv _ _ hv; exact ⟨c, rfl⟩)
    b r n D lf cnt hit h1 (fun _ hl => hDone fun i => (h3 i).symm.trans (hl _)) (fun x c kl y w' cnt' hkey hlk hv hat hrg hlt hgr hsz hen => ?_)
  obtain ⟨x', ex, rfl, hwx⟩ := Maps.keyOf_int_inv hk hkey
  cases ex
  have hfx : f x = some c := by
    rw [E.ok] at hv
    injection hv with hv
    subst hv
    have h4 := (h2 x).2 .nil
    have h5 := (h2 x).2 (.agg [])
    unfold ik at h4 h5
    rw [hat] at h4 h5
    cases hf : f x with
    | none =>
      rw [hf] at h4 h5
      rw [h4] at h5
      cases h5
    | some u =>
      rw [hf] at h4
      rw [E.inj _ _ h4]
  exact hMore x c w' cnt' hwx ((h3 x).symm.trans hlk) hfx ⟨D, n, _, hrg, h2, fun i => by
    show (lf (ik i) && !(ik i).sameKey (ik x)) = _
    rw [h3 i]
    simp [ik, Lit.sameKey]⟩ hlt hgr hsz hen
end
end Go.Proofs.YthidipigpfcbbaaGreatDoor

namespace Go.Proofs.YthidipigpfcbbaaGreatDoor
open Go.Maps Go.RowKit

def clr {V : Type} (f : Int → Option V) (k : Int) : Int → Option V := fun j => if j = k then none else f j

section
variable {V : Type} {P : Program} {K T e : TypeId} {E : Enc V} {w w' : World} {b : Nat} {f : Int → Option V}

theorem Reads.del {D : DataW Unit} (h : Reads E D f) (k : Int) : Reads E (D.del (ik k)) (clr f k) := by
  intro j
  by_cases e : j = k
  · subst e
    simp only [clr, if_true, Option.isSome]
    exact ⟨has_del_same, fun z => atKey_del_same z⟩
  · simp only [clr, if_neg e]
    exact ⟨(has_del_other (ik_ne e)).trans (h j).1, fun z => (atKey_del_other (ik_ne e) z).trans ((h j).2 z)⟩

theorem HoldsM.drop (h : HoldsM P K E w b f) (hk : P.underlying K = some (.int .i64)) (ht : P.underlying T = some (.map K e)) (k : Int) (hw : (Lit.int .i64 k).wf = true) (ty : TypeId) :
    ∃ w', (Builtin.delete_ #[T, K] ty #[.map (some b), .int .i64 k]).run P w = .ok (.tuple #[]) w' ∧ HoldsM P K E w' b (clr f k) ∧ w.grownBy w' (some b) := by
  obtain ⟨D, n, h1, rfl, h3⟩ := h
  obtain ⟨w', hrun, h4, h5⟩ := h1.drop (int_keyed hk) ht (keyOf_int_mk hk hw) ty
  refine ⟨w', hrun, ⟨_, Maps.size (D.del (ik k)), ?_, rfl, h3.del k⟩, h5.grown⟩
  obtain ⟨es, clock, hb, F, _, hD⟩ := h4
  refine ⟨es, clock, hb, F, ?_, hD⟩
  show es.size ≤ Maps.size (D.del (.int .i64 k))
  rw [hD]
  simp [Maps.size, length_sorted]
end

theorem wpList_drop {V : Type} {P : Program} (w : World) {ops : Array Oper} {rest : List Oper} {o : Oper} {a : Act} {Q : Exit → Act → World → Prop} (hg : o.guard = none) (m x : Operand) (t k : TypeId) (hop : o.op = Op.call { callee := Callee.builtin Builtin.delete, args := #[m, x], argTypes := #[t, k] })
    (e : TypeId) (E : Enc V) (hk : P.underlying k = some (.int .i64)) (ht : P.underlying t = some (.map k e)) (b : Nat) (f : Int → Option V) (hm : a.eval m = .map (some b)) (h : HoldsM P k E w b f) (i : Int) (hx : a.eval x = .int .i64 i) (hw : (Lit.int .i64 i).wf = true)
    (hK : ∀ w', HoldsM P k E w' b (clr f i) → w.grownBy w' (some b) → wpList P ops Q rest (a.put o.dst (.tuple #[])) w') : wpList P ops Q (o :: rest) a w := by
  refine wpList_plain hg fun K' hK' => ?_
  obtain ⟨w', hrun, r1, r2⟩ := h.drop hk ht i hw o.type
  unfold Oper.wp
  simp [execOp, hop, resolve, invoke, builtin, hm, hx, hrun, Result.andThen]
  exact hK' _ _ (hK w' r1 r2)
end Go.Proofs.YthidipigpfcbbaaGreatDoor

namespace Go.Proofs.YthidipigpfcbbaaGreatDoor
open Go.Maps Go.RowKit

/-- A map has as many entries as a list that names its keys, each once. -/
theorem HoldsM.size_eq {V : Type} {P : Program} {K : TypeId} {E : Enc V} {w : World} {b : Nat} {f : Int → Option V} {D : DataW Unit} {n : Nat} (hk : P.underlying K = some (.int .i64)) (h : w.ownsMap P K E.R b n D) (hr : Reads E D f) (l : List Int) (hn : l.Nodup) (hl : ∀ k, k ∈ l ↔ (f k).isSome = true) : Maps.size D = l.length := by
  refine Nat.le_antisymm (size_le hk h hr l fun k hk => (hl k).2 hk) ?_
  obtain ⟨es, rfl, hp, _⟩ := h.entries (int_keyed hk)
  have hn' : (l.map ik).Nodup := List.pairwise_map.2 (hn.imp fun h => ik_ne h)
  have := subset_length hn' (b := es.map (·.1)) (fun x hx => by
    obtain ⟨k, hk, rfl⟩ := List.mem_map.1 hx
    have h1 := (hr k).1
    rw [(hl k).1 hk, has_eq, List.any_eq_true] at h1
    obtain ⟨p, hp, hs⟩ := h1
    exact List.mem_map.2 ⟨p, hp, WideAt.sameKey_eq hs⟩)
  simpa [Maps.size] using this
/-- A list that names just the keys, each once. -/
def Keys {V : Type} (f : Int → Option V) (l : List Int) : Prop := l.Nodup ∧ ∀ k, k ∈ l ↔ (f k).isSome = true

theorem Keys.len {V : Type} {f : Int → Option V} {l m : List Int} (h : Keys f l) (k : Keys f m) : l.length = m.length :=
  Nat.le_antisymm (subset_length h.1 fun x hx => (k.2 x).2 ((h.2 x).1 hx)) (subset_length k.1 fun x hx => (h.2 x).2 ((k.2 x).1 hx))

/-- Rising, none twice. -/
abbrev Up (l : List Int) : Prop := l.Pairwise (· < ·)

theorem Up.nodup {l : List Int} (h : Up l) : l.Nodup := h.imp fun h => by omega

theorem Up.unique : ∀ {l m : List Int}, Up l → Up m → l.Perm m → l = m := fun {l m} hl hm hp =>
  List.Perm.eq_of_pairwise (le := fun a b : Int => a < b) (fun a b _ _ h1 h2 => by omega) hl hm hp

theorem Keys.perm {V : Type} {f : Int → Option V} {l m : List Int} (h : Keys f l) (k : Keys f m) : l.Perm m :=
  (List.perm_ext_iff_of_nodup h.1 k.1).2 fun x => by rw [h.2 x, k.2 x]

/-- A plain list of cells with numbers. -/
abbrev Tl := List (Int × Int)

def look : Tl → Int → Option Int
  | [], _ => none
  | (c, v) :: t, k => if k = c then some v else look t k

/-- The place of a cell, from 1 on; 0: none. -/
def plc : Tl → Int → Nat
  | [], _ => 0
  | (c, _) :: t, k => if k = c then 1 else if plc t k = 0 then 0 else plc t k + 1

def low (W : Tl) (c : Int) : Tl := W.filter fun p => decide (p.1 < c)
def high (W : Tl) (c : Int) : Tl := W.filter fun p => decide (c < p.1)
/-- A cell has a value now. -/
def put (W : Tl) (c v : Int) : Tl := low W c ++ (c, v) :: high W c

/-- Rising cells, none twice. -/
def UpW (W : Tl) : Prop := Up (W.map (·.1))

/-! ### look -/
theorem look_mem {W : Tl} {k : Int} : (look W k).isSome = true ↔ k ∈ W.map (·.1) := by
  induction W with
  | nil => simp [look]
  | cons p t ih =>
    obtain ⟨c, v⟩ := p
    simp only [look, List.map_cons, List.mem_cons]
    by_cases e : k = c
    · simp [e]
    · simp [e, ih]
theorem look_none {W : Tl} {k : Int} : look W k = none ↔ k ∉ W.map (·.1) := by
  rw [← look_mem]
  cases look W k <;> simp
theorem look_keys {W : Tl} (h : UpW W) : Keys (look W) (W.map (·.1)) := ⟨Up.nodup h, fun _ => look_mem.symm⟩
theorem look_app (V W : Tl) (k : Int) : look (V ++ W) k = (look V k).or (look W k) := by
  induction V with
  | nil => simp [look]
  | cons p t ih =>
    obtain ⟨c, v⟩ := p
    simp only [List.cons_append, look]
    by_cases e : k = c
    · simp [e]
    · simp [e, ih]
theorem look_filter (W : Tl) (p : Int → Bool) (k : Int) : look (W.filter fun x => p x.1) k = if p k = true then look W k else none := by
  induction W with
  | nil => simp [look]
  | cons x t ih =>
    obtain ⟨c, v⟩ := x
    by_cases hp : p c = true
    · rw [List.filter_cons_of_pos (by simpa using hp)]
      simp only [look]
      by_cases e : k = c
      · subst e; simp [hp]
      · simp [e, ih]
    · rw [List.filter_cons_of_neg (by simpa using hp), ih]
      simp only [look]
      by_cases e : k = c
      · subst e; simp [hp]
      · simp [e]
theorem look_put (W : Tl) (c v k : Int) : look (put W c v) k = if k = c then some v else look W k := by
  unfold put low high
  rw [look_app, look_filter W (fun x => decide (x < c))]
  simp only [look]
  rw [look_filter W (fun x => decide (c < x))]
  by_cases e : k = c
  · subst e; simp
  · rcases Int.lt_or_gt_of_ne e with h | h
    · have h' : ¬ c < k := by omega
      simp [e, h, h']
    · have h' : ¬ k < c := by omega
      simp [e, h, h']
theorem look_put_upd (W : Tl) (c v : Int) : look (put W c v) = upd (look W) c v := funext fun k => look_put W c v k

theorem up_put {W : Tl} (h : UpW W) (c v : Int) : UpW (put W c v) := by
  unfold UpW Up put low high
  rw [List.map_append, List.map_cons]
  have h' : W.Pairwise (fun a b => a.1 < b.1) := List.pairwise_map.1 h
  refine List.pairwise_append.2 ⟨List.pairwise_map.2 (h'.filter _), List.pairwise_cons.2 ⟨?_, List.pairwise_map.2 (h'.filter _)⟩, ?_⟩
  · intro x hx
    obtain ⟨p, hp, rfl⟩ := List.mem_map.1 hx
    simpa using (List.mem_filter.1 hp).2
  · intro a ha b hb
    obtain ⟨p, hp, rfl⟩ := List.mem_map.1 ha
    have h1 : p.1 < c := by simpa using (List.mem_filter.1 hp).2
    rcases List.mem_cons.1 hb with rfl | hb
    · exact h1
    · obtain ⟨q, hq, rfl⟩ := List.mem_map.1 hb
      have h2 : c < q.1 := by simpa using (List.mem_filter.1 hq).2
      omega

theorem len_put_there {W : Tl} (h : UpW W) {c v : Int} (hc : look W c ≠ none) : (put W c v).length = W.length := by
  have h1 := look_keys (up_put h c v)
  have h2 := look_keys h
  have h3 : Keys (look (put W c v)) (W.map (·.1)) := ⟨h2.1, fun k => by
    rw [h2.2 k, look_put]
    by_cases e : k = c
    · subst e; simp; cases h : look W k <;> simp_all
    · simp [e]⟩
  simpa using h1.len h3
theorem len_put_new {W : Tl} (h : UpW W) {c v : Int} (hc : look W c = none) : (put W c v).length = W.length + 1 := by
  have h1 := look_keys (up_put h c v)
  have h2 := look_keys h
  have h3 : Keys (look (put W c v)) (c :: W.map (·.1)) := ⟨List.nodup_cons.2 ⟨look_none.1 hc, h2.1⟩, fun k => by
    rw [List.mem_cons, h2.2 k, look_put]
    by_cases e : k = c
    · simp [e]
    · simp [e]⟩
  simpa using h1.len h3

/-- What is told by rising cells is told in one way. -/
theorem up_ext : ∀ {V W : Tl}, UpW V → UpW W → (∀ k, look V k = look W k) → V = W
  | [], [], _, _, _ => rfl
  | [], (d, u) :: s, _, _, h => by have := h d; simp [look] at this
  | (c, v) :: t, [], _, _, h => by have := h c; simp [look] at this
  | (c, v) :: t, (d, u) :: s, hV, hW, h => by
    have hV' := List.pairwise_cons.1 hV
    have hW' := List.pairwise_cons.1 hW
    have hcd : c = d := by
      have m1 : c ∈ ((d, u) :: s).map (·.1) := look_mem.1 (by rw [← h c]; simp [look])
      have m2 : d ∈ ((c, v) :: t).map (·.1) := look_mem.1 (by rw [h d]; simp [look])
      rcases List.mem_cons.1 m1 with e | m1
      · exact e
      · rcases List.mem_cons.1 m2 with e | m2
        · exact e.symm
        · have a1 := hW'.1 c m1
          have a2 := hV'.1 d m2
          simp only at a1 a2
          omega
    subst hcd
    have hvu : v = u := by have := h c; simpa [look] using this
    subst hvu
    have ht : t = s := up_ext hV'.2 hW'.2 fun k => by
      by_cases e : k = c
      · subst e
        rw [look_none.2 fun m => by have := hV'.1 k m; simp at this, look_none.2 fun m => by have := hW'.1 k m; simp at this]
      · have := h k
        simpa [look, e] using this
    rw [ht]

/-! ### places -/
theorem plc_zero {R : Tl} {k : Int} : plc R k = 0 ↔ look R k = none := by
  induction R with
  | nil => simp [plc, look]
  | cons p t ih =>
    obtain ⟨c, v⟩ := p
    simp only [plc, look]
    by_cases e : k = c
    · simp [e]
    · simp only [e, if_false]
      rw [← ih]
      by_cases h : plc t k = 0 <;> simp [h]
theorem plc_le {R : Tl} {k : Int} : plc R k ≤ R.length := by
  induction R with
  | nil => simp [plc]
  | cons p t ih =>
    obtain ⟨c, v⟩ := p
    simp only [plc, List.length_cons]
    split
    · omega
    · split <;> omega
/-- Where a cell stands. -/
theorem plc_at {R : Tl} {k : Int} (h : plc R k ≠ 0) : ∃ v, R[plc R k - 1]? = some (k, v) ∧ look R k = some v := by
  induction R with
  | nil => simp [plc] at h
  | cons p t ih =>
    obtain ⟨c, v⟩ := p
    simp only [plc, look] at h ⊢
    by_cases e : k = c
    · subst e; exact ⟨v, by simp, by simp⟩
    · simp only [e, if_false] at h ⊢
      by_cases h0 : plc t k = 0
      · simp [h0] at h
      · obtain ⟨u, h1, h2⟩ := ih h0
        refine ⟨u, ?_, h2⟩
        rw [if_neg h0]
        have : plc t k + 1 - 1 = (plc t k - 1) + 1 := by omega
        rw [this, List.getElem?_cons_succ]
        exact h1
theorem plc_snoc {R : Tl} {c v k : Int} (h : look R c = none) : plc (R ++ [(c, v)]) k = if k = c then R.length + 1 else plc R k := by
  induction R with
  | nil => simp [plc]
  | cons p t ih =>
    obtain ⟨d, u⟩ := p
    simp only [look] at h
    by_cases e : c = d
    · simp [e] at h
    · simp only [e, if_false] at h
      simp only [List.cons_append, plc, List.length_cons]
      by_cases e2 : k = d
      · subst e2
        have : ¬ k = c := fun e' => e e'.symm
        simp [this]
      · simp only [e2, if_false]
        rw [ih h]
        by_cases e3 : k = c
        · simp [e3]
        · simp [e3]

/-! ### on the way through a list -/
theorem plc_first {R : Tl} {c v : Int} {i : Nat} (h : ∀ (j : Nat) (p : Int × Int), j < i → R[j]? = some p → p.1 ≠ c) (hi : R[i]? = some (c, v)) : plc R c = i + 1 ∧ look R c = some v := by
  induction R generalizing i with
  | nil => simp at hi
  | cons q t ih =>
    obtain ⟨d, u⟩ := q
    cases i with
    | zero =>
      simp at hi
      obtain ⟨rfl, rfl⟩ := hi
      simp [plc, look]
    | succ i =>
      have hd : ¬ c = d := fun e => h 0 (d, u) (by omega) rfl e.symm
      obtain ⟨h1, h2⟩ := ih (i := i) (fun j p hj hp => h (j + 1) p (by omega) (by simpa using hp)) (by simpa using hi)
      simp only [plc, look, if_neg hd]
      refine ⟨?_, h2⟩
      rw [h1, if_neg (by omega)]
theorem plc_no {R : Tl} {c : Int} (h : ∀ (j : Nat) (p : Int × Int), R[j]? = some p → p.1 ≠ c) : plc R c = 0 ∧ look R c = none := by
  have : look R c = none := look_none.2 fun hm => by
    obtain ⟨p, hp, e⟩ := List.mem_map.1 hm
    obtain ⟨j, hj, rfl⟩ := List.getElem_of_mem hp
    exact h j _ (List.getElem?_eq_getElem hj) e
  exact ⟨plc_zero.2 this, this⟩

theorem put_all {T : Tl} {c v : Int} (h : ∀ x ∈ T, x.1 < c) : put T c v = T ++ [(c, v)] := by
  unfold put low high
  rw [List.filter_eq_self.2 (fun x hx => by simpa using h x hx), List.filter_eq_nil_iff.2 (fun x hx => by have := h x hx; simp; omega)]
theorem put_eq {T : Tl} {c u v : Int} (h : ∀ x ∈ T, x.1 < c) : put (T ++ [(c, u)]) c v = T ++ [(c, v)] := by
  unfold put low high
  rw [List.filter_append, List.filter_append, List.filter_eq_self.2 (fun x hx => by simpa using h x hx), show T.filter (fun p => decide (c < p.1)) = [] from List.filter_eq_nil_iff.2 (fun x hx => by have := h x hx; simp; omega)]
  simp
theorem put_gt {T : Tl} {c d u v : Int} (h : c < d) : put (T ++ [(d, u)]) c v = put T c v ++ [(d, u)] := by
  unfold put low high
  have h' : ¬ d < c := by omega
  simp [List.filter_append, h, h']

theorem up_at {W : Tl} (h : UpW W) {i j : Nat} {p q : Int × Int} (hp : W[i]? = some p) (hq : W[j]? = some q) (hij : i < j) : p.1 < q.1 := by
  have h' : W.Pairwise (fun a b => a.1 < b.1) := List.pairwise_map.1 h
  obtain ⟨hi, rfl⟩ := List.getElem?_eq_some_iff.1 hp
  obtain ⟨hj, rfl⟩ := List.getElem?_eq_some_iff.1 hq
  exact List.pairwise_iff_getElem.1 h' i j hi hj hij

/-- The list under way. -/
def wl (T : Tl) (c v : Int) (p : Bool) : Tl := if p = true then put T c v else T
/-- Whether the cell has been put. -/
def wp_ (T : Tl) (c : Int) (p : Bool) : Prop := (p = false → ∀ x ∈ T, x.1 < c) ∧ (p = true → ∃ x ∈ T, c ≤ x.1)

end Go.Proofs.YthidipigpfcbbaaGreatDoor

namespace Go.Proofs.YthidipigpfcbbaaGreatDoor

structure M8 where
  K : List Int
  L : List Tl

structure M8.Ok (A : M8) : Prop where
  len : A.K.length = A.L.length
  few : A.L.length ≤ 8
  ups : ∀ W ∈ A.L, UpW W ∧ W.length ≤ 100

/-- The place, from 1 on, of the first kind that is none; 0: all are some. -/
def firstBad : List Int → Nat
  | [] => 0
  | k :: t => if k < 1 ∨ 3 < k then 1 else if firstBad t = 0 then 0 else firstBad t + 1

def M8.made (K : List Int) : M8 := ⟨K, List.replicate K.length []⟩
/-- New: is there a state, the error's number, its place. -/
def mNew (K : List Int) : Bool × Nat × Nat :=
  if firstBad K ≠ 0 then (false, 17, firstBad K) else if 8 < K.length then (false, 8, 0) else (true, 0, 0)

def M8.there (A : M8) (c : Int) : Prop := 0 ≤ c ∧ c < (A.L.length : Int)
instance (A : M8) (c : Int) : Decidable (A.there c) := by unfold M8.there; infer_instance
def M8.col (A : M8) (c : Int) : Tl := A.L.getD c.toNat []
def M8.kind (A : M8) (c : Int) : Int := A.K.getD c.toNat 0
def M8.setC (A : M8) (c : Int) (W : Tl) : M8 := { A with L := A.L.set c.toNat W }

def del (W : Tl) (k : Int) : Tl := W.filter fun p => decide (p.1 ≠ k)
def ceil (W : Tl) (k : Int) : Option Int := (W.find? fun p => decide (k ≤ p.1)).map (·.1)
def rng (W : Tl) (a b : Int) : Nat := (W.filter fun p => decide (a ≤ p.1 ∧ p.1 ≤ b)).length

def mGet (A : M8) (c k : Int) : Int × Bool × Nat :=
  if A.there c then ((look (A.col c) k).getD 0, (look (A.col c) k).isSome, 0) else (0, false, 3)
def mVal (A : M8) (c v : Int) : Int := if A.kind c = 2 then 1 else v
def mPut (A : M8) (c k v : Int) : M8 × Nat :=
  if A.there c then
    if look (A.col c) k = none ∧ 100 ≤ (A.col c).length then (A, 8) else (A.setC c (put (A.col c) k (mVal A c v)), 0)
  else (A, 3)
def mDel (A : M8) (c k : Int) : M8 × Nat := if A.there c then (A.setC c (del (A.col c) k), 0) else (A, 3)
def mCeil (A : M8) (c k : Int) : Int × Bool × Nat :=
  if A.there c then if A.kind c = 3 then ((ceil (A.col c) k).getD 0, (ceil (A.col c) k).isSome, 0) else (0, false, 17) else (0, false, 3)
def mRange (A : M8) (c a b : Int) : Nat × Nat :=
  if A.there c then if A.kind c = 3 then (rng (A.col c) a b, 0) else (0, 17) else (0, 3)

theorem M8.col_at {A : M8} {c : Int} (h : A.there c) : A.L[c.toNat]? = some (A.col c) := by
  have : c.toNat < A.L.length := by have := h.1; have := h.2; omega
  unfold M8.col
  rw [List.getD_eq_getElem?_getD, List.getElem?_eq_getElem this]
  rfl
theorem M8.kind_at {A : M8} (ok : A.Ok) {c : Int} (h : A.there c) : A.K[c.toNat]? = some (A.kind c) := by
  have : c.toNat < A.K.length := by have := h.1; have := h.2; have := ok.len; omega
  unfold M8.kind
  rw [List.getD_eq_getElem?_getD, List.getElem?_eq_getElem this]
  rfl
theorem M8.Ok.col {A : M8} (ok : A.Ok) {c : Int} (h : A.there c) : UpW (A.col c) ∧ (A.col c).length ≤ 100 :=
  ok.ups _ (List.mem_of_getElem? (M8.col_at h))
theorem M8.Ok.setC {A : M8} (ok : A.Ok) (c : Int) {W : Tl} (hW : UpW W ∧ W.length ≤ 100) : (A.setC c W).Ok where
  len := by simp [M8.setC, ok.len]
  few := by simp [M8.setC, ok.few]
  ups := fun V hV => by
    rcases List.mem_or_eq_of_mem_set hV with h | h
    · exact ok.ups V h
    · rw [h]; exact hW

theorem look_del (W : Tl) (k j : Int) : look (del W k) j = if j = k then none else look W j := by
  unfold del
  rw [look_filter W (fun x => decide (x ≠ k))]
  by_cases e : j = k
  · simp [e]
  · simp [e]
theorem up_del {W : Tl} (h : UpW W) (k : Int) : UpW (del W k) := by
  have h' : W.Pairwise (fun a b => a.1 < b.1) := List.pairwise_map.1 h
  exact List.pairwise_map.2 (h'.filter _)
theorem del_len (W : Tl) (k : Int) : (del W k).length ≤ W.length := List.length_filter_le _ _

theorem mPut_ok {A : M8} (h : A.Ok) (c k v : Int) : (mPut A c k v).1.Ok := by
  unfold mPut
  split
  · rename_i ht
    split
    · exact h
    · rename_i hn
      obtain ⟨h1, h2⟩ := h.col ht
      refine h.setC c ⟨up_put h1 _ _, ?_⟩
      by_cases hc : look (A.col c) k = none
      · rw [len_put_new h1 hc]
        have : ¬ 100 ≤ (A.col c).length := fun h' => hn ⟨hc, h'⟩
        omega
      · rw [len_put_there h1 hc]; exact h2
  · exact h
theorem mDel_ok {A : M8} (h : A.Ok) (c k : Int) : (mDel A c k).1.Ok := by
  unfold mDel
  split
  · rename_i ht
    obtain ⟨h1, h2⟩ := h.col ht
    exact h.setC c ⟨up_del h1 _, Nat.le_trans (del_len _ _) h2⟩
  · exact h
theorem made_ok {K : List Int} (h : K.length ≤ 8) : (M8.made K).Ok where
  len := by simp [M8.made]
  few := by simpa [M8.made] using h
  ups := fun W hW => by
    obtain ⟨_, rfl⟩ := List.mem_replicate.1 hW
    exact ⟨List.Pairwise.nil, by simp⟩

/-! ### walking -/
/-- The kinds ahead of i are some. -/
theorem bad_none {K : List Int} (h : ∀ (j : Nat) (k : Int), K[j]? = some k → ¬ (k < 1 ∨ 3 < k)) : firstBad K = 0 := by
  induction K with
  | nil => rfl
  | cons k t ih =>
    unfold firstBad
    rw [if_neg (h 0 k rfl), if_pos (ih fun j x hx => h (j + 1) x (by simpa using hx))]
theorem bad_first {K : List Int} {i : Nat} {x : Int} (h : ∀ (j : Nat) (k : Int), j < i → K[j]? = some k → ¬ (k < 1 ∨ 3 < k)) (hi : K[i]? = some x) (hx : x < 1 ∨ 3 < x) : firstBad K = i + 1 := by
  induction K generalizing i with
  | nil => simp at hi
  | cons k t ih =>
    cases i with
    | zero =>
      simp at hi
      subst hi
      unfold firstBad
      rw [if_pos hx]
    | succ i =>
      unfold firstBad
      have := ih (i := i) (fun j y hj hy => h (j + 1) y (by omega) (by simpa using hy)) (by simpa using hi)
      rw [if_neg (h 0 k (by omega) rfl), if_neg (by rw [this]; omega), this]

theorem ceil_first {W : Tl} {k : Int} {i : Nat} {p : Int × Int} (h : ∀ (j : Nat) (q : Int × Int), j < i → W[j]? = some q → q.1 < k) (hi : W[i]? = some p) (hp : k ≤ p.1) : ceil W k = some p.1 := by
  unfold ceil
  induction W generalizing i with
  | nil => simp at hi
  | cons q t ih =>
    cases i with
    | zero =>
      simp at hi
      subst hi
      simp [hp]
    | succ i =>
      have h0 := h 0 q (by omega) rfl
      have h0' : ¬ k ≤ q.1 := by omega
      have := ih (i := i) (fun j y hj hy => h (j + 1) y (by omega) (by simpa using hy)) (by simpa using hi)
      simpa [List.find?_cons, h0'] using this
theorem ceil_no {W : Tl} {k : Int} (h : ∀ (j : Nat) (q : Int × Int), W[j]? = some q → q.1 < k) : ceil W k = none := by
  unfold ceil
  rw [Option.map_eq_none_iff, List.find?_eq_none]
  intro x hx
  obtain ⟨j, hj⟩ := List.getElem?_of_mem hx
  have := h j x hj
  simp; omega
theorem ceil_look {W : Tl} {k m : Int} (h : ceil W k = some m) : (look W m).isSome = true ∧ k ≤ m := by
  unfold ceil at h
  obtain ⟨p, hp, rfl⟩ := Option.map_eq_some_iff.1 h
  exact ⟨look_mem.2 (List.mem_map.2 ⟨p, List.mem_of_find?_eq_some hp, rfl⟩), by simpa using List.find?_some hp⟩

theorem rng_take {W : Tl} {a b : Int} {i : Nat} {p : Int × Int} (h : W[i]? = some p) : rng (W.take (i + 1)) a b = rng (W.take i) a b + (if a ≤ p.1 ∧ p.1 ≤ b then 1 else 0) := by
  unfold rng
  rw [List.take_add_one, h, List.filter_append]
  by_cases e : a ≤ p.1 ∧ p.1 ≤ b
  · simp [e]
  · simp [e]
theorem rng_le (W : Tl) (a b : Int) : rng W a b ≤ W.length := List.length_filter_le _ _
theorem del_take {W : Tl} {k : Int} {i : Nat} {p : Int × Int} (h : W[i]? = some p) : del (W.take (i + 1)) k = del (W.take i) k ++ (if p.1 = k then [] else [p]) := by
  unfold del
  rw [List.take_add_one, h, List.filter_append]
  by_cases e : p.1 = k
  · simp [e]
  · simp [e]
theorem take_add {W : Tl} {i : Nat} {p : Int × Int} (h : W[i]? = some p) : W.take (i + 1) = W.take i ++ [p] := by
  rw [List.take_add_one, h]; rfl
end Go.Proofs.YthidipigpfcbbaaGreatDoor

namespace Go.Proofs.YthidipigpfcbbaaGreatDoor

/-- A statement, apart from those in it. -/
structure St7 where
  k : Int
  c : Int
  r : Int
  ar : Int
  an : Int
  br : Int
  bn : Int

/-- Statements in order, each with its Body and its Else. -/
inductive Fo where
  | nil : Fo
  | cons (s : St7) (B E R : Fo) : Fo

namespace Fo
def items : Fo → List (St7 × Fo × Fo)
  | .nil => []
  | .cons s B E R => (s, B, E) :: R.items
def ofItems : List (St7 × Fo × Fo) → Fo
  | [] => .nil
  | (s, B, E) :: t => .cons s B E (ofItems t)
def len (F : Fo) : Nat := F.items.length
def size : Fo → Nat
  | .nil => 0
  | .cons _ B E R => 1 + B.size + E.size + R.size
def deep : Fo → Nat
  | .nil => 0
  | .cons _ B E R => max (1 + B.deep) (max (1 + E.deep) R.deep)
def app : Fo → Fo → Fo
  | .nil, G => G
  | .cons s B E R, G => .cons s B E (app R G)

theorem items_of (l : List (St7 × Fo × Fo)) : (ofItems l).items = l := by
  induction l with
  | nil => rfl
  | cons x t ih => obtain ⟨s, B, E⟩ := x; simp [ofItems, items, ih]
theorem of_items : ∀ F : Fo, ofItems F.items = F
  | .nil => rfl
  | .cons s B E R => by simp [items, ofItems, of_items R]
theorem items_app : ∀ F G : Fo, (F.app G).items = F.items ++ G.items
  | .nil, G => rfl
  | .cons s B E R, G => by simp [app, items, items_app R G]
theorem size_app : ∀ F G : Fo, (F.app G).size = F.size + G.size
  | .nil, G => by simp [app, size]
  | .cons s B E R, G => by simp [app, size, size_app R G]; omega
theorem deep_app : ∀ F G : Fo, (F.app G).deep = max F.deep G.deep
  | .nil, G => by simp [app, deep]
  | .cons s B E R, G => by simp [app, deep, deep_app R G]
theorem item_size : ∀ {F : Fo} {i : Nat} {s : St7} {B E : Fo}, F.items[i]? = some (s, B, E) → B.size + E.size < F.size
  | .cons s B E R, 0, _, _, _, h => by simp [items] at h; obtain ⟨rfl, rfl, rfl⟩ := h; simp [size]; omega
  | .cons s B E R, i + 1, _, _, _, h => by
    have := item_size (F := R) (i := i) (by simpa [items] using h)
    simp [size]; omega
  | .nil, i, _, _, _, h => by simp [items] at h
theorem item_deep : ∀ {F : Fo} {i : Nat} {s : St7} {B E : Fo}, F.items[i]? = some (s, B, E) → 1 + B.deep ≤ F.deep ∧ 1 + E.deep ≤ F.deep
  | .cons s B E R, 0, _, _, _, h => by simp [items] at h; obtain ⟨rfl, rfl, rfl⟩ := h; simp [deep]; omega
  | .cons s B E R, i + 1, _, _, _, h => by
    have := item_deep (F := R) (i := i) (by simpa [items] using h)
    simp [deep]; omega
  | .nil, i, _, _, _, h => by simp [items] at h
theorem len_le_size : ∀ F : Fo, F.len ≤ F.size
  | .nil => Nat.le_refl _
  | .cons s B E R => by
    have := len_le_size R
    simp [len, items, size] at this ⊢; omega
/-- Those ahead of a place, those from it on. -/
def upto (F : Fo) (i : Nat) : Fo := ofItems (F.items.take i)
theorem upto_zero (F : Fo) : F.upto 0 = .nil := by simp [upto, ofItems]
theorem upto_all {F : Fo} {i : Nat} (h : F.len ≤ i) : F.upto i = F := by
  unfold upto
  rw [List.take_of_length_le h, of_items]
theorem upto_add {F : Fo} {i : Nat} {s : St7} {B E : Fo} (h : F.items[i]? = some (s, B, E)) : F.upto (i + 1) = (F.upto i).app (.cons s B E .nil) := by
  unfold upto
  rw [List.take_add_one, h]
  have : ∀ (l m : List (St7 × Fo × Fo)), ofItems (l ++ m) = (ofItems l).app (ofItems m) := fun l m => by
    induction l with
    | nil => rfl
    | cons x t ih => obtain ⟨s, B, E⟩ := x; simp [ofItems, app, ih]
  rw [this]
  rfl
theorem size_upto {F : Fo} (i : Nat) : (F.upto i).size ≤ F.size := by
  have h : ∀ (l : List (St7 × Fo × Fo)) (i : Nat), (ofItems (l.take i)).size ≤ (ofItems l).size := fun l => by
    induction l with
    | nil => intro i; simp
    | cons x t ih =>
      intro i
      obtain ⟨s, B, E⟩ := x
      cases i with
      | zero => simp [ofItems, size]
      | succ i => have := ih i; simp [ofItems, size]; omega
  have := h F.items i
  rwa [of_items] at this
end Fo

/-- A line: a statement, its Body, its Else, how deep it lies. -/
structure Ln where
  s : St7
  B : Fo
  E : Fo
  d : Nat

def lin : Fo → Nat → List Ln
  | .nil, _ => []
  | .cons s B E R, d => ⟨s, B, E, d⟩ :: (lin B (d + 1) ++ (lin E (d + 1) ++ lin R d))

theorem lin_len : ∀ (F : Fo) (d : Nat), (lin F d).length = F.size
  | .nil, d => rfl
  | .cons s B E R, d => by simp [lin, Fo.size, lin_len B, lin_len E, lin_len R]; omega
theorem lin_app : ∀ (F G : Fo) (d : Nat), lin (F.app G) d = lin F d ++ lin G d
  | .nil, G, d => rfl
  | .cons s B E R, G, d => by simp [lin, Fo.app, lin_app R G d]
theorem lin_one (s : St7) (B E : Fo) (d : Nat) : lin (.cons s B E .nil) d = ⟨s, B, E, d⟩ :: (lin B (d + 1) ++ lin E (d + 1)) := by simp [lin]
theorem lin_upto {F : Fo} {i : Nat} {s : St7} {B E : Fo} (h : F.items[i]? = some (s, B, E)) (d : Nat) : lin (F.upto (i + 1)) d = lin (F.upto i) d ++ (⟨s, B, E, d⟩ :: (lin B (d + 1) ++ lin E (d + 1))) := by
  rw [Fo.upto_add h, lin_app, lin_one]
theorem lin_deep : ∀ (F : Fo) (d : Nat), ∀ l ∈ lin F d, d ≤ l.d ∧ l.d + 1 ≤ d + F.deep
  | .nil, d, l, h => by simp [lin] at h
  | .cons s B E R, d, l, h => by
    simp only [lin, List.mem_cons, List.mem_append] at h
    simp only [Fo.deep]
    rcases h with rfl | h | h | h
    · simp; omega
    · have := lin_deep B (d + 1) l h; omega
    · have := lin_deep E (d + 1) l h; omega
    · have := lin_deep R d l h; omega
theorem lin_deepest : ∀ (F : Fo) (d : Nat), 0 < F.deep → ∃ l ∈ lin F d, l.d + 1 = d + F.deep
  | .nil, d, h => by simp [Fo.deep] at h
  | .cons s B E R, d, _ => by
    simp only [lin, List.mem_cons, List.mem_append]
    by_cases h1 : Fo.deep (.cons s B E R) = 1
    · exact ⟨⟨s, B, E, d⟩, .inl rfl, by rw [h1]⟩
    · have hd : Fo.deep (.cons s B E R) = max (1 + B.deep) (max (1 + E.deep) R.deep) := rfl
      by_cases h2 : Fo.deep (.cons s B E R) = 1 + B.deep
      · obtain ⟨l, hl, e⟩ := lin_deepest B (d + 1) (by omega)
        exact ⟨l, .inr (.inl hl), by omega⟩
      · by_cases h3 : Fo.deep (.cons s B E R) = 1 + E.deep
        · obtain ⟨l, hl, e⟩ := lin_deepest E (d + 1) (by omega)
          exact ⟨l, .inr (.inr (.inl hl)), by omega⟩
        · obtain ⟨l, hl, e⟩ := lin_deepest R d (by omega)
          exact ⟨l, .inr (.inr (.inr hl)), by omega⟩
/-- The same lines, deeper. -/
theorem lin_shift : ∀ (F : Fo) (d e : Nat), lin F (d + e) = (lin F d).map fun l => { l with d := l.d + e }
  | .nil, d, e => rfl
  | .cons s B E R, d, e => by
    have h : d + e + 1 = d + 1 + e := by omega
    simp only [lin, List.map_cons, List.map_append]
    rw [h, lin_shift B (d + 1) e, lin_shift E (d + 1) e, lin_shift R d e]

/-! ### which one is wrong -/
def inL (n : Int) (l : List Int) : Bool := l.any fun x => x == n
def argOk (r n : Int) (there : Bool) : Bool := if there then decide (0 ≤ r ∧ r ≤ 8 ∧ -999 ≤ n ∧ n ≤ 999) else decide (r = 0 ∧ n = 0)
/-- Is a statement right, apart from those in it (nb, ne: how many are in its Body, its Else)? -/
def one (s : St7) (nb ne : Nat) (K : List Int) : Bool :=
  decide (1 ≤ s.k ∧ s.k ≤ 16) &&
  (if s.k ≤ 8 then decide (0 ≤ s.c ∧ s.c < (K.length : Int)) else decide (s.c = 0)) &&
  (if s.k = 6 ∨ s.k = 7 then K.getD s.c.toNat 0 == 3 else true) &&
  (if inL s.k [1, 4, 5, 6, 7, 9, 10] then decide (1 ≤ s.r ∧ s.r ≤ 8) else decide (s.r = 0)) &&
  argOk s.ar s.an (inL s.k [1, 2, 3, 4, 6, 7, 9, 10, 11, 12]) && argOk s.br s.bn (inL s.k [2, 7, 10, 11]) &&
  (if s.k = 12 then decide (s.ar = 0 ∧ 0 ≤ s.an ∧ s.an ≤ 5) else true) &&
  (decide (nb = 0) || decide (11 ≤ s.k ∧ s.k ≤ 14)) && (decide (ne = 0) || decide (s.k = 11 ∨ s.k = 14))

/-- What is wrong first, of lines from number i + 1 on: the error's number, its place. -/
def rightL (K : List Int) : List Ln → Nat → Nat × Nat
  | [], _ => (0, 0)
  | l :: t, i => if 100 ≤ i then (8, i + 1) else if 8 < l.d then (10, i + 1) else if one l.s l.B.len l.E.len K = false then (9, i + 1) else rightL K t (i + 1)
def right (F : Fo) (K : List Int) : Nat × Nat := rightL K (lin F 1) 0

theorem right_app (K : List Int) : ∀ (L M : List Ln) (i : Nat), rightL K (L ++ M) i = if (rightL K L i).1 ≠ 0 then rightL K L i else rightL K M (i + L.length)
  | [], M, i => by simp [rightL]
  | l :: t, M, i => by
    simp only [List.cons_append, rightL]
    split
    · simp
    · split
      · simp
      · split
        · simp
        · rw [right_app K t M (i + 1), List.length_cons, show i + 1 + t.length = i + (t.length + 1) by omega]
theorem right_none (K : List Int) : ∀ (L : List Ln) (i : Nat), (rightL K L i).1 = 0 → (rightL K L i).2 = 0 ∧ (L ≠ [] → i + L.length ≤ 100) ∧ ∀ l ∈ L, l.d ≤ 8 ∧ one l.s l.B.len l.E.len K = true
  | [], i, _ => ⟨rfl, fun h => absurd rfl h, fun l h => by cases h⟩
  | l :: t, i, h => by
    simp only [rightL] at h ⊢
    split at h
    · cases h
    · rename_i h1
      split at h
      · cases h
      · rename_i h2
        split at h
        · cases h
        · rename_i h3
          obtain ⟨a, b, c⟩ := right_none K t (i + 1) h
          rw [if_neg h1, if_neg h2, if_neg h3]
          refine ⟨a, fun _ => ?_, fun x hx => ?_⟩
          · by_cases ht : t = []
            · subst ht; simp; omega
            · have := b ht; simp; omega
          · rcases List.mem_cons.1 hx with rfl | hx
            · exact ⟨by omega, by simpa using h3⟩
            · exact c x hx
theorem right_ok (K : List Int) : ∀ (L : List Ln) (i : Nat), i + L.length ≤ 100 → (∀ l ∈ L, l.d ≤ 8 ∧ one l.s l.B.len l.E.len K = true) → rightL K L i = (0, 0)
  | [], i, _, _ => rfl
  | l :: t, i, h, hl => by
    obtain ⟨h1, h2⟩ := hl l (by simp)
    simp only [List.length_cons] at h
    simp only [rightL]
    rw [if_neg (by omega), if_neg (by omega), if_neg (by rw [h2]; simp)]
    exact right_ok K t (i + 1) (by omega) fun x hx => hl x (List.mem_cons_of_mem _ hx)
/-- Where there are not too many, the numbers are moved on. -/
theorem right_move (K : List Int) (j : Nat) : ∀ (L : List Ln) (i : Nat), i + j + L.length ≤ 100 → (rightL K L (i + j)).1 = (rightL K L i).1 ∧ ((rightL K L i).1 ≠ 0 → (rightL K L (i + j)).2 = j + (rightL K L i).2)
  | [], i, _ => ⟨rfl, fun h => absurd rfl h⟩
  | l :: t, i, h => by
    simp only [List.length_cons] at h
    simp only [rightL]
    have a1 : ¬ 100 ≤ i + j := by omega
    have a2 : ¬ 100 ≤ i := by omega
    by_cases a3 : 8 < l.d
    · simp only [if_neg a1, if_neg a2, if_pos a3]
      exact ⟨trivial, fun _ => by omega⟩
    · by_cases a4 : one l.s l.B.len l.E.len K = false
      · simp only [if_neg a1, if_neg a2, if_neg a3, if_pos a4]
        exact ⟨trivial, fun _ => by omega⟩
      · simp only [if_neg a1, if_neg a2, if_neg a3, if_neg a4]
        have := right_move K j t (i + 1) (by omega)
        rw [show i + 1 + j = i + j + 1 by omega] at this
        exact this
/-- Of lines that are right but for how deep they lie. -/
theorem right_only (K : List Int) : ∀ (L : List Ln) (i : Nat), (∀ l ∈ L, one l.s l.B.len l.E.len K = true) → (rightL K L i).1 = 0 ∨ (rightL K L i).1 = 8 ∨ (rightL K L i).1 = 10
  | [], i, _ => .inl rfl
  | l :: t, i, h => by
    simp only [rightL]
    split
    · exact .inr (.inl rfl)
    · split
      · exact .inr (.inr rfl)
      · rw [if_neg (by rw [h l (by simp)]; simp)]
        exact right_only K t (i + 1) fun x hx => h x (List.mem_cons_of_mem _ hx)

/-! ### parts -/
theorem parts_first {F G : Fo} {K : List Int} (h : (right F K).1 ≠ 0) : right (F.app G) K = right F K := by
  unfold right at h ⊢
  rw [lin_app, right_app, if_pos h]
theorem parts_second {F G : Fo} {K : List Int} (hs : (F.app G).size ≤ 100) (h : (right F K).1 = 0) : (right (F.app G) K).1 = (right G K).1 ∧ ((right G K).1 ≠ 0 → (right (F.app G) K).2 = F.size + (right G K).2) := by
  unfold right at h ⊢
  rw [lin_app, right_app, if_neg (by rw [h]; simp), lin_len]
  have := right_move K F.size (lin G 1) 0 (by rw [lin_len]; rw [Fo.size_app] at hs; omega)
  simpa using this

/-! ### within -/
def s13 : St7 := ⟨13, 0, 0, 0, 0, 0, 0⟩
def wrap (F : Fo) : Fo := .cons s13 F .nil .nil
theorem wrap_size (F : Fo) : (wrap F).size = F.size + 1 := by simp [wrap, Fo.size]; omega
theorem wrap_deep (F : Fo) : (wrap F).deep = F.deep + 1 := by simp [wrap, Fo.deep]; omega
theorem one_s13 (nb : Nat) (K : List Int) : one s13 nb 0 K = true := by
  simp [one, s13, inL, argOk]
theorem within {F : Fo} {K : List Int} (h : (right F K).1 = 0) :
    F.size ≤ 100 ∧ F.deep ≤ 8 ∧ (F.deep = 8 → (right (wrap F) K).1 = 10 ∨ (right (wrap F) K).1 = 8) ∧ (F.deep ≠ 8 → F.size = 100 → (right (wrap F) K).1 = 8) ∧ (F.deep ≠ 8 → F.size ≠ 100 → (right (wrap F) K).1 = 0) := by
  unfold right at h
  obtain ⟨_, h2, h3⟩ := right_none K _ _ h
  have e1 : lin (wrap F) 1 = ⟨s13, F, .nil, 1⟩ :: lin F 2 := by simp [wrap, lin]
  have e2 : rightL K (lin (wrap F) 1) 0 = rightL K (lin F 2) 1 := by
    rw [e1]
    simp only [rightL]
    rw [if_neg (by omega), if_neg (by omega), if_neg (by rw [show (Fo.nil).len = 0 from rfl, one_s13]; simp)]
  have hs : F.size ≤ 100 := by
    by_cases hl : lin F 1 = []
    · have := lin_len F 1
      rw [hl] at this
      simp at this
      omega
    · have := h2 hl
      rw [lin_len] at this
      omega
  have hd : F.deep ≤ 8 := by
    rcases Nat.eq_zero_or_pos F.deep with h0 | h0
    · omega
    · obtain ⟨l, hl, e⟩ := lin_deepest F 1 h0
      have := (h3 l hl).1
      omega
  have h1 : ∀ l ∈ lin F 2, one l.s l.B.len l.E.len K = true := fun l hl => by
    rw [show 2 = 1 + 1 from rfl, lin_shift] at hl
    obtain ⟨x, hx, rfl⟩ := List.mem_map.1 hl
    exact (h3 x hx).2
  have hr := right_only K _ 1 h1
  unfold right
  rw [e2]
  refine ⟨hs, hd, fun h8 => ?_, fun h8 h100 => ?_, fun h8 h100 => ?_⟩
  · rcases hr with hr | hr | hr
    · exfalso
      obtain ⟨_, _, h5⟩ := right_none K _ _ hr
      obtain ⟨l, hl, e⟩ := lin_deepest F 2 (by omega)
      have := (h5 l hl).1
      omega
    · exact .inr hr
    · exact .inl hr
  · have hall : ∀ l ∈ lin F 2, l.d ≤ 8 := fun l hl => by have := (lin_deep F 2 l hl).2; omega
    have key : ∀ (L : List Ln) (i : Nat), (∀ l ∈ L, l.d ≤ 8 ∧ one l.s l.B.len l.E.len K = true) → i ≤ 100 → 100 < i + L.length → (rightL K L i).1 = 8 := fun L => by
      induction L with
      | nil => intro i _ _ h; simp at h; omega
      | cons l t ih =>
        intro i hl hi hlen
        obtain ⟨q1, q2⟩ := hl l (by simp)
        simp only [List.length_cons] at hlen
        simp only [rightL]
        by_cases hi' : 100 ≤ i
        · rw [if_pos hi']
        · rw [if_neg hi', if_neg (by omega), if_neg (by rw [q2]; simp)]
          exact ih (i + 1) (fun x hx => hl x (List.mem_cons_of_mem _ hx)) (by omega) (by omega)
    exact key _ 1 (fun l hl => ⟨hall l hl, h1 l hl⟩) (by omega) (by rw [lin_len]; omega)
  · rw [right_ok K _ 1 (by rw [lin_len]; omega) fun l hl => ⟨by have := (lin_deep F 2 l hl).2; omega, h1 l hl⟩]

/-! ### collections, waiting -/
def names (s : St7) : Bool := decide (1 ≤ s.k ∧ s.k ≤ 8)
/-- Is a collection named? -/
def Named (L : List Ln) (x : Int) : Prop := ∃ l ∈ L, names l.s = true ∧ l.s.c = x
def waits (F : Fo) : Bool := (lin F 1).any fun l => decide (l.s.k = 15)
end Go.Proofs.YthidipigpfcbbaaGreatDoor
