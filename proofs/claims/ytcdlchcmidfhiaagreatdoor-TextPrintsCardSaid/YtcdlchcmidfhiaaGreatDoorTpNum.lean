/-
  A map with integer keys as a plain function ('HoldsM': block b is a map that has at k what f says), whatever its elements are, as long as a datum tells each of them ('Enc'); look-ups, stores, ranges at the operation. Of no program.
  delete of a key of a map with integer keys, at the operation. Of no program.
  Plain lists of keys with numbers: look, put, the place of a key; rising keys; how many entries a map has. Of no program. (For maps with keys of type int: the texts of sets have the same of their own, at uint64: a seat that needs both must let those import this.)
  Transactions, plainly: forests of statements; their lines in order; size, deep, which one is wrong; what was put behind, what was put within. Of no program.
  Texts of transactions, plainly: numbers, words, lines; what a text says (parseT), a transaction's text (textT); that it is read from it as it was. Of no program.
  Texts of transactions, plainly: blanks and empty lines change nothing; two texts, one behind the other. Of no program.
  A transaction's text, plainly, with some blanks ahead: how it grows, how long it is. Of no program.
  Numbers, registers and Args as the program writes and reads them, plainly: what is read is what would be written so. Of no program.
-/
import Derived.Maps.OwnSet
import Derived.Maps.RangeWalk
import Derived.Lib.AtoiAllCases
import Derived.Lib.ItoaNum

namespace Go.Proofs.YtcdlchcmidfhiaaGreatDoor
open Go.Maps Go.RowKit

/-- How a map's elements are told by data, each by its own. -/
structure Enc (V : Type) where
  val : V → Value
  dat : V → DataW Unit
  R : Value → Option (DataW Unit × List MemPlace)
  ok : ∀ v, R (val v) = some (dat v, [])
  inv : ∀ x y, R x = some y → ∃ v, x = val v ∧ y = (dat v, [])
  inj : ∀ u v, dat u = dat v → u = v

def ik (k : Int) : Lit := .int .i64 k

theorem ik_key (k : Int) : WideAt.IsKeyLit (ik k) := trivial
theorem ik_ne {a b : Int} (h : a ≠ b) : ik a ≠ ik b := fun e => h (by unfold ik at e; injection e)

section
variable {V : Type}

/-- The datum D has at k what f says. -/
def Reads (E : Enc V) (D : DataW Unit) (f : Int → Option V) : Prop :=
  ∀ k, has D (ik k) = (f k).isSome ∧ ∀ z, D.atKey (ik k) z = (match f k with | some v => E.dat v | none => z)

def upd (f : Int → Option V) (k : Int) (v : V) : Int → Option V := fun j => if j = k then some v else f j

theorem Reads.empty (E : Enc V) : Reads E (.map []) (fun _ => none) := fun _ => ⟨rfl, fun _ => rfl⟩

theorem Reads.put {E : Enc V} {D : DataW Unit} {f : Int → Option V} (h : Reads E D f) (hD : IsMap D) (k : Int) (v : V) : Reads E (D.put (ik k) (E.dat v)) (upd f k v) := by
  intro j
  by_cases e : j = k
  · subst e
    simp only [upd, if_true, Option.isSome]
    exact ⟨has_put_same hD (ik_key _) _, fun z => atKey_put_same hD (ik_key _) _ z⟩
  · simp only [upd, if_neg e]
    exact ⟨(has_put_other (ik_ne e) _).trans (h j).1, fun z => (atKey_put_other (ik_ne e) _ z).trans ((h j).2 z)⟩

/-- Block b is a map that has at k what f says. -/
def HoldsM (P : Program) (K : TypeId) (E : Enc V) (w : World) (b : Nat) (f : Int → Option V) : Prop :=
  ∃ D n, w.ownsMap P K E.R b n D ∧ n = Maps.size D ∧ Reads E D f

open Classical in
theorem subset_length {α : Type} : ∀ {a b : List α}, a.Nodup → (∀ x ∈ a, x ∈ b) → a.length ≤ b.length
  | [], _, _, _ => Nat.zero_le _
  | x :: t, b, hn, hs => by
    have hx : x ∈ b := hs x (List.mem_cons_self ..)
    have h1 := List.length_erase_of_mem hx
    have h2 : 0 < b.length := List.length_pos_of_mem hx
    have hn' := List.nodup_cons.1 hn
    have h3 := subset_length (a := t) (b := b.erase x) hn'.2 (fun y hy => (List.mem_erase_of_ne (fun e : y = x => hn'.1 (by rw [← e]; exact hy))).2 (hs y (List.mem_cons_of_mem _ hy)))
    simp only [List.length_cons]
    omega

variable {P : Program} {K T e : TypeId} {E : Enc V} {w w' : World} {b : Nat} {f : Int → Option V}

theorem HoldsM.lt (h : HoldsM P K E w b f) : b < w.heap.size := by obtain ⟨_, _, h, _⟩ := h; exact h.lt
theorem HoldsM.made (P : Program) (K : TypeId) (E : Enc V) (w : World) : HoldsM P K E (w.alloc (.map #[] 0)) w.heap.size (fun _ => none) :=
  ⟨_, 0, World.ownsMap_made _ _ _ _, rfl, Reads.empty E⟩
theorem HoldsM.of_block (h : HoldsM P K E w b f) (hb : w'.heap[b]? = w.heap[b]?) : HoldsM P K E w' b f := by
  obtain ⟨D, n, ⟨es, clock, h1, h2⟩, h3⟩ := h
  exact ⟨D, n, ⟨es, clock, hb.trans h1, h2⟩, h3⟩

/-- A map has no more entries than a list that names all its keys. -/
theorem size_le {n : Nat} {D : DataW Unit} (hk : P.underlying K = some (.int .i64)) (h : w.ownsMap P K E.R b n D) (hr : Reads E D f) (l : List Int) (hl : ∀ k, (f k).isSome = true → k ∈ l) : Maps.size D ≤ l.length := by
  have K' := int_keyed hk
  obtain ⟨es, rfl, hp, _⟩ := h.entries K'
  have hkeys : ∀ p ∈ es, ∃ x, p.1 = ik x := by
    intro p hp
    obtain ⟨es0, clock, _, F, _, hD⟩ := h
    injection hD with hD
    rw [hD] at hp
    obtain ⟨x, hx, rfl⟩ := List.mem_map.1 (mem_sorted.1 hp)
    obtain ⟨y, hy⟩ := F.reads x hx
    obtain ⟨a, _, ha, _⟩ := Maps.keyOf_int_inv hk (WideElems.rd_key hy)
    exact ⟨a, by rw [WideElems.rg_of hy]; exact ha⟩
  have hn : (es.map (·.1)).Nodup := List.pairwise_map.2 hp
  have := subset_length hn (b := l.map ik) (fun x hx => by
    obtain ⟨p, hp, rfl⟩ := List.mem_map.1 hx
    obtain ⟨k, hk⟩ := hkeys p hp
    rw [hk]
    refine List.mem_map.2 ⟨k, hl k ?_, rfl⟩
    rw [← (hr k).1, has_eq, List.any_eq_true]
    exact ⟨p, hp, by rw [hk]; exact WideAt.sameKey_self (ik_key k)⟩)
  simpa [Maps.size] using this

theorem HoldsM.look (h : HoldsM P K E w b f) (hk : P.underlying K = some (.int .i64)) (ht : P.underlying T = some (.map K e)) (zv : V) (hz : (zeroValue e).run P w = .ok (E.val zv) w) (k : Int) (hw : (Lit.int .i64 k).wf = true) :
    (Instr.lookup T (.map (some b)) (.int .i64 k) false).run P w = .ok (E.val ((f k).getD zv)) w := by
  obtain ⟨D, n, h1, _, h3⟩ := h
  obtain ⟨v, ps, hr, hv⟩ := h1.lookup (int_keyed hk) ht hz (E.ok zv) (keyOf_int_mk hk hw)
  rw [hr]
  obtain ⟨u, rfl, hy⟩ := E.inv _ _ hv
  have h5 := congrArg Prod.fst hy
  have h4 := (h3 k).2 (E.dat zv)
  simp only at h5
  unfold ik at h4
  rw [h4] at h5
  cases hf : f k with
  | none => rw [hf] at h5; rw [← E.inj _ _ h5]; rfl
  | some x => rw [hf] at h5; rw [← E.inj _ _ h5]; rfl

theorem HoldsM.look_ok (h : HoldsM P K E w b f) (hk : P.underlying K = some (.int .i64)) (ht : P.underlying T = some (.map K e)) (zv : V) (hz : (zeroValue e).run P w = .ok (E.val zv) w) (k : Int) (hw : (Lit.int .i64 k).wf = true) :
    (Instr.lookup T (.map (some b)) (.int .i64 k) true).run P w = .ok (.tuple #[E.val ((f k).getD zv), .bool (f k).isSome]) w := by
  obtain ⟨D, n, h1, _, h3⟩ := h
  obtain ⟨v, ps, hr, hv⟩ := h1.look_ok (int_keyed hk) ht hz (E.ok zv) (keyOf_int_mk hk hw)
  rw [hr]
  have h6 := (h3 k).1
  unfold ik at h6
  rw [h6]
  obtain ⟨u, rfl, hy⟩ := E.inv _ _ hv
  have h5 := congrArg Prod.fst hy
  have h4 := (h3 k).2 (E.dat zv)
  simp only at h5
  unfold ik at h4
  rw [h4] at h5
  cases hf : f k with
  | none => rw [hf] at h5; rw [← E.inj _ _ h5]; rfl
  | some x => rw [hf] at h5; rw [← E.inj _ _ h5]; rfl

theorem HoldsM.store (h : HoldsM P K E w b f) (hk : P.underlying K = some (.int .i64)) (ht : P.underlying T = some (.map K e)) (l : List Int) (hl : ∀ j, (f j).isSome = true → j ∈ l) (hlen : l.length < maxLen) (k : Int) (hw : (Lit.int .i64 k).wf = true) (v : V) :
    ∃ w', (Instr.mapUpdate T (.map (some b)) (.int .i64 k) (E.val v)).run P w = .ok () w' ∧ HoldsM P K E w' b (upd f k v) ∧ w.grownBy w' (some b) := by
  obtain ⟨D, n, h1, rfl, h3⟩ := h
  have hs := size_le hk h1 h3 l hl
  obtain ⟨w', hr, h4, h5⟩ := h1.update (int_keyed hk) ht (Nat.lt_of_le_of_lt hs hlen) (keyOf_int_mk hk hw) (E.ok v)
  refine ⟨w', hr, ⟨_, Maps.size (D.put (ik k) (E.dat v)), ?_, rfl, h3.put h1.isMap k v⟩, h5⟩
  obtain ⟨es, clock, hb, F, _, hD⟩ := h4
  refine ⟨es, clock, hb, F, ?_, hD⟩
  show es.size ≤ Maps.size (D.put (.int .i64 k) (E.dat v))
  rw [hD]
  simp [Maps.size, length_sorted]
end

/-! ### at the operation -/
section
variable {V : Type} {P : Program} (w : World) {ops : Array Oper} {rest : List Oper} {o : Oper} {a : Act} {Q : Exit → Act → World → Prop}

theorem wpList_look (hg : o.guard = none) (m x : Operand) (t : TypeId) (hop : o.op = Op.lookup t m x false) (k e : TypeId) (E : Enc V) (hk : P.underlying k = some (.int .i64)) (ht : P.underlying t = some (.map k e)) (zv : V) (hz : (zeroValue e).run P w = .ok (E.val zv) w) (b : Nat) (f : Int → Option V)
    (hm : a.eval m = .map (some b)) (h : HoldsM P k E w b f) (i : Int) (hx : a.eval x = .int .i64 i) (hw : (Lit.int .i64 i).wf = true) (u : Value) (hu : E.val ((f i).getD zv) = u)
    (hK : wpList P ops Q rest (a.put o.dst u) w) : wpList P ops Q (o :: rest) a w := by
  subst hu
  refine wpList_plain hg fun K' hK' => ?_
  have hrun := h.look hk ht zv hz i hw
  unfold Oper.wp
  simp [execOp, hop, hm, hx, hrun, Result.andThen]
  exact hK' _ _ hK

theorem wpList_look_ok (hg : o.guard = none) (m x : Operand) (t : TypeId) (hop : o.op = Op.lookup t m x true) (k e : TypeId) (E : Enc V) (hk : P.underlying k = some (.int .i64)) (ht : P.underlying t = some (.map k e)) (zv : V) (hz : (zeroValue e).run P w = .ok (E.val zv) w) (b : Nat) (f : Int → Option V)
    (hm : a.eval m = .map (some b)) (h : HoldsM P k E w b f) (i : Int) (hx : a.eval x = .int .i64 i) (hw : (Lit.int .i64 i).wf = true) (u : Value) (c : Bool) (hu : E.val ((f i).getD zv) = u) (hc : (f i).isSome = c)
    (hK : wpList P ops Q rest (a.put o.dst (.tuple #[u, .bool c])) w) : wpList P ops Q (o :: rest) a w := by
  subst hu
  subst hc
  refine wpList_plain hg fun K' hK' => ?_
  have hrun := h.look_ok hk ht zv hz i hw
  unfold Oper.wp
  simp [execOp, hop, hm, hx, hrun, Result.andThen]
  exact hK' _ _ hK

theorem wpList_upd (hg : o.guard = none) (m x v : Operand) (t : TypeId) (hop : o.op = Op.mapUpdate t m x v) (k e : TypeId) (E : Enc V) (hk : P.underlying k = some (.int .i64)) (ht : P.underlying t = some (.map k e)) (b : Nat) (f : Int → Option V)
    (hm : a.eval m = .map (some b)) (h : HoldsM P k E w b f) (l : List Int) (hl : ∀ j, (f j).isSome = true → j ∈ l) (hlen : l.length < maxLen) (i : Int) (hx : a.eval x = .int .i64 i) (hw : (Lit.int .i64 i).wf = true) (u : V) (hv : a.eval v = E.val u)
    (hK : ∀ w', HoldsM P k E w' b (upd f i u) → w.grownBy w' (some b) → wpList P ops Q rest (a.put o.dst undef) w') : wpList P ops Q (o :: rest) a w := by
  refine wpList_plain hg fun K' hK' => ?_
  obtain ⟨w', hrun, r1, r2⟩ := h.store hk ht l hl hlen i hw u
  unfold Oper.wp
  simp [execOp, hop, hm, hx, hv, hrun, Result.andThen]
  exact hK' _ _ (hK w' r1 r2)

/-- 'for .. range m' under way: 'left': which keys are still to come. -/
def Ranging (P : Program) (k : TypeId) (E : Enc V) (w : World) (b r : Nat) (f : Int → Option V) (left : Int → Bool) (cnt : Nat) : Prop :=
  ∃ D n lf, w.ranges P k E.R b r n D lf cnt ∧ Reads E D f ∧ ∀ i, lf (ik i) = left i

theorem Ranging.left_eq {E : Enc V} {k : TypeId} {b r cnt : Nat} {f : Int → Option V} {left : Int → Bool} {w : World} (h : Ranging P k E w b r f left cnt) : w.rangeLeft b r = cnt := by
  obtain ⟨D, n, lf, h, _⟩ := h; exact h.left_eq
theorem Ranging.kept {E : Enc V} {k : TypeId} {b r cnt : Nat} {f : Int → Option V} {left : Int → Bool} {w w' : World} {row : Option Nat} (h : Ranging P k E w b r f left cnt) (hg : w.grownBy w' row) (hb : some b ≠ row) (hr : some r ≠ row) : Ranging P k E w' b r f left cnt := by
  obtain ⟨D, n, lf, h, h2⟩ := h; exact ⟨D, n, lf, h.kept hg hb hr, h2⟩
theorem Ranging.alloc {E : Enc V} {k : TypeId} {b r cnt : Nat} {f : Int → Option V} {left : Int → Bool} {w : World} (h : Ranging P k E w b r f left cnt) (o : Obj) : Ranging P k E (w.alloc o) b r f left cnt := by
  obtain ⟨D, n, lf, h, h2⟩ := h; exact ⟨D, n, lf, h.alloc o, h2⟩

theorem wpList_ranging (hg : o.guard = none) (m : Operand) (t : TypeId) (hop : o.op = Op.range t m) (k e : TypeId) (E : Enc V) (hk : P.underlying k = some (.int .i64)) (ht : P.underlying t = some (.map k e)) (b : Nat) (f : Int → Option V)
    (hm : a.eval m = .map (some b)) (h : HoldsM P k E w b f)
    (hK : ∀ w' cnt, Ranging P k E w' b w.heap.size f (fun i => (f i).isSome) cnt → w.grownBy w' none → w'.heap.size = w.heap.size + 1 → wpList P ops Q rest (a.put o.dst (.pointer (some ⟨w.heap.size, 0, none⟩))) w') :
    wpList P ops Q (o :: rest) a w := by
  obtain ⟨D, n, h1, _, h3⟩ := h
  exact wpList_range_own w hg m t hop k e (int_keyed hk) ht E.R b n D hm h1 fun w' h4 h5 h6 => hK w' _ ⟨D, n, _, h4, h3, fun i => (h3 i).1⟩ h5 h6

theorem wpList_next_ranging (hg : o.guard = none) (it : Operand) (hop : o.op = Op.next it false) (k : TypeId) (E : Enc V) (hk : P.underlying k = some (.int .i64)) (b r : Nat) (f : Int → Option V) (left : Int → Bool) (cnt : Nat)
    (hit : a.eval it = .pointer (some ⟨r, 0, none⟩)) (h : Ranging P k E w b r f left cnt)
    (hDone : (∀ i, left i = false) → wpList P ops Q rest (a.put o.dst (.tuple #[.bool false])) w)
    (hMore : ∀ (x : Int) (c : V) (w' : World) (cnt' : Nat), (Lit.int .i64 x).wf = true → left x = true → f x = some c → Ranging P k E w' b r f (fun i => left i && !decide (i = x)) cnt' → cnt' < cnt →
      w.grownBy w' (some r) → w'.heap.size = w.heap.size → (Instr.entry (.pointer (some ⟨r, 0, none⟩))).run P w' = .ok (.tuple #[.int .i64 x, E.val c]) w' → wpList P ops Q rest (a.put o.dst (.tuple #[.bool true, .int .i64 x, E.val c])) w') :
    wpList P ops Q (o :: rest) a w := by
  obtain ⟨D, n, lf, h1, h2, h3⟩ := h
  refine wpList_next_ranges w hg it hop k (int_keyed hk) E.R (Value.int .i64) E.val (fun key kl hkey => by obtain ⟨x, rfl, _⟩ := Maps.keyOf_int_inv hk hkey; exact ⟨x, rfl⟩) (fun v y hv => by obtain ⟨c, rfl, _⟩ := E.inv _ _ hv; exact ⟨c, rfl⟩)
    b r n D lf cnt hit h1 (fun _ hl => hDone fun i => (h3 i).symm.trans (hl _)) (fun x c kl y w' cnt' hkey hlk hv hat hrg hlt hgr hsz hen => ?_)
  obtain ⟨x', ex, rfl, hwx⟩ := Maps.keyOf_int_inv hk hkey
  cases ex
  have hfx : f x = some c := by
    rw [E.ok] at hv
    injection hv with hv
    subst hv
    have h4 := (h2 x).2 .nil
    have h5 := (h2 x).2 (.agg [])
    unfold ik at h4 h5
    rw [hat] at h4 h5
    cases hf : f x with
    | none =>
      rw [hf] at h4 h5
      rw [h4] at h5
      cases h5
    | some u =>
      rw [hf] at h4
      rw [E.inj _ _ h4]
  exact hMore x c w' cnt' hwx ((h3 x).symm.trans hlk) hfx ⟨D, n, _, hrg, h2, fun i => by
    show (lf (ik i) && !(ik i).sameKey (ik x)) = _
    rw [h3 i]
    simp [ik, Lit.sameKey]⟩ hlt hgr hsz hen
end
end Go.Proofs.YtcdlchcmidfhiaaGreatDoor

namespace Go.Proofs.YtcdlchcmidfhiaaGreatDoor
open Go.Maps Go.RowKit

def clr {V : Type} (f : Int → Option V) (k : Int) : Int → Option V := fun j => if j = k then none else f j

section
variable {V : Type} {P : Program} {K T e : TypeId} {E : Enc V} {w w' : World} {b : Nat} {f : Int → Option V}

theorem Reads.del {D : DataW Unit} (h : Reads E D f) (k : Int) : Reads E (D.del (ik k)) (clr f k) := by
  intro j
  by_cases e : j = k
  · subst e
    simp only [clr, if_true, Option.isSome]
    exact ⟨has_del_same, fun z => atKey_del_same z⟩
  · simp only [clr, if_neg e]
    exact ⟨(has_del_other (ik_ne e)).trans (h j).1, fun z => (atKey_del_other (ik_ne e) z).trans ((h j).2 z)⟩

theorem HoldsM.drop (h : HoldsM P K E w b f) (hk : P.underlying K = some (.int .i64)) (ht : P.underlying T = some (.map K e)) (k : Int) (hw : (Lit.int .i64 k).wf = true) (ty : TypeId) :
    ∃ w', (Builtin.delete_ #[T, K] ty #[.map (some b), .int .i64 k]).run P w = .ok (.tuple #[]) w' ∧ HoldsM P K E w' b (clr f k) ∧ w.grownBy w' (some b) := by
  obtain ⟨D, n, h1, rfl, h3⟩ := h
  obtain ⟨w', hrun, h4, h5⟩ := h1.drop (int_keyed hk) ht (keyOf_int_mk hk hw) ty
  refine ⟨w', hrun, ⟨_, Maps.size (D.del (ik k)), ?_, rfl, h3.del k⟩, h5.grown⟩
  obtain ⟨es, clock, hb, F, _, hD⟩ := h4
  refine ⟨es, clock, hb, F, ?_, hD⟩
  show es.size ≤ Maps.size (D.del (.int .i64 k))
  rw [hD]
  simp [Maps.size, length_sorted]
end

theorem wpList_drop {V : Type} {P : Program} (w : World) {ops : Array Oper} {rest : List Oper} {o : Oper} {a : Act} {Q : Exit → Act → World → Prop} (hg : o.guard = none) (m x : Operand) (t k : TypeId) (hop : o.op = Op.call { callee := Callee.builtin Builtin.delete, args := #[m, x], argTypes := #[t, k] })
    (e : TypeId) (E : Enc V) (hk : P.underlying k = some (.int .i64)) (ht : P.underlying t = some (.map k e)) (b : Nat) (f : Int → Option V) (hm : a.eval m = .map (some b)) (h : HoldsM P k E w b f) (i : Int) (hx : a.eval x = .int .i64 i) (hw : (Lit.int .i64 i).wf = true)
    (hK : ∀ w', HoldsM P k E w' b (clr f i) → w.grownBy w' (some b) → wpList P ops Q rest (a.put o.dst (.tuple #[])) w') : wpList P ops Q (o :: rest) a w := by
  refine wpList_plain hg fun K' hK' => ?_
  obtain ⟨w', hrun, r1, r2⟩ := h.drop hk ht i hw o.type
  unfold Oper.wp
  simp [execOp, hop, resolve, invoke, builtin, hm, hx, hrun, Result.andThen]
  exact hK' _ _ (hK w' r1 r2)
end Go.Proofs.YtcdlchcmidfhiaaGreatDoor

namespace Go.Proofs.YtcdlchcmidfhiaaGreatDoor
open Go.Maps Go.RowKit

/-- A map has as many entries as a list that names its keys, each once. -/
theorem HoldsM.size_eq {V : Type} {P : Program} {K : TypeId} {E : Enc V} {w : World} {b : Nat} {f : Int → Option V} {D : DataW Unit} {n : Nat} (hk : P.underlying K = some (.int .i64)) (h : w.ownsMap P K E.R b n D) (hr : Reads E D f) (l : List Int) (hn : l.Nodup) (hl : ∀ k, k ∈ l ↔ (f k).isSome = true) : Maps.size D = l.length := by
  refine Nat.le_antisymm (size_le hk h hr l fun k hk => (hl k).2 hk) ?_
  obtain ⟨es, rfl, hp, _⟩ := h.entries (int_keyed hk)
  have hn' : (l.map ik).Nodup := List.pairwise_map.2 (hn.imp fun h => ik_ne h)
  have := subset_length hn' (b := es.map (·.1)) (fun x hx => by
    obtain ⟨k, hk, rfl⟩ := List.mem_map.1 hx
    have h1 := (hr k).1
    rw [(hl k).1 hk, has_eq, List.any_eq_true] at h1
    obtain ⟨p, hp, hs⟩ := h1
    exact List.mem_map.2 ⟨p, hp, WideAt.sameKey_eq hs⟩)
  simpa [Maps.size] using this
/-- A list that names just the keys, each once. -/
def Keys {V : Type} (f : Int → Option V) (l : List Int) : Prop := l.Nodup ∧ ∀ k, k ∈ l ↔ (f k).isSome = true

theorem Keys.len {V : Type} {f : Int → Option V} {l m : List Int} (h : Keys f l) (k : Keys f m) : l.length = m.length :=
  Nat.le_antisymm (subset_length h.1 fun x hx => (k.2 x).2 ((h.2 x).1 hx)) (subset_length k.1 fun x hx => (h.2 x).2 ((k.2 x).1 hx))

/-- Rising, none twice. -/
abbrev Up (l : List Int) : Prop := l.Pairwise (· < ·)

theorem Up.nodup {l : List Int} (h : Up l) : l.Nodup := h.imp fun h => by omega

theorem Up.unique : ∀ {l m : List Int}, Up l → Up m → l.Perm m → l = m := fun {l m} hl hm hp =>
  List.Perm.eq_of_pairwise (le := fun a b : Int => a < b) (fun a b _ _ h1 h2 => by omega) hl hm hp

theorem Keys.perm {V : Type} {f : Int → Option V} {l m : List Int} (h : Keys f l) (k : Keys f m) : l.Perm m :=
  (List.perm_ext_iff_of_nodup h.1 k.1).2 fun x => by rw [h.2 x, k.2 x]

/-- A plain list of cells with numbers. -/
abbrev Tl := List (Int × Int)

def look : Tl → Int → Option Int
  | [], _ => none
  | (c, v) :: t, k => if k = c then some v else look t k

/-- The place of a cell, from 1 on; 0: none. -/
def plc : Tl → Int → Nat
  | [], _ => 0
  | (c, _) :: t, k => if k = c then 1 else if plc t k = 0 then 0 else plc t k + 1

def low (W : Tl) (c : Int) : Tl := W.filter fun p => decide (p.1 < c)
def high (W : Tl) (c : Int) : Tl := W.filter fun p => decide (c < p.1)
/-- A cell has a value now. -/
def put (W : Tl) (c v : Int) : Tl := low W c ++ (c, v) :: high W c

/-- Rising cells, none twice. -/
def UpW (W : Tl) : Prop := Up (W.map (·.1))

/-! ### look -/
theorem look_mem {W : Tl} {k : Int} : (look W k).isSome = true ↔ k ∈ W.map (·.1) := by
  induction W with
  | nil => simp [look]
  | cons p t ih =>
    obtain ⟨c, v⟩ := p
    simp only [look, List.map_cons, List.mem_cons]
    by_cases e : k = c
    · simp [e]
    · simp [e, ih]
theorem look_none {W : Tl} {k : Int} : look W k = none ↔ k ∉ W.map (·.1) := by
  rw [← look_mem]
  cases look W k <;> simp
theorem look_keys {W : Tl} (h : UpW W) : Keys (look W) (W.map (·.1)) := ⟨Up.nodup h, fun _ => look_mem.symm⟩
theorem look_app (V W : Tl) (k : Int) : look (V ++ W) k = (look V k).or (look W k) := by
  induction V with
  | nil => simp [look]
  | cons p t ih =>
    obtain ⟨c, v⟩ := p
    simp only [List.cons_append, look]
    by_cases e : k = c
    · simp [e]
    · simp [e, ih]
theorem look_filter (W : Tl) (p : Int → Bool) (k : Int) : look (W.filter fun x => p x.1) k = if p k = true then look W k else none := by
  induction W with
  | nil => simp [look]
  | cons x t ih =>
    obtain ⟨c, v⟩ := x
    by_cases hp : p c = true
    · rw [List.filter_cons_of_pos (by simpa using hp)]
      simp only [look]
      by_cases e : k = c
      · subst e; simp [hp]
      · simp [e, ih]
    · rw [List.filter_cons_of_neg (by simpa using hp), ih]
      simp only [look]
      by_cases e : k = c
      · subst e; simp [hp]
      · simp [e]
theorem look_put (W : Tl) (c v k : Int) : look (put W c v) k = if k = c then some v else look W k := by
  unfold put low high
  rw [look_app, look_filter W (fun x => decide (x < c))]
  simp only [look]
  rw [look_filter W (fun x => decide (c < x))]
  by_cases e : k = c
  · subst e; simp
  · rcases Int.lt_or_gt_of_ne e with h | h
    · have h' : ¬ c < k := by omega
      simp [e, h, h']
    · have h' : ¬ k < c := by omega
      simp [e, h, h']
theorem look_put_upd (W : Tl) (c v : Int) : look (put W c v) = upd (look W) c v := funext fun k => look_put W c v k

theorem up_put {W : Tl} (h : UpW W) (c v : Int) : UpW (put W c v) := by
  unfold UpW Up put low high
  rw [List.map_append, List.map_cons]
  have h' : W.Pairwise (fun a b => a.1 < b.1) := List.pairwise_map.1 h
  refine List.pairwise_append.2 ⟨List.pairwise_map.2 (h'.filter _), List.pairwise_cons.2 ⟨?_, List.pairwise_map.2 (h'.filter _)⟩, ?_⟩
  · intro x hx
    obtain ⟨p, hp, rfl⟩ := List.mem_map.1 hx
    simpa using (List.mem_filter.1 hp).2
  · intro a ha b hb
    obtain ⟨p, hp, rfl⟩ := List.mem_map.1 ha
    have h1 : p.1 < c := by simpa using (List.mem_filter.1 hp).2
    rcases List.mem_cons.1 hb with rfl | hb
    · exact h1
    · obtain ⟨q, hq, rfl⟩ := List.mem_map.1 hb
      have h2 : c < q.1 := by simpa using (List.mem_filter.1 hq).2
      omega

theorem len_put_there {W : Tl} (h : UpW W) {c v : Int} (hc : look W c ≠ none) : (put W c v).length = W.length := by
  have h1 := look_keys (up_put h c v)
  have h2 := look_keys h
  have h3 : Keys (look (put W c v)) (W.map (·.1)) := ⟨h2.1, fun k => by
    rw [h2.2 k, look_put]
    by_cases e : k = c
    · subst e; simp; cases h : look W k <;> simp_all
    · simp [e]⟩
  simpa using h1.len h3
theorem len_put_new {W : Tl} (h : UpW W) {c v : Int} (hc : look W c = none) : (put W c v).length = W.length + 1 := by
  have h1 := look_keys (up_put h c v)
  have h2 := look_keys h
  have h3 : Keys (look (put W c v)) (c :: W.map (·.1)) := ⟨List.nodup_cons.2 ⟨look_none.1 hc, h2.1⟩, fun k => by
    rw [List.mem_cons, h2.2 k, look_put]
    by_cases e : k = c
    · simp [e]
    · simp [e]⟩
  simpa using h1.len h3

/-- What is told by rising cells is told in one way. -/
theorem up_ext : ∀ {V W : Tl}, UpW V → UpW W → (∀ k, look V k = look W k) → V = W
  | [], [], _, _, _ => rfl
  | [], (d, u) :: s, _, _, h => by have := h d; simp [look] at this
  | (c, v) :: t, [], _, _, h => by have := h c; simp [look] at this
  | (c, v) :: t, (d, u) :: s, hV, hW, h => by
    have hV' := List.pairwise_cons.1 hV
    have hW' := List.pairwise_cons.1 hW
    have hcd : c = d := by
      have m1 : c ∈ ((d, u) :: s).map (·.1) := look_mem.1 (by rw [← h c]; simp [look])
      have m2 : d ∈ ((c, v) :: t).map (·.1) := look_mem.1 (by rw [h d]; simp [look])
      rcases List.mem_cons.1 m1 with e | m1
      · exact e
      · rcases List.mem_cons.1 m2 with e | m2
        · exact e.symm
        · have a1 := hW'.1 c m1
          have a2 := hV'.1 d m2
          simp only at a1 a2
          omega
    subst hcd
    have hvu : v = u := by have := h c; simpa [look] using this
    subst hvu
    have ht : t = s := up_ext hV'.2 hW'.2 fun k => by
      by_cases e : k = c
      · subst e
        rw [look_none.2 fun m => by have := hV'.1 k m; simp at this, look_none.2 fun m => by have := hW'.1 k m; simp at this]
      · have := h k
        simpa [look, e] using this
    rw [ht]

/-! ### places -/
theorem plc_zero {R : Tl} {k : Int} : plc R k = 0 ↔ look R k = none := by
  induction R with
  | nil => simp [plc, look]
  | cons p t ih =>
    obtain ⟨c, v⟩ := p
    simp only [plc, look]
    by_cases e : k = c
    · simp [e]
    · simp only [e, if_false]
      rw [← ih]
      by_cases h : plc t k = 0 <;> simp [h]
theorem plc_le {R : Tl} {k : Int} : plc R k ≤ R.length := by
  induction R with
  | nil => simp [plc]
  | cons p t ih =>
    obtain ⟨c, v⟩ := p
    simp only [plc, List.length_cons]
    split
    · omega
    · split <;> omega
/-- Where a cell stands. -/
theorem plc_at {R : Tl} {k : Int} (h : plc R k ≠ 0) : ∃ v, R[plc R k - 1]? = some (k, v) ∧ look R k = some v := by
  induction R with
  | nil => simp [plc] at h
  | cons p t ih =>
    obtain ⟨c, v⟩ := p
    simp only [plc, look] at h ⊢
    by_cases e : k = c
    · subst e; exact ⟨v, by simp, by simp⟩
    · simp only [e, if_false] at h ⊢
      by_cases h0 : plc t k = 0
      · simp [h0] at h
      · obtain ⟨u, h1, h2⟩ := ih h0
        refine ⟨u, ?_, h2⟩
        rw [if_neg h0]
        have : plc t k + 1 - 1 = (plc t k - 1) + 1 := by omega
        rw [this, List.getElem?_cons_succ]
        exact h1
theorem plc_snoc {R : Tl} {c v k : Int} (h : look R c = none) : plc (R ++ [(c, v)]) k = if k = c then R.length + 1 else plc R k := by
  induction R with
  | nil => simp [plc]
  | cons p t ih =>
    obtain ⟨d, u⟩ := p
    simp only [look] at h
    by_cases e : c = d
    · simp [e] at h
    · simp only [e, if_false] at h
      simp only [List.cons_append, plc, List.length_cons]
      by_cases e2 : k = d
      · subst e2
        have : ¬ k = c := fun e' => e e'.symm
        simp [this]
      · simp only [e2, if_false]
        rw [ih h]
        by_cases e3 : k = c
        · simp [e3]
        · simp [e3]

/-! ### on the way through a list -/
theorem plc_first {R : Tl} {c v : Int} {i : Nat} (h : ∀ (j : Nat) (p : Int × Int), j < i → R[j]? = some p → p.1 ≠ c) (hi : R[i]? = some (c, v)) : plc R c = i + 1 ∧ look R c = some v := by
  induction R generalizing i with
  | nil => simp at hi
  | cons q t ih =>
    obtain ⟨d, u⟩ := q
    cases i with
    | zero =>
      simp at hi
      obtain ⟨rfl, rfl⟩ := hi
      simp [plc, look]
    | succ i =>
      have hd : ¬ c = d := fun e => h 0 (d, u) (by omega) rfl e.symm
      obtain ⟨h1, h2⟩ := ih (i := i) (fun j p hj hp => h (j + 1) p (by omega) (by simpa using hp)) (by simpa using hi)
      simp only [plc, look, if_neg hd]
      refine ⟨?_, h2⟩
      rw [h1, if_neg (by omega)]
theorem plc_no {R : Tl} {c : Int} (h : ∀ (j : Nat) (p : Int × Int), R[j]? = some p → p.1 ≠ c) : plc R c = 0 ∧ look R c = none := by
  have : look R c = none := look_none.2 fun hm => by
    obtain ⟨p, hp, e⟩ := List.mem_map.1 hm
    obtain ⟨j, hj, rfl⟩ := List.getElem_of_mem hp
    exact h j _ (List.getElem?_eq_getElem hj) e
  exact ⟨plc_zero.2 this, this⟩

theorem put_all {T : Tl} {c v : Int} (h : ∀ x ∈ T, x.1 < c) : put T c v = T ++ [(c, v)] := by
  unfold put low high
  rw [List.filter_eq_self.2 (fun x hx => by simpa using h x hx), List.filter_eq_nil_iff.2 (fun x hx => by have := h x hx; simp; omega)]
theorem put_eq {T : Tl} {c u v : Int} (h : ∀ x ∈ T, x.1 < c) : put (T ++ [(c, u)]) c v = T ++ [(c, v)] := by
  unfold put low high
  rw [List.filter_append, List.filter_append, List.filter_eq_self.2 (fun x hx => by simpa using h x hx), show T.filter (fun p => decide (c < p.1)) = [] from List.filter_eq_nil_iff.2 (fun x hx => by have := h x hx; simp; omega)]
  simp
theorem put_gt {T : Tl} {c d u v : Int} (h : c < d) : put (T ++ [(d, u)]) c v = put T c v ++ [(d, u)] := by
  unfold put low high
  have h' : ¬ d < c := by omega
  simp [List.filter_append, h, h']

theorem up_at {W : Tl} (h : UpW W) {i j : Nat} {p q : Int × Int} (hp : W[i]? = some p) (hq : W[j]? = some q) (hij : i < j) : p.1 < q.1 := by
  have h' : W.Pairwise (fun a b => a.1 < b.1) := List.pairwise_map.1 h
  obtain ⟨hi, rfl⟩ := List.getElem?_eq_some_iff.1 hp
  obtain ⟨hj, rfl⟩ := List.getElem?_eq_some_iff.1 hq
  exact List.pairwise_iff_getElem.1 h' i j hi hj hij

/-- The list under way. -/
def wl (T : Tl) (c v : Int) (p : Bool) : Tl := if p = true then put T c v else T
/-- Whether the cell has been put. -/
def wp_ (T : Tl) (c : Int) (p : Bool) : Prop := (p = false → ∀ x ∈ T, x.1 < c) ∧ (p = true → ∃ x ∈ T, c ≤ x.1)

end Go.Proofs.YtcdlchcmidfhiaaGreatDoor

namespace Go.Proofs.YtcdlchcmidfhiaaGreatDoor

/-- A statement, apart from those in it. -/
structure St7 where
  k : Int
  c : Int
  r : Int
  ar : Int
  an : Int
  br : Int
  bn : Int

/-- Statements in order, each with its Body and its Else. -/
inductive Fo where
  | nil : Fo
  | cons (s : St7) (B E R : Fo) : Fo

namespace Fo
def items : Fo → List (St7 × Fo × Fo)
  | .nil => []
  | .cons s B E R => (s, B, E) :: R.items
def ofItems : List (St7 × Fo × Fo) → Fo
  | [] => .nil
  | (s, B, E) :: t => .cons s B E (ofItems t)
def len (F : Fo) : Nat := F.items.length
def size : Fo → Nat
  | .nil => 0
  | .cons _ B E R => 1 + B.size + E.size + R.size
def deep : Fo → Nat
  | .nil => 0
  | .cons _ B E R => max (1 + B.deep) (max (1 + E.deep) R.deep)
def app : Fo → Fo → Fo
  | .nil, G => G
  | .cons s B E R, G => .cons s B E (app R G)

theorem items_of (l : List (St7 × Fo × Fo)) : (ofItems l).items = l := by
  induction l with
  | nil => rfl
  | cons x t ih => obtain ⟨s, B, E⟩ := x; simp [ofItems, items, ih]
theorem of_items : ∀ F : Fo, ofItems F.items = F
  | .nil => rfl
  | .cons s B E R => by simp [items, ofItems, of_items R]
theorem items_app : ∀ F G : Fo, (F.app G).items = F.items ++ G.items
  | .nil, G => rfl
  | .cons s B E R, G => by simp [app, items, items_app R G]
theorem size_app : ∀ F G : Fo, (F.app G).size = F.size + G.size
  | .nil, G => by simp [app, size]
  | .cons s B E R, G => by simp [app, size, size_app R G]; omega
theorem deep_app : ∀ F G : Fo, (F.app G).deep = max F.deep G.deep
  | .nil, G => by simp [app, deep]
  | .cons s B E R, G => by simp [app, deep, deep_app R G]
theorem item_size : ∀ {F : Fo} {i : Nat} {s : St7} {B E : Fo}, F.items[i]? = some (s, B, E) → B.size + E.size < F.size
  | .cons s B E R, 0, _, _, _, h => by simp [items] at h; obtain ⟨rfl, rfl, rfl⟩ := h; simp [size]; omega
  | .cons s B E R, i + 1, _, _, _, h => by
    have := item_size (F := R) (i := i) (by simpa [items] using h)
    simp [size]; omega
  | .nil, i, _, _, _, h => by simp [items] at h
theorem item_deep : ∀ {F : Fo} {i : Nat} {s : St7} {B E : Fo}, F.items[i]? = some (s, B, E) → 1 + B.deep ≤ F.deep ∧ 1 + E.deep ≤ F.deep
  | .cons s B E R, 0, _, _, _, h => by simp [items] at h; obtain ⟨rfl, rfl, rfl⟩ := h; simp [deep]; omega
  | .cons s B E R, i + 1, _, _, _, h => by
    have := item_deep (F := R) (i := i) (by simpa [items] using h)
    simp [deep]; omega
  | .nil, i, _, _, _, h => by simp [items] at h
theorem len_le_size : ∀ F : Fo, F.len ≤ F.size
  | .nil => Nat.le_refl _
  | .cons s B E R => by
    have := len_le_size R
    simp [len, items, size] at this ⊢; omega
/-- Those ahead of a place, those from it on. -/
def upto (F : Fo) (i : Nat) : Fo := ofItems (F.items.take i)
theorem upto_zero (F : Fo) : F.upto 0 = .nil := by simp [upto, ofItems]
theorem upto_all {F : Fo} {i : Nat} (h : F.len ≤ i) : F.upto i = F := by
  unfold upto
  rw [List.take_of_length_le h, of_items]
theorem upto_add {F : Fo} {i : Nat} {s : St7} {B E : Fo} (h : F.items[i]? = some (s, B, E)) : F.upto (i + 1) = (F.upto i).app (.cons s B E .nil) := by
  unfold upto
  rw [List.take_add_one, h]
  have : ∀ (l m : List (St7 × Fo × Fo)), ofItems (l ++ m) = (ofItems l).app (ofItems m) := fun l m => by
    induction l with
    | nil => rfl
    | cons x t ih => obtain ⟨s, B, E⟩ := x; simp [ofItems, app, ih]
  rw [this]
  rfl
theorem size_upto {F : Fo} (i : Nat) : (F.upto i).size ≤ F.size := by
  have h : ∀ (l : List (St7 × Fo × Fo)) (i : Nat), (ofItems (l.take i)).size ≤ (ofItems l).size := fun l => by
    induction l with
    | nil => intro i; simp
    | cons x t ih =>
      intro i
      obtain ⟨s, B, E⟩ := x
      cases i with
      | zero => simp [ofItems, size]
      | succ i => have := ih i; simp [ofItems, size]; omega
  have := h F.items i
  rwa [of_items] at this
end Fo

/-- A line: a statement, its Body, its Else, how deep it lies. -/
structure Ln where
  s : St7
  B : Fo
  E : Fo
  d : Nat

def lin : Fo → Nat → List Ln
  | .nil, _ => []
  | .cons s B E R, d => ⟨s, B, E, d⟩ :: (lin B (d + 1) ++ (lin E (d + 1) ++ lin R d))

theorem lin_len : ∀ (F : Fo) (d : Nat), (lin F d).length = F.size
  | .nil, d => rfl
  | .cons s B E R, d => by simp [lin, Fo.size, lin_len B, lin_len E, lin_len R]; omega
theorem lin_app : ∀ (F G : Fo) (d : Nat), lin (F.app G) d = lin F d ++ lin G d
  | .nil, G, d => rfl
  | .cons s B E R, G, d => by simp [lin, Fo.app, lin_app R G d]
theorem lin_one (s : St7) (B E : Fo) (d : Nat) : lin (.cons s B E .nil) d = ⟨s, B, E, d⟩ :: (lin B (d + 1) ++ lin E (d + 1)) := by simp [lin]
theorem lin_upto {F : Fo} {i : Nat} {s : St7} {B E : Fo} (h : F.items[i]? = some (s, B, E)) (d : Nat) : lin (F.upto (i + 1)) d = lin (F.upto i) d ++ (⟨s, B, E, d⟩ :: (lin B (d + 1) ++ lin E (d + 1))) := by
  rw [Fo.upto_add h, lin_app, lin_one]
theorem lin_deep : ∀ (F : Fo) (d : Nat), ∀ l ∈ lin F d, d ≤ l.d ∧ l.d + 1 ≤ d + F.deep
  | .nil, d, l, h => by simp [lin] at h
  | .cons s B E R, d, l, h => by
    simp only [lin, List.mem_cons, List.mem_append] at h
    simp only [Fo.deep]
    rcases h with rfl | h | h | h
    · simp; omega
    · have := lin_deep B (d + 1) l h; omega
    · have := lin_deep E (d + 1) l h; omega
    · have := lin_deep R d l h; omega
theorem lin_deepest : ∀ (F : Fo) (d : Nat), 0 < F.deep → ∃ l ∈ lin F d, l.d + 1 = d + F.deep
  | .nil, d, h => by simp [Fo.deep] at h
  | .cons s B E R, d, _ => by
    simp only [lin, List.mem_cons, List.mem_append]
    by_cases h1 : Fo.deep (.cons s B E R) = 1
    · exact ⟨⟨s, B, E, d⟩, .inl rfl, by rw [h1]⟩
    · have hd : Fo.deep (.cons s B E R) = max (1 + B.deep) (max (1 + E.deep) R.deep) := rfl
      by_cases h2 : Fo.deep (.cons s B E R) = 1 + B.deep
      · obtain ⟨l, hl, e⟩ := lin_deepest B (d + 1) (by omega)
        exact ⟨l, .inr (.inl hl), by omega⟩
      · by_cases h3 : Fo.deep (.cons s B E R) = 1 + E.deep
        · obtain ⟨l, hl, e⟩ := lin_deepest E (d + 1) (by omega)
          exact ⟨l, .inr (.inr (.inl hl)), by omega⟩
        · obtain ⟨l, hl, e⟩ := lin_deepest R d (by omega)
          exact ⟨l, .inr (.inr (.inr hl)), by omega⟩
/-- The same lines, deeper. -/
theorem lin_shift : ∀ (F : Fo) (d e : Nat), lin F (d + e) = (lin F d).map fun l => { l with d := l.d + e }
  | .nil, d, e => rfl
  | .cons s B E R, d, e => by
    have h : d + e + 1 = d + 1 + e := by omega
    simp only [lin, List.map_cons, List.map_append]
    rw [h, lin_shift B (d + 1) e, lin_shift E (d + 1) e, lin_shift R d e]

/-! ### which one is wrong -/
def inL (n : Int) (l : List Int) : Bool := l.any fun x => x == n
def argOk (r n : Int) (there : Bool) : Bool := if there then decide (0 ≤ r ∧ r ≤ 8 ∧ -999 ≤ n ∧ n ≤ 999) else decide (r = 0 ∧ n = 0)
/-- Is a statement right, apart from those in it (nb, ne: how many are in its Body, its Else)? -/
def one (s : St7) (nb ne : Nat) (K : List Int) : Bool :=
  decide (1 ≤ s.k ∧ s.k ≤ 16) &&
  (if s.k ≤ 8 then decide (0 ≤ s.c ∧ s.c < (K.length : Int)) else decide (s.c = 0)) &&
  (if s.k = 6 ∨ s.k = 7 then K.getD s.c.toNat 0 == 3 else true) &&
  (if inL s.k [1, 4, 5, 6, 7, 9, 10] then decide (1 ≤ s.r ∧ s.r ≤ 8) else decide (s.r = 0)) &&
  argOk s.ar s.an (inL s.k [1, 2, 3, 4, 6, 7, 9, 10, 11, 12]) && argOk s.br s.bn (inL s.k [2, 7, 10, 11]) &&
  (if s.k = 12 then decide (s.ar = 0 ∧ 0 ≤ s.an ∧ s.an ≤ 5) else true) &&
  (decide (nb = 0) || decide (11 ≤ s.k ∧ s.k ≤ 14)) && (decide (ne = 0) || decide (s.k = 11 ∨ s.k = 14))

/-- What is wrong first, of lines from number i + 1 on: the error's number, its place. -/
def rightL (K : List Int) : List Ln → Nat → Nat × Nat
  | [], _ => (0, 0)
  | l :: t, i => if 100 ≤ i then (8, i + 1) else if 8 < l.d then (10, i + 1) else if one l.s l.B.len l.E.len K = false then (9, i + 1) else rightL K t (i + 1)
def right (F : Fo) (K : List Int) : Nat × Nat := rightL K (lin F 1) 0

theorem right_app (K : List Int) : ∀ (L M : List Ln) (i : Nat), rightL K (L ++ M) i = if (rightL K L i).1 ≠ 0 then rightL K L i else rightL K M (i + L.length)
  | [], M, i => by simp [rightL]
  | l :: t, M, i => by
    simp only [List.cons_append, rightL]
    split
    · simp
    · split
      · simp
      · split
        · simp
        · rw [right_app K t M (i + 1), List.length_cons, show i + 1 + t.length = i + (t.length + 1) by omega]
theorem right_none (K : List Int) : ∀ (L : List Ln) (i : Nat), (rightL K L i).1 = 0 → (rightL K L i).2 = 0 ∧ (L ≠ [] → i + L.length ≤ 100) ∧ ∀ l ∈ L, l.d ≤ 8 ∧ one l.s l.B.len l.E.len K = true
  | [], i, _ => ⟨rfl, fun h => absurd rfl h, fun l h => by cases h⟩
  | l :: t, i, h => by
    simp only [rightL] at h ⊢
    split at h
    · cases h
    · rename_i h1
      split at h
      · cases h
      · rename_i h2
        split at h
        · cases h
        · rename_i h3
          obtain ⟨a, b, c⟩ := right_none K t (i + 1) h
          rw [if_neg h1, if_neg h2, if_neg h3]
          refine ⟨a, fun _ => ?_, fun x hx => ?_⟩
          · by_cases ht : t = []
            · subst ht; simp; omega
            · have := b ht; simp; omega
          · rcases List.mem_cons.1 hx with rfl | hx
            · exact ⟨by omega, by simpa using h3⟩
            · exact c x hx
theorem right_ok (K : List Int) : ∀ (L : List Ln) (i : Nat), i + L.length ≤ 100 → (∀ l ∈ L, l.d ≤ 8 ∧ one l.s l.B.len l.E.len K = true) → rightL K L i = (0, 0)
  | [], i, _, _ => rfl
  | l :: t, i, h, hl => by
    obtain ⟨h1, h2⟩ := hl l (by simp)
    simp only [List.length_cons] at h
    simp only [rightL]
    rw [if_neg (by omega), if_neg (by omega), if_neg (by rw [h2]; simp)]
    exact right_ok K t (i + 1) (by omega) fun x hx => hl x (List.mem_cons_of_mem _ hx)
/-- Where there are not too many, the numbers are moved on. -/
theorem right_move (K : List Int) (j : Nat) : ∀ (L : List Ln) (i : Nat), i + j + L.length ≤ 100 → (rightL K L (i + j)).1 = (rightL K L i).1 ∧ ((rightL K L i).1 ≠ 0 → (rightL K L (i + j)).2 = j + (rightL K L i).2)
  | [], i, _ => ⟨rfl, fun h => absurd rfl h⟩
  | l :: t, i, h => by
    simp only [List.length_cons] at h
    simp only [rightL]
    have a1 : ¬ 100 ≤ i + j := by omega
    have a2 : ¬ 100 ≤ i := by omega
    by_cases a3 : 8 < l.d
    · simp only [if_neg a1, if_neg a2, if_pos a3]
      exact ⟨trivial, fun _ => by omega⟩
    · by_cases a4 : one l.s l.B.len l.E.len K = false
      · simp only [if_neg a1, if_neg a2, if_neg a3, if_pos a4]
        exact ⟨trivial, fun _ => by omega⟩
      · simp only [if_neg a1, if_neg a2, if_neg a3, if_neg a4]
        have := right_move K j t (i + 1) (by omega)
        rw [show i + 1 + j = i + j + 1 by omega] at this
        exact this
/-- Of lines that are right but for how deep they lie. -/
theorem right_only (K : List Int) : ∀ (L : List Ln) (i : Nat), (∀ l ∈ L, one l.s l.B.len l.E.len K = true) → (rightL K L i).1 = 0 ∨ (rightL K L i).1 = 8 ∨ (rightL K L i).1 = 10
  | [], i, _ => .inl rfl
  | l :: t, i, h => by
    simp only [rightL]
    split
    · exact .inr (.inl rfl)
    · split
      · exact .inr (.inr rfl)
      · rw [if_neg (by rw [h l (by simp)]; simp)]
        exact right_only K t (i + 1) fun x hx => h x (List.mem_cons_of_mem _ hx)

/-! ### parts -/
theorem parts_first {F G : Fo} {K : List Int} (h : (right F K).1 ≠ 0) : right (F.app G) K = right F K := by
  unfold right at h ⊢
  rw [lin_app, right_app, if_pos h]
theorem parts_second {F G : Fo} {K : List Int} (hs : (F.app G).size ≤ 100) (h : (right F K).1 = 0) : (right (F.app G) K).1 = (right G K).1 ∧ ((right G K).1 ≠ 0 → (right (F.app G) K).2 = F.size + (right G K).2) := by
  unfold right at h ⊢
  rw [lin_app, right_app, if_neg (by rw [h]; simp), lin_len]
  have := right_move K F.size (lin G 1) 0 (by rw [lin_len]; rw [Fo.size_app] at hs; omega)
  simpa using this

/-! ### within -/
def s13 : St7 := ⟨13, 0, 0, 0, 0, 0, 0⟩
def wrap (F : Fo) : Fo := .cons s13 F .nil .nil
theorem wrap_size (F : Fo) : (wrap F).size = F.size + 1 := by simp [wrap, Fo.size]; omega
theorem wrap_deep (F : Fo) : (wrap F).deep = F.deep + 1 := by simp [wrap, Fo.deep]; omega
theorem one_s13 (nb : Nat) (K : List Int) : one s13 nb 0 K = true := by
  simp [one, s13, inL, argOk]
theorem within {F : Fo} {K : List Int} (h : (right F K).1 = 0) :
    F.size ≤ 100 ∧ F.deep ≤ 8 ∧ (F.deep = 8 → (right (wrap F) K).1 = 10 ∨ (right (wrap F) K).1 = 8) ∧ (F.deep ≠ 8 → F.size = 100 → (right (wrap F) K).1 = 8) ∧ (F.deep ≠ 8 → F.size ≠ 100 → (right (wrap F) K).1 = 0) := by
  unfold right at h
  obtain ⟨_, h2, h3⟩ := right_none K _ _ h
  have e1 : lin (wrap F) 1 = ⟨s13, F, .nil, 1⟩ :: lin F 2 := by simp [wrap, lin]
  have e2 : rightL K (lin (wrap F) 1) 0 = rightL K (lin F 2) 1 := by
    rw [e1]
    simp only [rightL]
    rw [if_neg (by omega), if_neg (by omega), if_neg (by rw [show (Fo.nil).len = 0 from rfl, one_s13]; simp)]
  have hs : F.size ≤ 100 := by
    by_cases hl : lin F 1 = []
    · have := lin_len F 1
      rw [hl] at this
      simp at this
      omega
    · have := h2 hl
      rw [lin_len] at this
      omega
  have hd : F.deep ≤ 8 := by
    rcases Nat.eq_zero_or_pos F.deep with h0 | h0
    · omega
    · obtain ⟨l, hl, e⟩ := lin_deepest F 1 h0
      have := (h3 l hl).1
      omega
  have h1 : ∀ l ∈ lin F 2, one l.s l.B.len l.E.len K = true := fun l hl => by
    rw [show 2 = 1 + 1 from rfl, lin_shift] at hl
    obtain ⟨x, hx, rfl⟩ := List.mem_map.1 hl
    exact (h3 x hx).2
  have hr := right_only K _ 1 h1
  unfold right
  rw [e2]
  refine ⟨hs, hd, fun h8 => ?_, fun h8 h100 => ?_, fun h8 h100 => ?_⟩
  · rcases hr with hr | hr | hr
    · exfalso
      obtain ⟨_, _, h5⟩ := right_none K _ _ hr
      obtain ⟨l, hl, e⟩ := lin_deepest F 2 (by omega)
      have := (h5 l hl).1
      omega
    · exact .inr hr
    · exact .inl hr
  · have hall : ∀ l ∈ lin F 2, l.d ≤ 8 := fun l hl => by have := (lin_deep F 2 l hl).2; omega
    have key : ∀ (L : List Ln) (i : Nat), (∀ l ∈ L, l.d ≤ 8 ∧ one l.s l.B.len l.E.len K = true) → i ≤ 100 → 100 < i + L.length → (rightL K L i).1 = 8 := fun L => by
      induction L with
      | nil => intro i _ _ h; simp at h; omega
      | cons l t ih =>
        intro i hl hi hlen
        obtain ⟨q1, q2⟩ := hl l (by simp)
        simp only [List.length_cons] at hlen
        simp only [rightL]
        by_cases hi' : 100 ≤ i
        · rw [if_pos hi']
        · rw [if_neg hi', if_neg (by omega), if_neg (by rw [q2]; simp)]
          exact ih (i + 1) (fun x hx => hl x (List.mem_cons_of_mem _ hx)) (by omega) (by omega)
    exact key _ 1 (fun l hl => ⟨hall l hl, h1 l hl⟩) (by omega) (by rw [lin_len]; omega)
  · rw [right_ok K _ 1 (by rw [lin_len]; omega) fun l hl => ⟨by have := (lin_deep F 2 l hl).2; omega, h1 l hl⟩]

/-! ### collections, waiting -/
def names (s : St7) : Bool := decide (1 ≤ s.k ∧ s.k ≤ 8)
/-- Is a collection named? -/
def Named (L : List Ln) (x : Int) : Prop := ∃ l ∈ L, names l.s = true ∧ l.s.c = x
def waits (F : Fo) : Bool := (lin F 1).any fun l => decide (l.s.k = 15)
end Go.Proofs.YtcdlchcmidfhiaaGreatDoor

namespace Go.Proofs.YtcdlchcmidfhiaaGreatDoor

/-! ### texts, plainly -/
abbrev Str := List UInt8

/-- A digit. -/
def dg (n : Nat) : UInt8 := UInt8.ofNat (48 + n)
/-- Digits of a number below 1000. -/
def decN (n : Nat) : Str := if n < 10 then [dg n] else if n < 100 then [dg (n / 10), dg (n % 10)] else [dg (n / 100), dg (n / 10 % 10), dg (n % 10)]
def decZ (n : Int) : Str := if n < 0 then 45 :: decN (-n).toNat else decN n.toNat
def regT (r : Int) : Str := 114 :: decN r.toNat
def argT (r n : Int) : Str := if r = 0 then decZ n else regT r ++ (if 0 < n then 43 :: decN n.toNat else if n < 0 then decZ n else [])

/-- The words of the kinds. -/
def kindT : List Str := [[], [103, 101, 116], [112, 117, 116], [100, 101, 108], [104, 97, 115], [115, 105, 122, 101], [99, 101, 105, 108], [114, 97, 110, 103, 101], [108, 105, 115, 116], [115, 101, 116], [97, 100, 100], [105, 102], [108, 111, 111, 112], [97, 116, 111, 109, 105, 99], [111, 114], [114, 101, 116, 114, 121], [97, 98, 111, 114, 116]]
inductive Fm where
  | c | a | b | r | n | o
  deriving DecidableEq
/-- The forms of the kinds. -/
def formT : List (List Fm) := [[], [.c, .a, .r], [.c, .a, .b], [.c, .a], [.c, .a, .r], [.c, .r], [.c, .a, .r], [.c, .a, .b, .r], [.c], [.r, .a], [.r, .a, .b], [.a, .b, .o], [.n, .o], [.o], [.o], [], []]
def wordT (s : St7) : Fm → Str
  | .c => decZ s.c
  | .a => argT s.ar s.an
  | .n => argT s.ar s.an
  | .b => argT s.br s.bn
  | .r => regT s.r
  | .o => [123]
/-- A statement's line, its words. -/
def lineT (s : St7) : List Str := kindT.getD s.k.toNat [] :: (formT.getD s.k.toNat []).map (wordT s)

/-- A number that is not below 0. -/
def isDig (b : UInt8) : Bool := decide (48 ≤ b.toNat ∧ b.toNat ≤ 57)
def numN (s : Str) : Nat := s.foldl (fun n b => 10 * n + (b.toNat - 48)) 0
def plainT (s : Str) : Option Nat := if s = [] ∨ 4 < s.length ∨ (1 < s.length ∧ s.head? = some 48) then none else if s.all isDig then some (numN s) else none
def regR (s : Str) : Nat := match s with
  | [a, b] => if a = 114 ∧ 49 ≤ b.toNat ∧ b.toNat ≤ 56 then b.toNat - 48 else 0
  | _ => 0
/-- An Arg that is read: its register, its number. -/
def argR (s : Str) : Option (Int × Int) := match s with
  | 114 :: b :: t => if regR [114, b] = 0 then none else match t with
    | [] => some ((regR [114, b] : Int), 0)
    | x :: t => match plainT t with
      | none => none
      | some n => if n < 1 ∨ (x ≠ 43 ∧ x ≠ 45) then none else some ((regR [114, b] : Int), if x = 45 then -(n : Int) else n)
  | 45 :: t => match plainT t with
    | none => none
    | some n => if 0 < n then some (0, -(n : Int)) else none
  | s => match plainT s with
    | none => none
    | some n => some (0, (n : Int))
def st0 : St7 := ⟨0, 0, 0, 0, 0, 0, 0⟩
/-- A word that is read into a statement, by its form. -/
def readF (s : St7) (f : Fm) (w : Str) : Option St7 := match f with
  | .c => (plainT w).map fun n : Nat => { s with c := (n : Int) }
  | .n => (plainT w).map fun n : Nat => { s with an := (n : Int) }
  | .a => (argR w).map fun x => { s with ar := x.1, an := x.2 }
  | .b => (argR w).map fun x => { s with br := x.1, bn := x.2 }
  | .r => if regR w = 0 then none else some { s with r := regR w }
  | .o => if w = [123] then some s else none
def readFs : St7 → List Fm → List Str → Option St7
  | s, [], [] => some s
  | s, f :: fs, w :: ws => (readF s f w).bind fun s' => readFs s' fs ws
  | _, _, _ => none
def kindOf (w : Str) : Nat := if w = [] then 0 else ((List.range 17).filter fun k => kindT.getD k [] = w).headD 0
def stmtT (ws : List Str) : Option St7 := match ws with
  | [] => none
  | w :: ws => if kindOf w = 0 then none else readFs { st0 with k := kindOf w } (formT.getD (kindOf w) []) ws

/-- A block that is open: its statement, its Body, its Else, and is it the Else? -/
structure Opn where
  s : St7
  B : Fo
  E : Fo
  el : Bool
structure PS where
  op : List Opn
  p : Fo
def one1 (s : St7) (B E : Fo) : Fo := .cons s B E .nil
/-- A statement goes to the innermost open block, or to the end of all. -/
def putT (x : Fo) (st : PS) : PS := match st.op with
  | [] => ⟨[], st.p.app x⟩
  | o :: t => ⟨(if o.el then { o with E := o.E.app x } else { o with B := o.B.app x }) :: t, st.p⟩
def isBlk (k : Int) : Bool := decide (11 ≤ k ∧ k ≤ 14)
/-- A line's words, at a state. -/
def stepT (st : PS) (ws : List Str) : Option PS := match ws with
  | [] => some st
  | w :: t =>
    if w = [125] ∧ t = [] then match st.op with
      | [] => none
      | o :: op => some (putT (one1 o.s o.B o.E) ⟨op, st.p⟩)
    else if w = [125] ∧ t = [[101, 108, 115, 101], [123]] then match st.op with
      | [] => none
      | o :: op => if o.el ∨ (o.s.k ≠ 11 ∧ o.s.k ≠ 14) then none else some ⟨{ o with el := true } :: op, st.p⟩
    else match stmtT (w :: t) with
      | none => none
      | some s => if isBlk s.k then some ⟨⟨s, .nil, .nil, false⟩ :: st.op, st.p⟩ else some (putT (one1 s .nil .nil) st)
/-- Lines, from line number i + 1 on: the state, or the first line that can't stand there. -/
def runT : List (List Str) → Nat → PS → PS ⊕ Nat
  | [], _, st => .inl st
  | l :: t, i, st => match stepT st l with
    | none => .inr (i + 1)
    | some st' => runT t (i + 1) st'

/-- The words of a line. -/
def splitAll (b : UInt8) : Str → Str → List Str
  | cur, [] => [cur]
  | cur, x :: t => if x = b then cur :: splitAll b [] t else splitAll b (cur ++ [x]) t
def wordsT (s : Str) : List Str := (splitAll 32 [] s).filter fun w => !w.isEmpty
/-- The lines of a text. -/
def dropLast0 (l : List Str) : List Str := if l.getLast? = some [] then l.dropLast else l
def linesT (s : Str) : List Str := dropLast0 (splitAll 10 [] s)
/-- What a text says: its statements, or the error's number and its place. -/
def parseT (s : Str) : Fo ⊕ (Nat × Nat) := if 20000 < s.length then .inr (8, 0) else match runT ((linesT s).map wordsT) 0 ⟨[], .nil⟩ with
  | .inr n => .inr (9, n)
  | .inl st => if st.op = [] then .inl st.p else .inr (9, (linesT s).length + 1)

/-- The lines of a transaction: how many blanks lie ahead, its words. -/
def outT : Fo → Nat → List (Nat × List Str)
  | .nil, _ => []
  | .cons s B E R, d => (d, lineT s) :: ((if isBlk s.k then outT B (d + 2) ++ ((match E with | .nil => [] | .cons _ _ _ _ => (d, [[125], [101, 108, 115, 101], [123]]) :: outT E (d + 2)) ++ [(d, [[125]])]) else []) ++ outT R d)
def joinT : List Str → Str
  | [] => []
  | [w] => w
  | w :: t => w ++ 32 :: joinT t
def textT (F : Fo) : Str := (outT F 0).flatMap fun l => List.replicate l.1 32 ++ joinT l.2 ++ [10]

/-! ### numbers and words -/
theorem dg_nat (n : Nat) (h : n < 10) : (dg n).toNat = 48 + n := by unfold dg; simp [UInt8.toNat_ofNat']; omega
theorem isDig_of (n : Nat) (h : n < 10) : isDig (dg n) = true := by
  unfold isDig
  rw [dg_nat n h]
  exact decide_eq_true (by omega)
theorem dg_ne (n : Nat) (x : UInt8) (h : n < 10) (hne : x.toNat ≠ 48 + n) : dg n ≠ x := fun e => hne (by rw [← e, dg_nat n h])
theorem plain_dec (n : Nat) (h : n < 1000) : plainT (decN n) = some n := by
  unfold decN
  split
  · rename_i h1
    have d := isDig_of n h1
    have v := dg_nat n h1
    unfold plainT
    rw [if_neg (by simp), if_pos (by simp [d])]
    simp [numN, v]
  · rename_i h1
    split
    · rename_i h2
      have d1 := isDig_of (n / 10) (by omega)
      have d2 := isDig_of (n % 10) (by omega)
      have v1 := dg_nat (n / 10) (by omega)
      have v2 := dg_nat (n % 10) (by omega)
      have z := dg_ne (n / 10) 48 (by omega) (by simp; omega)
      unfold plainT
      rw [if_neg (by simp; exact z), if_pos (by simp [d1, d2])]
      simp [numN, v1, v2]
      omega
    · rename_i h2
      have d1 := isDig_of (n / 100) (by omega)
      have d2 := isDig_of (n / 10 % 10) (by omega)
      have d3 := isDig_of (n % 10) (by omega)
      have v1 := dg_nat (n / 100) (by omega)
      have v2 := dg_nat (n / 10 % 10) (by omega)
      have v3 := dg_nat (n % 10) (by omega)
      have z := dg_ne (n / 100) 48 (by omega) (by simp; omega)
      unfold plainT
      rw [if_neg (by simp; exact z), if_pos (by simp [d1, d2, d3])]
      simp [numN, v1, v2, v3]
      omega
/-- The first byte of a number. -/
theorem dec_head (n : Nat) (h : n < 1000) : ∃ m t, m < 10 ∧ decN n = dg m :: t := by
  unfold decN
  split
  · exact ⟨n, [], by omega, rfl⟩
  · split
    · exact ⟨n / 10, _, by omega, rfl⟩
    · exact ⟨n / 100, _, by omega, rfl⟩
theorem reg_dec (r : Nat) (h1 : 1 ≤ r) (h8 : r ≤ 8) : regR (114 :: decN r) = r := by
  unfold decN
  rw [if_pos (by omega)]
  unfold regR
  simp only
  rw [dg_nat r (by omega), if_pos ⟨trivial, by omega, by omega⟩]
  omega
theorem arg_dec (r n : Int) (hr : 0 ≤ r ∧ r ≤ 8) (hn : -999 ≤ n ∧ n ≤ 999) : argR (argT r n) = some (r, n) := by
  unfold argT
  split
  · rename_i h0
    subst h0
    unfold decZ
    split
    · rename_i hneg
      obtain ⟨m, hm⟩ : ∃ m : Nat, n = -(m : Int) := ⟨(-n).toNat, by omega⟩
      subst hm
      rw [show (- -(m : Int)).toNat = m by omega]
      simp only [argR]
      rw [plain_dec m (by omega)]
      simp; omega
    · rename_i hpos
      obtain ⟨m, rfl⟩ : ∃ m : Nat, n = (m : Int) := ⟨n.toNat, by omega⟩
      rw [Int.toNat_natCast]
      obtain ⟨q, t, hq, e⟩ := dec_head m (by omega)
      have hp := plain_dec m (by omega)
      rw [e] at hp ⊢
      have n1 := dg_ne q 114 hq (by simp; omega)
      have n2 := dg_ne q 45 hq (by simp; omega)
      unfold argR
      split
      · rename_i heq
        injection heq with heq
        exact absurd heq n1
      · rename_i heq
        injection heq with heq
        exact absurd heq n2
      · rw [hp]
  · rename_i h0
    obtain ⟨q, rfl⟩ : ∃ q : Nat, r = (q : Int) := ⟨r.toNat, by omega⟩
    have hreg := reg_dec q (by omega) (by omega)
    unfold regT
    rw [Int.toNat_natCast]
    have e1 : decN q = [dg q] := by unfold decN; rw [if_pos (by omega)]
    rw [e1] at hreg ⊢
    have hq0 : q ≠ 0 := by omega
    split
    · rename_i hpos
      obtain ⟨m, rfl⟩ : ∃ m : Nat, n = (m : Int) := ⟨n.toNat, by omega⟩
      rw [Int.toNat_natCast]
      simp only [argR, List.cons_append, List.nil_append]
      rw [hreg, if_neg hq0, plain_dec m (by omega)]
      simp; omega
    · split
      · rename_i h1 hneg
        unfold decZ
        rw [if_pos hneg]
        obtain ⟨m, hm⟩ : ∃ m : Nat, n = -(m : Int) := ⟨(-n).toNat, by omega⟩
        subst hm
        rw [show (- -(m : Int)).toNat = m by omega]
        simp only [argR, List.cons_append, List.nil_append]
        rw [hreg, if_neg hq0, plain_dec m (by omega)]
        simp; omega
      · simp only [argR, List.append_nil]
        rw [hreg, if_neg hq0]
        have : n = 0 := by omega
        subst this
        rfl

/-! ### a statement's line -/
theorem kind_of : ∀ k : Nat, k < 17 → 0 < k → kindOf (kindT.getD k []) = k := by decide
theorem read_c {s : St7} {c : Int} (h : 0 ≤ c ∧ c < 1000) : readF s .c (decZ c) = some { s with c := c } := by
  unfold readF decZ
  rw [if_neg (by omega)]
  simp only
  rw [plain_dec _ (by omega), Option.map_some, Int.toNat_of_nonneg h.1]
theorem read_n {s : St7} {r n : Int} (hr : r = 0) (h : 0 ≤ n ∧ n < 1000) : readF s .n (argT r n) = some { s with an := n } := by
  unfold readF argT decZ
  rw [if_pos hr, if_neg (by omega)]
  simp only
  rw [plain_dec _ (by omega), Option.map_some, Int.toNat_of_nonneg h.1]
theorem read_r {s : St7} {r : Int} (h : 1 ≤ r ∧ r ≤ 8) : readF s .r (regT r) = some { s with r := r } := by
  unfold readF regT
  simp only
  rw [reg_dec _ (by omega) (by omega), if_neg (by omega), Int.toNat_of_nonneg (by omega)]
theorem read_a {s : St7} {r n : Int} (h : 0 ≤ r ∧ r ≤ 8 ∧ -999 ≤ n ∧ n ≤ 999) : readF s .a (argT r n) = some { s with ar := r, an := n } := by
  unfold readF
  simp only
  rw [arg_dec r n ⟨h.1, h.2.1⟩ h.2.2]
  rfl
theorem read_b {s : St7} {r n : Int} (h : 0 ≤ r ∧ r ≤ 8 ∧ -999 ≤ n ∧ n ≤ 999) : readF s .b (argT r n) = some { s with br := r, bn := n } := by
  unfold readF
  simp only
  rw [arg_dec r n ⟨h.1, h.2.1⟩ h.2.2]
  rfl
theorem read_o {s : St7} : readF s .o [123] = some s := by
  unfold readF
  simp
/-- What a right statement takes. -/
structure Rt (s : St7) : Prop where
  k : 1 ≤ s.k ∧ s.k ≤ 16
  c : if s.k ≤ 8 then 0 ≤ s.c ∧ s.c < 8 else s.c = 0
  r : if inL s.k [1, 4, 5, 6, 7, 9, 10] then 1 ≤ s.r ∧ s.r ≤ 8 else s.r = 0
  a : if inL s.k [1, 2, 3, 4, 6, 7, 9, 10, 11, 12] then 0 ≤ s.ar ∧ s.ar ≤ 8 ∧ -999 ≤ s.an ∧ s.an ≤ 999 else s.ar = 0 ∧ s.an = 0
  b : if inL s.k [2, 7, 10, 11] then 0 ≤ s.br ∧ s.br ≤ 8 ∧ -999 ≤ s.bn ∧ s.bn ≤ 999 else s.br = 0 ∧ s.bn = 0
  l : s.k = 12 → s.ar = 0 ∧ 0 ≤ s.an ∧ s.an ≤ 5
theorem one_rt {s : St7} {nb ne : Nat} {K : List Int} (h : one s nb ne K = true) (hK : K.length = 8) : Rt s ∧ (nb ≠ 0 → isBlk s.k = true) ∧ (ne ≠ 0 → s.k = 11 ∨ s.k = 14) := by
  unfold one argOk at h
  rw [hK] at h
  simp only [Bool.and_eq_true, Bool.or_eq_true, decide_eq_true_eq] at h
  obtain ⟨⟨⟨⟨⟨⟨⟨⟨h1, h2⟩, -⟩, h4⟩, h5⟩, h6⟩, h7⟩, h8⟩, h9⟩ := h
  refine ⟨⟨h1, ?_, ?_, ?_, ?_, ?_⟩, ?_, ?_⟩
  · split
    · rename_i h; rw [if_pos h] at h2; simpa using h2
    · rename_i h; rw [if_neg h] at h2; simpa using h2
  · split
    · rename_i h; rw [if_pos h] at h4; simpa using h4
    · rename_i h; rw [if_neg h] at h4; simpa using h4
  · split
    · rename_i h; rw [if_pos h] at h5; simpa using h5
    · rename_i h; rw [if_neg h] at h5; simpa using h5
  · split
    · rename_i h; rw [if_pos h] at h6; simpa using h6
    · rename_i h; rw [if_neg h] at h6; simpa using h6
  · intro h
    rw [if_pos h] at h7
    simpa using h7
  · intro h
    unfold isBlk
    exact decide_eq_true (h8.resolve_left h)
  · intro h
    exact h9.resolve_left h

theorem stmt_line {s : St7} (h : Rt s) : stmtT (lineT s) = some s := by
  obtain ⟨hk, hc, hr, ha, hb, hl⟩ := h
  obtain ⟨k, c, r, ar, an, br, bn⟩ := s
  simp only at hk hc hr ha hb hl
  have hk' : k = 1 ∨ k = 2 ∨ k = 3 ∨ k = 4 ∨ k = 5 ∨ k = 6 ∨ k = 7 ∨ k = 8 ∨ k = 9 ∨ k = 10 ∨ k = 11 ∨ k = 12 ∨ k = 13 ∨ k = 14 ∨ k = 15 ∨ k = 16 := by omega
  clear hk
  rcases hk' with rfl | rfl | rfl | rfl | rfl | rfl | rfl | rfl | rfl | rfl | rfl | rfl | rfl | rfl | rfl | rfl
  all_goals simp [inL] at hc hr ha hb hl
  all_goals unfold stmtT lineT
  all_goals simp only [Int.reduceToNat]
  all_goals rw [kind_of _ (by decide) (by decide), if_neg (by decide)]
  all_goals simp only [formT, List.getD_cons_zero, List.getD_cons_succ, List.map_cons, List.map_nil, wordT, readFs]
  all_goals repeat (first | (rw [read_c (by omega)]; simp only [Option.bind_some]) | (rw [read_r (by omega)]; simp only [Option.bind_some]) | (rw [read_a (by omega)]; simp only [Option.bind_some]) | (rw [read_b (by omega)]; simp only [Option.bind_some]) | (rw [read_n (by omega) (by omega)]; simp only [Option.bind_some]) | (rw [read_o]; simp only [Option.bind_some]))
  all_goals simp [st0]
  all_goals omega

/-! ### there and back -/
def AllOk : Fo → Prop
  | .nil => True
  | .cons s B E R => Rt s ∧ (B ≠ .nil → isBlk s.k = true) ∧ (E ≠ .nil → s.k = 11 ∨ s.k = 14) ∧ AllOk B ∧ AllOk E ∧ AllOk R
theorem app_nil : ∀ F : Fo, F.app .nil = F
  | .nil => rfl
  | .cons s B E R => by simp [Fo.app, app_nil R]
theorem app_app : ∀ F G H : Fo, (F.app G).app H = F.app (G.app H)
  | .nil, G, H => rfl
  | .cons s B E R, G, H => by simp [Fo.app, app_app R G H]
theorem put_put (F G : Fo) (st : PS) : putT G (putT F st) = putT (F.app G) st := by
  obtain ⟨op, p⟩ := st
  cases op with
  | nil => simp [putT, app_app]
  | cons o t =>
    obtain ⟨s, B, E, el⟩ := o
    cases el <;> simp [putT, app_app]
theorem put_nil (st : PS) : putT .nil st = st := by
  obtain ⟨op, p⟩ := st
  cases op with
  | nil => simp [putT, app_nil]
  | cons o t =>
    obtain ⟨s, B, E, el⟩ := o
    cases el <;> simp [putT, app_nil]
theorem line_step {s : St7} (h : Rt s) (st : PS) : stepT st (lineT s) = some (if isBlk s.k then ⟨⟨s, .nil, .nil, false⟩ :: st.op, st.p⟩ else putT (one1 s .nil .nil) st) := by
  have e := stmt_line h
  have hw : kindT.getD s.k.toNat [] ≠ [125] := by
    have : ∀ k : Nat, k < 17 → kindT.getD k [] ≠ [125] := by decide
    exact this _ (by have := h.k; omega)
  unfold lineT at e ⊢
  simp only [stepT]
  rw [if_neg (fun hc => hw hc.1), if_neg (fun hc => hw hc.1), e]
  simp only
  split <;> rfl
theorem run_out : ∀ (F : Fo) (d : Nat) (rest : List (List Str)) (i : Nat) (st : PS), AllOk F → runT ((outT F d).map (·.2) ++ rest) i st = runT rest (i + (outT F d).length) (putT F st)
  | .nil, d, rest, i, st, _ => by simp [outT, put_nil]
  | .cons s B E R, d, rest, i, st, h => by
    obtain ⟨h1, h2, h3, h4, h5, h6⟩ := h
    have step := line_step h1 st
    cases hb : isBlk s.k with
    | false =>
      have hB : B = .nil := Classical.byContradiction fun e => by have := h2 e; rw [hb] at this; cases this
      have hE : E = .nil := Classical.byContradiction fun e => by
        have := h3 e
        unfold isBlk at hb
        have := of_decide_eq_false hb
        omega
      subst hB hE
      rw [hb] at step
      simp only [outT, hb, Bool.false_eq_true, ↓reduceIte, List.nil_append, List.map_cons, List.cons_append, runT] at step ⊢
      rw [step]
      simp only
      rw [run_out R d rest (i + 1) _ h6, put_put, List.length_cons]
      rw [show i + 1 + (outT R d).length = i + ((outT R d).length + 1) by omega]
      rfl
    | true =>
      rw [hb] at step
      simp only [outT, hb, ↓reduceIte, List.map_cons, List.cons_append, runT] at step ⊢
      rw [step]
      simp only
      rw [List.map_append, List.map_append, List.append_assoc, List.append_assoc, run_out B (d + 2) _ (i + 1) _ h4]
      have p1 : putT B ⟨⟨s, .nil, .nil, false⟩ :: st.op, st.p⟩ = ⟨⟨s, B, .nil, false⟩ :: st.op, st.p⟩ := by simp [putT, Fo.app]
      rw [p1]
      have close : ∀ (E' : Fo) (el : Bool) (j : Nat) (tl : List (List Str)), runT ([[125]] :: tl) j ⟨⟨s, B, E', el⟩ :: st.op, st.p⟩ = runT tl (j + 1) (putT (one1 s B E') st) := fun E' el j tl => by
        simp only [runT, stepT, and_self, ↓reduceIte]
      cases E with
      | nil =>
        simp only [List.nil_append, List.map_cons, List.map_nil, List.cons_append]
        rw [close, run_out R d rest _ _ h6, put_put]
        simp only [List.length_cons, List.length_append, List.length_nil]
        rw [show i + 1 + (outT B (d + 2)).length + 1 + (outT R d).length = i + ((outT B (d + 2)).length + (0 + 1) + (outT R d).length + 1) by omega]
        try rfl
      | cons s' B' E' R' =>
        have hk := h3 (by intro e; cases e)
        simp only [List.map_append, List.map_cons, List.map_nil, List.cons_append, List.append_assoc, List.nil_append]
        rw [show ∀ tl j, runT ([[125], [101, 108, 115, 101], [123]] :: tl) j ⟨⟨s, B, .nil, false⟩ :: st.op, st.p⟩ = runT tl (j + 1) ⟨⟨s, B, .nil, true⟩ :: st.op, st.p⟩ from fun tl j => by
          simp only [runT, stepT]
          rw [if_neg (by simp), if_pos (by simp), if_neg (by simp; omega)]]
        rw [run_out (.cons s' B' E' R') (d + 2) _ _ _ h5]
        have p2 : putT (.cons s' B' E' R') ⟨⟨s, B, .nil, true⟩ :: st.op, st.p⟩ = ⟨⟨s, B, .cons s' B' E' R', true⟩ :: st.op, st.p⟩ := by simp [putT, Fo.app]
        rw [p2, close, run_out R d rest _ _ h6, put_put]
        simp only [List.length_cons, List.length_append]
        rw [show i + 1 + (outT B (d + 2)).length + 1 + (outT (.cons s' B' E' R') (d + 2)).length + 1 + (outT R d).length = i + ((outT B (d + 2)).length + ((outT (.cons s' B' E' R') (d + 2)).length + ((outT R d).length + 1) + 1) + 1) by omega]
        rfl

/-! ### texts, lines, words -/
theorem split_no {b : UInt8} : ∀ (s cur : Str), b ∉ s → splitAll b cur s = [cur ++ s]
  | [], cur, _ => by simp [splitAll]
  | x :: t, cur, h => by
    have h1 : x ≠ b := fun e => h (by simp [e])
    simp only [splitAll]
    rw [if_neg h1, split_no t _ fun hc => h (List.mem_cons_of_mem _ hc)]
    simp
theorem split_at {b : UInt8} : ∀ (s cur t : Str), b ∉ s → splitAll b cur (s ++ b :: t) = (cur ++ s) :: splitAll b [] t
  | [], cur, t, _ => by simp [splitAll]
  | x :: s, cur, t, h => by
    have h1 : x ≠ b := fun e => h (by simp [e])
    simp only [List.cons_append, splitAll]
    rw [if_neg h1, split_at s _ t fun hc => h (List.mem_cons_of_mem _ hc)]
    simp
theorem split_lines {b : UInt8} : ∀ (L : List Str), (∀ l ∈ L, b ∉ l) → splitAll b [] (L.flatMap fun l => l ++ [b]) = L ++ [[]]
  | [], _ => rfl
  | l :: t, h => by
    rw [List.flatMap_cons, List.append_assoc, List.singleton_append, split_at _ _ _ (h l (by simp)), split_lines t fun x hx => h x (List.mem_cons_of_mem _ hx)]
    rfl
theorem lines_of {L : List Str} (h : ∀ l ∈ L, (10 : UInt8) ∉ l) : linesT (L.flatMap fun l => l ++ [10]) = L := by
  unfold linesT dropLast0
  rw [split_lines L h]
  simp
/-- A word: not empty, without blanks and line ends. -/
def Wd (w : Str) : Prop := w ≠ [] ∧ (32 : UInt8) ∉ w ∧ (10 : UInt8) ∉ w
theorem words_join : ∀ (ws : List Str), (∀ w ∈ ws, Wd w) → (splitAll 32 [] (joinT ws)).filter (fun w => !w.isEmpty) = ws
  | [], _ => rfl
  | [w], h => by
    obtain ⟨h1, h2, _⟩ := h w (by simp)
    simp only [joinT]
    rw [split_no w [] h2]
    simp [h1]
  | w :: x :: t, h => by
    obtain ⟨h1, h2, _⟩ := h w (by simp)
    simp only [joinT]
    rw [split_at w [] _ h2, List.filter_cons, words_join (x :: t) fun y hy => h y (List.mem_cons_of_mem _ hy)]
    simp [h1]
theorem words_blanks : ∀ (d : Nat) (s : Str), wordsT (List.replicate d 32 ++ s) = wordsT s
  | 0, s => rfl
  | d + 1, s => by
    rw [List.replicate_succ, List.cons_append]
    unfold wordsT
    simp only [splitAll, ↓reduceIte, List.filter_cons]
    exact words_blanks d s
theorem words_line {d : Nat} {ws : List Str} (h : ∀ w ∈ ws, Wd w) : wordsT (List.replicate d 32 ++ joinT ws) = ws := by
  rw [words_blanks]
  exact words_join ws h
theorem join_mem : ∀ (ws : List Str) (b : UInt8), b ∈ joinT ws → b = 32 ∨ ∃ w ∈ ws, b ∈ w
  | [], b, h => by simp [joinT] at h
  | [w], b, h => .inr ⟨w, by simp, by simpa [joinT] using h⟩
  | w :: x :: t, b, h => by
    simp only [joinT, List.mem_append, List.mem_cons] at h
    rcases h with h | h | h
    · exact .inr ⟨w, by simp, h⟩
    · exact .inl h
    · rcases join_mem (x :: t) b h with h | ⟨y, hy, h⟩
      · exact .inl h
      · exact .inr ⟨y, List.mem_cons_of_mem _ hy, h⟩

/-! words of right statements -/
theorem dec_wd (n : Nat) (h : n < 1000) : ∀ b ∈ decN n, 48 ≤ b.toNat := by
  intro b hb
  unfold decN at hb
  split at hb
  · simp at hb; subst hb; rw [dg_nat _ (by omega)]; omega
  · split at hb
    · simp at hb; rcases hb with rfl | rfl <;> rw [dg_nat _ (by omega)] <;> omega
    · simp at hb; rcases hb with rfl | rfl | rfl <;> rw [dg_nat _ (by omega)] <;> omega
theorem dec_ne (n : Nat) : decN n ≠ [] := by unfold decN; split <;> (try split) <;> simp
theorem wd_of {w : Str} (h : w ≠ []) (hb : ∀ b ∈ w, 33 ≤ b.toNat) : Wd w := ⟨h, fun hc => by have := hb _ hc; simp at this, fun hc => by have := hb _ hc; simp at this⟩
theorem decZ_wd (n : Int) (h : -1000 < n ∧ n < 1000) : decZ n ≠ [] ∧ ∀ b ∈ decZ n, 33 ≤ b.toNat := by
  unfold decZ
  split
  · refine ⟨by simp, fun b hb => ?_⟩
    rcases List.mem_cons.1 hb with rfl | hb
    · decide
    · have := dec_wd _ (by omega) b hb; omega
  · exact ⟨dec_ne _, fun b hb => by have := dec_wd _ (by omega) b hb; omega⟩
theorem regT_wd (r : Int) (h : r < 1000) : regT r ≠ [] ∧ ∀ b ∈ regT r, 33 ≤ b.toNat := by
  unfold regT
  refine ⟨by simp, fun b hb => ?_⟩
  rcases List.mem_cons.1 hb with rfl | hb
  · decide
  · have := dec_wd _ (by omega) b hb; omega
theorem argT_wd (r n : Int) (hr : r < 1000) (h : -1000 < n ∧ n < 1000) : argT r n ≠ [] ∧ ∀ b ∈ argT r n, 33 ≤ b.toNat := by
  unfold argT
  split
  · exact decZ_wd n h
  · obtain ⟨h1, h2⟩ := regT_wd r hr
    refine ⟨by simp [h1], fun b hb => ?_⟩
    rcases List.mem_append.1 hb with hb | hb
    · exact h2 b hb
    · split at hb
      · rcases List.mem_cons.1 hb with rfl | hb
        · decide
        · have := dec_wd _ (by omega) b hb; omega
      · split at hb
        · exact (decZ_wd n h).2 b hb
        · cases hb
theorem line_wd {s : St7} (h : Rt s) : ∀ w ∈ lineT s, Wd w := by
  intro w hw
  obtain ⟨hk, hc, hr, ha, hb, hl⟩ := h
  unfold lineT at hw
  rcases List.mem_cons.1 hw with rfl | hw
  · have : ∀ k : Nat, k < 17 → 0 < k → (kindT.getD k [] ≠ [] ∧ ∀ b ∈ kindT.getD k [], 33 ≤ b.toNat) := by decide
    obtain ⟨h1, h2⟩ := this s.k.toNat (by omega) (by omega)
    exact wd_of h1 h2
  · obtain ⟨f, _, rfl⟩ := List.mem_map.1 hw
    have c8 : -1000 < s.c ∧ s.c < 1000 := by split at hc <;> omega
    have r8 : s.r < 1000 := by split at hr <;> omega
    have a8 : s.ar < 1000 ∧ -1000 < s.an ∧ s.an < 1000 := by split at ha <;> omega
    have b8 : s.br < 1000 ∧ -1000 < s.bn ∧ s.bn < 1000 := by split at hb <;> omega
    cases f
    · exact wd_of (decZ_wd _ c8).1 (decZ_wd _ c8).2
    · exact wd_of (argT_wd _ _ a8.1 a8.2).1 (argT_wd _ _ a8.1 a8.2).2
    · exact wd_of (argT_wd _ _ b8.1 b8.2).1 (argT_wd _ _ b8.1 b8.2).2
    · exact wd_of (regT_wd _ r8).1 (regT_wd _ r8).2
    · exact wd_of (argT_wd _ _ a8.1 a8.2).1 (argT_wd _ _ a8.1 a8.2).2
    · exact wd_of (by simp [wordT]) (by simp [wordT])
theorem out_wd : ∀ (F : Fo) (d : Nat), AllOk F → ∀ l ∈ outT F d, ∀ w ∈ l.2, Wd w
  | .nil, d, _, l, hl => by simp [outT] at hl
  | .cons s B E R, d, h, l, hl => by
    obtain ⟨h1, _, _, h4, h5, h6⟩ := h
    have w125 : Wd [125] := ⟨by simp, by simp, by simp⟩
    have w123 : Wd [123] := ⟨by simp, by simp, by simp⟩
    have wels : Wd [101, 108, 115, 101] := ⟨by simp, by simp, by simp⟩
    simp only [outT, List.mem_cons, List.mem_append] at hl
    rcases hl with rfl | hl | hl
    · exact line_wd h1
    · split at hl
      · simp only [List.mem_append, List.mem_singleton] at hl
        rcases hl with hl | hl | rfl
        · exact out_wd B _ h4 l hl
        · cases E with
          | nil => simp at hl
          | cons s' B' E' R' =>
            simp only [List.mem_cons] at hl
            rcases hl with rfl | hl
            · intro w hw
              simp at hw
              rcases hw with rfl | rfl | rfl
              · exact w125
              · exact wels
              · exact w123
            · exact out_wd _ _ h5 l hl
        · intro w hw
          simp at hw
          subst hw
          exact w125
      · cases hl
    · exact out_wd R _ h6 l hl

/-- A right transaction's text is read from it as it was. -/
theorem parse_text {F : Fo} (h : AllOk F) (few : (textT F).length ≤ 20000) : parseT (textT F) = .inl F := by
  have hw := out_wd F 0 h
  have e1 : textT F = ((outT F 0).map fun l => List.replicate l.1 32 ++ joinT l.2).flatMap fun l => l ++ [10] := by
    unfold textT
    rw [List.flatMap_map]
  have e2 : linesT (textT F) = (outT F 0).map fun l => List.replicate l.1 32 ++ joinT l.2 := by
    rw [e1]
    refine lines_of fun l hl => ?_
    obtain ⟨x, hx, rfl⟩ := List.mem_map.1 hl
    intro hc
    rcases List.mem_append.1 hc with hc | hc
    · have := (List.mem_replicate.1 hc).2; simp at this
    · rcases join_mem _ _ hc with hc | ⟨w, hw', hc⟩
      · simp at hc
      · exact (hw x hx w hw').2.2 hc
  have e3 : (linesT (textT F)).map wordsT = (outT F 0).map (·.2) := by
    rw [e2, List.map_map]
    refine List.map_congr_left fun x hx => ?_
    exact words_line (hw x hx)
  have e4 := run_out F 0 [] 0 ⟨[], .nil⟩ h
  unfold parseT
  rw [if_neg (by omega), e3, ← List.append_nil ((outT F 0).map (·.2)), e4]
  simp [runT, putT, Fo.app]

/-- Right, with eight collections that are ordered. -/
def K8 : List Int := [3, 3, 3, 3, 3, 3, 3, 3]
theorem ok_of_lines : ∀ (F : Fo) (d : Nat), (∀ l ∈ lin F d, one l.s l.B.len l.E.len K8 = true) → AllOk F
  | .nil, _, _ => trivial
  | .cons s B E R, d, h => by
    obtain ⟨h1, h2, h3⟩ := one_rt (h ⟨s, B, E, d⟩ (by simp [lin])) rfl
    have len0 : ∀ G : Fo, G ≠ .nil → G.len ≠ 0 := fun G hG h0 => hG (by
      have : G.items = [] := List.eq_nil_of_length_eq_zero h0
      rw [← Fo.of_items G, this]; rfl)
    exact ⟨h1, fun e => h2 (len0 B e), fun e => h3 (len0 E e), ok_of_lines B (d + 1) fun l hl => h l (by simp [lin, hl]), ok_of_lines E (d + 1) fun l hl => h l (by simp [lin, hl]), ok_of_lines R d fun l hl => h l (by simp [lin, hl])⟩
theorem ok_of_right {F : Fo} (h : (right F K8).1 = 0) : AllOk F := ok_of_lines F 1 fun l hl => ((right_none K8 _ _ h).2.2 l hl).2
end Go.Proofs.YtcdlchcmidfhiaaGreatDoor

namespace Go.Proofs.YtcdlchcmidfhiaaGreatDoor

theorem split_app {b : UInt8} : ∀ (s cur t : Str), splitAll b cur (s ++ b :: t) = splitAll b cur s ++ splitAll b [] t
  | [], cur, t => by simp [splitAll]
  | x :: s, cur, t => by
    simp only [List.cons_append, splitAll]
    split
    · rw [split_app s [] t]; rfl
    · exact split_app s _ t
theorem split_ne {b : UInt8} : ∀ (s cur : Str), splitAll b cur s ≠ []
  | [], cur => by simp [splitAll]
  | x :: s, cur => by
    simp only [splitAll]
    split
    · simp
    · exact split_ne s _
theorem split_mem {b : UInt8} : ∀ (s cur w : Str), b ∉ cur → w ∈ splitAll b cur s → b ∉ w ∧ ∀ x ∈ w, x ∈ cur ∨ x ∈ s
  | [], cur, w, hc, hw => by
    simp [splitAll] at hw
    subst hw
    exact ⟨hc, fun x hx => .inl hx⟩
  | x :: s, cur, w, hc, hw => by
    simp only [splitAll] at hw
    split at hw
    · rename_i e
      rcases List.mem_cons.1 hw with rfl | hw
      · exact ⟨hc, fun y hy => .inl hy⟩
      · obtain ⟨h1, h2⟩ := split_mem s [] w (by simp) hw
        exact ⟨h1, fun y hy => .inr (by
          rcases h2 y hy with h | h
          · cases h
          · exact List.mem_cons_of_mem _ h)⟩
    · rename_i e
      obtain ⟨h1, h2⟩ := split_mem s (cur ++ [x]) w (by simp [hc]; exact fun h => e h.symm) hw
      exact ⟨h1, fun y hy => by
        rcases h2 y hy with h | h
        · rcases List.mem_append.1 h with h | h
          · exact .inl h
          · simp at h; subst h; exact .inr (by simp)
        · exact .inr (List.mem_cons_of_mem _ h)⟩
theorem drop0_mem {l : List Str} {w : Str} (h : w ∈ dropLast0 l) : w ∈ l := by
  unfold dropLast0 at h
  split at h
  · exact (List.dropLast_sublist l).subset h
  · exact h
theorem lines_no {s l : Str} (h : l ∈ linesT s) : (10 : UInt8) ∉ l := (split_mem s [] l (by simp) (drop0_mem h)).1
theorem words_wd {l w : Str} (hl : (10 : UInt8) ∉ l) (h : w ∈ wordsT l) : Wd w := by
  unfold wordsT at h
  rw [List.mem_filter] at h
  obtain ⟨h1, h2⟩ := split_mem l [] w (by simp) h.1
  refine ⟨by simpa using h.2, h1, fun hc => ?_⟩
  rcases h2 _ hc with h | h
  · cases h
  · exact hl h

/-! ### blanks -/
def gap (n : Nat) : Str := List.replicate (n % 3 + 1) 32
def spaced (i : Nat) : Nat → List Str → Str
  | _, [] => []
  | k, w :: t => gap (i + k) ++ (w ++ spaced i (k + 1) t)
/-- A text with blanks ahead, behind and between words, and empty lines: of the words of lines from number i on. -/
def blankL : Nat → List (List Str) → List Str
  | _, [] => []
  | i, ws :: t => (if i % 2 = 1 then [[]] else []) ++ (spaced i 0 ws ++ [32]) :: blankL (i + 1) t
def blankT (i : Nat) (L : List (List Str)) : Str := (blankL i L).flatMap fun l => l ++ [10]

theorem words_blank (s : Str) : wordsT (32 :: s) = wordsT s := words_blanks 1 s
theorem words_cons {w s : Str} (h : Wd w) : wordsT (w ++ 32 :: s) = w :: wordsT s := by
  unfold wordsT
  rw [split_at w [] s h.2.1, List.filter_cons]
  simp [h.1]
theorem words_spaced (i : Nat) : ∀ (k : Nat) (ws : List Str), (∀ w ∈ ws, Wd w) → wordsT (spaced i k ws ++ [32]) = ws ∧ ∃ r, spaced i k ws ++ [32] = 32 :: r
  | k, [], _ => ⟨rfl, [], rfl⟩
  | k, w :: t, h => by
    obtain ⟨h1, r, h2⟩ := words_spaced i (k + 1) t fun x hx => h x (List.mem_cons_of_mem _ hx)
    refine ⟨?_, ?_⟩
    · simp only [spaced, gap, List.append_assoc]
      rw [words_blanks, h2, words_cons (h w (by simp)), ← words_blank r, ← h2, h1]
    · simp only [spaced, gap, List.append_assoc, List.replicate_succ, List.cons_append]
      exact ⟨_, rfl⟩
theorem spaced_no (i : Nat) : ∀ (k : Nat) (ws : List Str), (∀ w ∈ ws, Wd w) → (10 : UInt8) ∉ spaced i k ws
  | k, [], _ => by simp [spaced]
  | k, w :: t, h => by
    have h1 := spaced_no i (k + 1) t fun x hx => h x (List.mem_cons_of_mem _ hx)
    simp only [spaced, gap, List.mem_append, not_or]
    exact ⟨fun hc => by have := (List.mem_replicate.1 hc).2; simp at this, (h w (by simp)).2.2, h1⟩
theorem blank_words : ∀ (L : List (List Str)) (i : Nat), (∀ ws ∈ L, ∀ w ∈ ws, Wd w) → ((blankL i L).map wordsT).filter (fun ws => !ws.isEmpty) = L.filter (fun ws => !ws.isEmpty) ∧ ∀ l ∈ blankL i L, (10 : UInt8) ∉ l
  | [], i, _ => ⟨rfl, fun l hl => by simp [blankL] at hl⟩
  | ws :: t, i, h => by
    obtain ⟨h1, h2⟩ := blank_words t (i + 1) fun x hx => h x (List.mem_cons_of_mem _ hx)
    have hw := h ws (by simp)
    have e := (words_spaced i 0 ws hw).1
    have no := spaced_no i 0 ws hw
    refine ⟨?_, fun l hl => ?_⟩
    · simp only [blankL, List.map_append, List.filter_append, List.map_cons, List.filter_cons]
      rw [e, h1]
      split <;> simp [wordsT, splitAll]
    · simp only [blankL, List.mem_append, List.mem_cons] at hl
      rcases hl with hl | rfl | hl
      · split at hl
        · simp at hl; subst hl; simp
        · cases hl
      · simp [no]
      · exact h2 l hl
/-- Lines without words do nothing. -/
theorem run_filter : ∀ (L : List (List Str)) (i j : Nat) (st : PS), (∃ st', runT L i st = .inl st' ∧ runT (L.filter fun ws => !ws.isEmpty) j st = .inl st') ∨ (∃ a b, runT L i st = .inr a ∧ runT (L.filter fun ws => !ws.isEmpty) j st = .inr b)
  | [], i, j, st => .inl ⟨st, rfl, rfl⟩
  | [] :: t, i, j, st => by
    simp only [runT, stepT, List.isEmpty_nil, Bool.not_true, Bool.false_eq_true, not_false_eq_true, List.filter_cons_of_neg]
    exact run_filter t (i + 1) j st
  | (w :: ws) :: t, i, j, st => by
    simp only [List.isEmpty_cons, Bool.not_false, List.filter_cons_of_pos, runT]
    cases stepT st (w :: ws) with
    | none => exact .inr ⟨_, _, rfl, rfl⟩
    | some st' => exact run_filter t (i + 1) (j + 1) st'
theorem blanks_law {s : Str} (hs : s.length ≤ 20000) (ht : (blankT 0 ((linesT s).map wordsT)).length ≤ 20000) :
    (∃ F, parseT s = .inl F ∧ parseT (blankT 0 ((linesT s).map wordsT)) = .inl F) ∨ (∃ a b, parseT s = .inr (9, a) ∧ parseT (blankT 0 ((linesT s).map wordsT)) = .inr (9, b)) := by
  have hw : ∀ ws ∈ (linesT s).map wordsT, ∀ w ∈ ws, Wd w := fun ws h w hw => by
    obtain ⟨l, hl, rfl⟩ := List.mem_map.1 h
    exact words_wd (lines_no hl) hw
  obtain ⟨b1, b2⟩ := blank_words _ 0 hw
  have e : linesT (blankT 0 ((linesT s).map wordsT)) = blankL 0 ((linesT s).map wordsT) := lines_of b2
  generalize hL : (linesT s).map wordsT = L at *
  have r1 := run_filter L 0 0 ⟨[], .nil⟩
  have r2 := run_filter ((blankL 0 L).map wordsT) 0 0 ⟨[], .nil⟩
  rw [b1] at r2
  unfold parseT
  rw [if_neg (by omega), if_neg (by omega), hL, e]
  rcases r1 with ⟨st, h1, h2⟩ | ⟨a, b, h1, h2⟩ <;> rcases r2 with ⟨st', h3, h4⟩ | ⟨a', b', h3, h4⟩
  · rw [h2] at h4
    injection h4 with h4
    subst h4
    rw [h1, h3]
    by_cases ho : st.op = []
    · exact .inl ⟨st.p, by simp [ho], by simp [ho]⟩
    · exact .inr ⟨(linesT s).length + 1, (blankL 0 L).length + 1, by simp [ho], by simp [ho]⟩
  · rw [h2] at h4; cases h4
  · rw [h2] at h4; cases h4
  · rw [h1, h3]
    exact .inr ⟨_, _, rfl, rfl⟩

/-! ### two texts -/
theorem drop0_app {A B : List Str} (hB : B ≠ []) : dropLast0 (A ++ B) = A ++ dropLast0 B := by
  unfold dropLast0
  rw [List.getLast?_append]
  obtain ⟨x, hx⟩ : ∃ x, B.getLast? = some x := by
    cases h : B.getLast? with
    | none => rw [List.getLast?_eq_none_iff] at h; exact absurd h hB
    | some x => exact ⟨x, rfl⟩
  rw [hx]
  simp only [Option.some_or]
  by_cases e : x = []
  · subst e
    simp [List.dropLast_append_of_ne_nil hB]
  · simp [e]
theorem lines_end (s : Str) : linesT (s ++ [10]) = splitAll 10 [] s := by
  unfold linesT
  rw [split_app s [] []]
  simp [splitAll, dropLast0]
theorem lines_app (s t : Str) : linesT (s ++ 10 :: t) = linesT (s ++ [10]) ++ linesT t := by
  rw [lines_end]
  unfold linesT
  rw [split_app s [] t, drop0_app (split_ne t [])]
theorem run_app : ∀ (L M : List (List Str)) (i : Nat) (st : PS), runT (L ++ M) i st = match runT L i st with | .inl st' => runT M (i + L.length) st' | .inr n => .inr n
  | [], M, i, st => by simp [runT]
  | l :: t, M, i, st => by
    simp only [List.cons_append, runT]
    cases stepT st l with
    | none => rfl
    | some st' =>
      simp only
      rw [run_app t M (i + 1) st', List.length_cons, show i + 1 + t.length = i + (t.length + 1) by omega]
/-- A line end more, or less, at the end. -/
theorem run_end {s : Str} {st : PS} (h : runT ((linesT s).map wordsT) 0 ⟨[], .nil⟩ = .inl st) : runT ((linesT (s ++ [10])).map wordsT) 0 ⟨[], .nil⟩ = .inl st := by
  rw [lines_end]
  unfold linesT dropLast0 at h
  split at h
  · rename_i e
    have hne := split_ne (b := 10) s []
    have e2 : splitAll 10 [] s = (splitAll 10 [] s).dropLast ++ [[]] := by
      have := List.dropLast_concat_getLast hne
      have e3 : (splitAll 10 [] s).getLast hne = [] := by
        rw [List.getLast?_eq_some_getLast hne] at e
        exact Option.some.inj e
      rw [e3] at this
      exact this.symm
    rw [e2, List.map_append, run_app, h]
    rfl
  · exact h
def pre (p : Fo) (st : PS) : PS := ⟨st.op, p.app st.p⟩
theorem put_pre (p x : Fo) (st : PS) : putT x (pre p st) = pre p (putT x st) := by
  obtain ⟨op, q⟩ := st
  cases op with
  | nil => simp [putT, pre, app_app]
  | cons o t => rfl
theorem step_pre (p : Fo) (st : PS) (ws : List Str) : stepT (pre p st) ws = (stepT st ws).map (pre p) := by
  cases ws with
  | nil => rfl
  | cons w t =>
    obtain ⟨op, q⟩ := st
    simp only [stepT]
    split
    · cases op with
      | nil => rfl
      | cons o op => exact congrArg some (put_pre p (one1 o.s o.B o.E) ⟨op, q⟩)
    · split
      · cases op with
        | nil => rfl
        | cons o op =>
          simp only [pre]
          split <;> rfl
      · cases stmtT (w :: t) with
        | none => rfl
        | some s =>
          simp only
          split
          · rfl
          · exact congrArg some (put_pre p (one1 s .nil .nil) ⟨op, q⟩)
theorem run_pre (p : Fo) (i : Nat) : ∀ (L : List (List Str)) (j : Nat) (st : PS), runT L (i + j) (pre p st) = match runT L j st with | .inl st' => .inl (pre p st') | .inr n => .inr (i + n)
  | [], j, st => rfl
  | l :: t, j, st => by
    simp only [runT]
    rw [step_pre]
    cases stepT st l with
    | none => simp only [Option.map_none]; rw [Nat.add_assoc]
    | some st' =>
      simp only [Option.map_some]
      rw [Nat.add_assoc, run_pre p i t (j + 1) st']
theorem joins_law {s t : Str} {F : Fo} (hs : s.length + 1 + t.length ≤ 20000) (h : parseT s = .inl F) :
    parseT (s ++ 10 :: t) = match parseT t with | .inl G => .inl (F.app G) | .inr x => .inr (x.1, (linesT (s ++ [10])).length + x.2) := by
  unfold parseT at h ⊢
  rw [if_neg (by omega)] at h
  rw [if_neg (by simp; omega), if_neg (by omega), lines_app, List.map_append, run_app]
  cases hr : runT ((linesT s).map wordsT) 0 ⟨[], .nil⟩ with
  | inr n => rw [hr] at h; cases h
  | inl st =>
    rw [hr] at h
    simp only at h
    split at h
    · rename_i ho
      injection h with h
      rw [run_end hr]
      simp only
      have e : st = pre F ⟨[], .nil⟩ := by
        obtain ⟨op, q⟩ := st
        simp only at ho h
        subst ho
        subst h
        simp [pre, app_nil]
      rw [List.length_map, e]
      have := run_pre F (0 + (linesT (s ++ [10])).length) ((linesT t).map wordsT) 0 ⟨[], .nil⟩
      rw [Nat.add_zero] at this
      rw [this]
      cases runT ((linesT t).map wordsT) 0 ⟨[], .nil⟩ with
      | inr n => simp
      | inl st' =>
        simp only [pre]
        by_cases ho : st'.op = []
        · simp [ho]
        · simp [ho]; omega
    · cases h
end Go.Proofs.YtcdlchcmidfhiaaGreatDoor

namespace Go.Proofs.YtcdlchcmidfhiaaGreatDoor

def lineS (l : Nat × List Str) : Str := List.replicate l.1 32 ++ joinT l.2 ++ [10]
/-- The text of statements that lie d blanks deep. -/
def txt (F : Fo) (d : Nat) : Str := (outT F d).flatMap lineS
theorem text_txt (F : Fo) : textT F = txt F 0 := rfl
theorem out_app : ∀ (F G : Fo) (d : Nat), outT (F.app G) d = outT F d ++ outT G d
  | .nil, G, d => rfl
  | .cons s B E R, G, d => by simp only [Fo.app, outT, out_app R G d, List.cons_append, List.append_assoc]
theorem txt_nil (d : Nat) : txt .nil d = [] := rfl
theorem txt_app (F G : Fo) (d : Nat) : txt (F.app G) d = txt F d ++ txt G d := by
  unfold txt
  rw [out_app, List.flatMap_append]
/-- What stands between words. -/
def spW (ws : List Str) : Str := ws.flatMap fun w => 32 :: w
theorem join_sp (w : Str) : ∀ ws : List Str, joinT (w :: ws) = w ++ spW ws
  | [] => by simp [joinT, spW]
  | x :: t => by
    have := join_sp x t
    simp only [joinT, spW, List.flatMap_cons] at this ⊢
    rw [this]
    simp
theorem sp_snoc (ws : List Str) (w : Str) : spW (ws ++ [w]) = spW ws ++ 32 :: w := by simp [spW]
/-- The Else of a statement, as it is told. -/
def elseT (E : Fo) (d : Nat) : Str := match E with
  | .nil => []
  | .cons _ _ _ _ => List.replicate d 32 ++ [125, 32, 101, 108, 115, 101, 32, 123, 10] ++ txt E (d + 2)
theorem txt_one (s : St7) (B E : Fo) (d : Nat) : txt (.cons s B E .nil) d = lineS (d, lineT s) ++ (if isBlk s.k then txt B (d + 2) ++ (elseT E d ++ (List.replicate d 32 ++ [125, 10])) else []) := by
  unfold txt
  simp only [outT, List.flatMap_cons, List.append_nil]
  congr 1
  split
  · cases E with
    | nil => simp [elseT, lineS, joinT]
    | cons s' B' E' R' => simp [elseT, lineS, joinT, txt, List.flatMap_append]
  · rfl
theorem txt_upto {F : Fo} {i : Nat} {s : St7} {B E : Fo} (h : F.items[i]? = some (s, B, E)) (d : Nat) : txt (F.upto (i + 1)) d = txt (F.upto i) d ++ txt (.cons s B E .nil) d := by
  rw [Fo.upto_add h, txt_app]
theorem ok_app : ∀ {F G : Fo}, AllOk (F.app G) ↔ AllOk F ∧ AllOk G
  | .nil, G => by simp [Fo.app, AllOk]
  | .cons s B E R, G => by simp [Fo.app, AllOk, ok_app (F := R) (G := G), and_assoc]
theorem ok_item : ∀ {F : Fo} {i : Nat} {s : St7} {B E : Fo}, AllOk F → F.items[i]? = some (s, B, E) → Rt s ∧ (B ≠ .nil → isBlk s.k = true) ∧ (E ≠ .nil → s.k = 11 ∨ s.k = 14) ∧ AllOk B ∧ AllOk E
  | .cons s B E R, 0, _, _, _, h, hx => by
    simp [Fo.items] at hx
    obtain ⟨rfl, rfl, rfl⟩ := hx
    exact ⟨h.1, h.2.1, h.2.2.1, h.2.2.2.1, h.2.2.2.2.1⟩
  | .cons s B E R, i + 1, _, _, _, h, hx => ok_item (F := R) h.2.2.2.2.2 (by simpa [Fo.items] using hx)
  | .nil, i, _, _, _, _, hx => by simp [Fo.items] at hx

/-! ### how long -/
theorem decN_few (n : Nat) : (decN n).length ≤ 3 := by unfold decN; split <;> (try split) <;> simp
theorem decZ_few (n : Int) : (decZ n).length ≤ 4 := by
  unfold decZ
  split
  · have := decN_few (-n).toNat; simp; omega
  · have := decN_few n.toNat; omega
theorem word_few (s : St7) (f : Fm) : (wordT s f).length ≤ 8 := by
  have a : ∀ r n : Int, (argT r n).length ≤ 8 := fun r n => by
    unfold argT regT
    split
    · have := decZ_few n; omega
    · have h1 := decN_few r.toNat
      split
      · have := decN_few n.toNat; simp; omega
      · split
        · have := decZ_few n; simp; omega
        · simp; omega
  cases f <;> simp only [wordT]
  · have := decZ_few s.c; omega
  · exact a _ _
  · exact a _ _
  · have := decN_few s.r.toNat; simp [regT]; omega
  · exact a _ _
  · simp
theorem sp_few (s : St7) : ∀ l : List Fm, (spW (l.map (wordT s))).length ≤ 9 * l.length
  | [] => Nat.zero_le _
  | f :: t => by
    have h1 := word_few s f
    have h2 := sp_few s t
    simp only [spW, List.map_cons, List.flatMap_cons, List.length_append, List.length_cons] at h2 ⊢
    omega
theorem line_few {s : St7} (h : 1 ≤ s.k ∧ s.k ≤ 16) (d : Nat) : (lineS (d, lineT s)).length ≤ d + 50 := by
  have h1 : ∀ k : Nat, k < 17 → (kindT.getD k []).length ≤ 6 ∧ (formT.getD k []).length ≤ 4 := by decide
  obtain ⟨h2, h3⟩ := h1 s.k.toNat (by omega)
  have h4 := sp_few s (formT.getD s.k.toNat [])
  unfold lineS lineT
  rw [join_sp]
  simp only [List.length_append, List.length_replicate, List.length_singleton]
  omega
theorem txt_few : ∀ (F : Fo) (d m : Nat), AllOk F → d + 2 * F.deep ≤ m → (txt F d).length ≤ F.size * (3 * m + 100)
  | .nil, d, m, _, _ => by simp [txt, outT]
  | .cons s B E R, d, m, h, hm => by
    obtain ⟨h1, _, _, h4, h5, h6⟩ := h
    simp only [Fo.deep] at hm
    have lf := line_few h1.k d
    have iB := txt_few B (d + 2) m h4 (by omega)
    have iE := txt_few E (d + 2) m h5 (by omega)
    have iR := txt_few R d m h6 (by omega)
    have e : txt (.cons s B E R) d = txt (.cons s B E .nil) d ++ txt R d := by
      rw [← txt_app]; rfl
    have el : (elseT E d).length ≤ d + 9 + (txt E (d + 2)).length := by
      cases E with
      | nil => simp [elseT]
      | cons s' B' E' R' => simp [elseT]; omega
    rw [e, txt_one, List.length_append, List.length_append]
    have key : (if isBlk s.k then txt B (d + 2) ++ (elseT E d ++ (List.replicate d 32 ++ [125, 10])) else []).length ≤ (txt B (d + 2)).length + (elseT E d).length + d + 2 := by
      split
      · simp; omega
      · simp
    simp only [Fo.size, Nat.add_mul, Nat.one_mul]
    omega
end Go.Proofs.YtcdlchcmidfhiaaGreatDoor

namespace Go.Proofs.YtcdlchcmidfhiaaGreatDoor

/-! ### digits -/
theorem dd1 (n : Nat) (h : n < 10) : Lib.decDigits n = [dg n] := by rw [Lib.decDigits, dif_pos h]; rfl
theorem dd2 (n : Nat) (h : 10 ≤ n) : Lib.decDigits n = Lib.decDigits (n / 10) ++ [dg (n % 10)] := by rw [Lib.decDigits, dif_neg (by omega)]; rfl
theorem dig_dec (n : Nat) (h : n < 1000) : Lib.decDigits n = decN n := by
  unfold decN
  split
  · exact dd1 n (by omega)
  · split
    · rw [dd2 n (by omega), dd1 _ (by omega)]; rfl
    · rw [dd2 n (by omega), dd2 (n / 10) (by omega), dd1 _ (by omega), Nat.div_div_eq_div_mul]; rfl
theorem itoa_dec (n : Int) (h : -1000 < n ∧ n < 1000) : Lib.itoa n = decZ n := by
  unfold Lib.itoa decZ
  split
  · rw [dig_dec _ (by omega), show n.natAbs = (-n).toNat by omega]
  · rw [dig_dec _ (by omega)]
theorem itoa_nat (m : Nat) : Lib.itoa (m : Int) = Lib.decDigits m := by
  unfold Lib.itoa
  rw [if_neg (by omega), Int.toNat_natCast]
theorem itoa_neg (m : Nat) (h : 0 < m) : Lib.itoa (-(m : Int)) = 45 :: Lib.decDigits m := by
  unfold Lib.itoa
  rw [if_pos (by omega), show (-(m : Int)).natAbs = m by omega]
/-- A number of four digits at most: its digits. -/
theorem dig_list (n : Nat) (h : n < 10000) : ∃ ds : List Nat, (∀ d ∈ ds, d < 10) ∧ Lib.decDigits n = ds.map dg ∧ 1 ≤ ds.length ∧ ds.length ≤ 4 ∧ ds.foldl (fun a d => 10 * a + d) 0 = n ∧ (1 < ds.length → ds.head? ≠ some 0) := by
  by_cases h1 : n < 10
  · exact ⟨[n], by simpa using h1, dd1 n h1, by simp, by simp, by simp, by simp⟩
  by_cases h2 : n < 100
  · refine ⟨[n / 10, n % 10], ?_, by rw [dd2 n (by omega), dd1 _ (by omega)]; rfl, by simp, by simp, ?_, ?_⟩
    · intro d hd; simp at hd; omega
    · simp; omega
    · intro _; simp; omega
  by_cases h3 : n < 1000
  · refine ⟨[n / 100, n / 10 % 10, n % 10], ?_, ?_, by simp, by simp, ?_, ?_⟩
    · intro d hd; simp at hd; omega
    · rw [dd2 n (by omega), dd2 (n / 10) (by omega), dd1 _ (by omega), Nat.div_div_eq_div_mul]; rfl
    · simp; omega
    · intro _; simp; omega
  · refine ⟨[n / 1000, n / 100 % 10, n / 10 % 10, n % 10], ?_, ?_, by simp, by simp, ?_, ?_⟩
    · intro d hd; simp at hd; omega
    · rw [dd2 n (by omega), dd2 (n / 10) (by omega), dd2 (n / 10 / 10) (by omega), dd1 _ (by omega), show n / 10 / 10 / 10 = n / 1000 by omega, show n / 10 / 10 = n / 100 by omega]; rfl
    · simp; omega
    · intro _; simp; omega
theorem numN_map : ∀ (ds : List Nat) (a : Nat), (∀ d ∈ ds, d < 10) → (ds.map dg).foldl (fun n b => 10 * n + (b.toNat - 48)) a = ds.foldl (fun a d => 10 * a + d) a
  | [], a, _ => rfl
  | d :: t, a, h => by
    have hd := h d (by simp)
    simp only [List.map_cons, List.foldl_cons]
    rw [dg_nat d hd, show 48 + d - 48 = d by omega]
    exact numN_map t _ fun x hx => h x (List.mem_cons_of_mem _ hx)
theorem plain_dig (n : Nat) (h : n < 10000) : plainT (Lib.decDigits n) = some n := by
  obtain ⟨ds, h1, h2, h3, h4, h5, h6⟩ := dig_list n h
  rw [h2]
  have hall : (ds.map dg).all isDig = true := by
    rw [List.all_map, List.all_eq_true]
    exact fun d hd => isDig_of d (h1 d hd)
  unfold plainT
  rw [if_neg, if_pos hall]
  · unfold numN
    rw [numN_map ds 0 h1, h5]
  · rintro (hc | hc | ⟨hc, hd⟩)
    · have : ds = [] := by simpa using hc
      rw [this] at h3; simp at h3
    · rw [List.length_map] at hc; omega
    · rw [List.length_map] at hc
      have := h6 hc
      rw [List.head?_map] at hd
      cases ds with
      | nil => simp at h3
      | cons d t =>
        simp only [List.head?_cons, Option.map_some, Option.some.injEq] at hd
        have e := dg_nat d (h1 d (by simp))
        rw [hd] at e
        simp at e this
        omega
/-- A plain number is written so, and parsed so. -/
theorem plain_canon {s : Str} {n : Nat} (h : plainT s = some n) : n < 10000 ∧ s ≠ [] ∧ (∀ b ∈ s, isDig b = true) ∧ Lib.parseMag s = .ok n ∧ Lib.decDigits n = s := by
  unfold plainT at h
  split at h
  · cases h
  · rename_i hn
    split at h
    · rename_i hall
      injection h with h
      have hd : ∀ b ∈ s, isDig b = true := List.all_eq_true.1 hall
      have ex : ∀ b ∈ s, ∃ d, d < 10 ∧ b = dg d := fun b hb => by
        have := of_decide_eq_true (hd b hb)
        exact ⟨b.toNat - 48, by omega, UInt8.toNat_inj.1 (by rw [dg_nat _ (by omega)]; omega)⟩
      have hl : s.length ≤ 4 := by
        rcases Nat.lt_or_ge 4 s.length with hc | hc
        · exact absurd (.inr (.inl hc)) hn
        · exact hc
      have hz : 1 < s.length → s.head? ≠ some 48 := fun h1 h2 => hn (.inr (.inr ⟨h1, h2⟩))
      have h0 : s ≠ [] := fun e => hn (.inl e)
      have dig1 : ∀ d, d < 10 → (48 ≤ (dg d).toNat ∧ (dg d).toNat ≤ 57) ∧ (dg d).toNat - 48 = d := fun d h => by rw [dg_nat d h]; omega
      refine ⟨?_, h0, hd, ?_⟩
      · subst h
        match s, hl, ex with
        | [], _, _ => simp [numN]
        | [a], _, ex => obtain ⟨x, hx, rfl⟩ := ex a (by simp); simp [numN, dg_nat, hx]; omega
        | [a, b], _, ex =>
          obtain ⟨x, hx, rfl⟩ := ex a (by simp); obtain ⟨y, hy, rfl⟩ := ex b (by simp)
          simp [numN, dg_nat, hx, hy]; omega
        | [a, b, c], _, ex =>
          obtain ⟨x, hx, rfl⟩ := ex a (by simp); obtain ⟨y, hy, rfl⟩ := ex b (by simp); obtain ⟨z, hz', rfl⟩ := ex c (by simp)
          simp [numN, dg_nat, hx, hy, hz']; omega
        | [a, b, c, d], _, ex =>
          obtain ⟨x, hx, rfl⟩ := ex a (by simp); obtain ⟨y, hy, rfl⟩ := ex b (by simp); obtain ⟨z, hz', rfl⟩ := ex c (by simp); obtain ⟨u, hu, rfl⟩ := ex d (by simp)
          simp [numN, dg_nat, hx, hy, hz', hu]; omega
      · subst h
        match s, hl, ex, hz, h0 with
        | [], _, _, _, h0 => exact absurd rfl h0
        | [a], _, ex, _, _ =>
          obtain ⟨x, hx, rfl⟩ := ex a (by simp)
          have e : numN [dg x] = x := by simp [numN, dg_nat, hx]
          rw [e]
          refine ⟨?_, dd1 x hx⟩
          obtain ⟨q, r⟩ := dig1 x hx
          simp [Lib.parseMag, Lib.parseUint10, q, r]; omega
        | [a, b], _, ex, hz, _ =>
          obtain ⟨x, hx, rfl⟩ := ex a (by simp); obtain ⟨y, hy, rfl⟩ := ex b (by simp)
          have x0 : x ≠ 0 := fun e => hz (by simp) (by simp [e, dg])
          obtain ⟨q, r⟩ := dig1 x hx; obtain ⟨q2, r2⟩ := dig1 y hy
          have e : numN [dg x, dg y] = 10 * x + y := by simp [numN, dg_nat, hx, hy]
          rw [e]
          refine ⟨?_, ?_⟩
          · simp [Lib.parseMag, Lib.parseUint10, q, r, q2, r2]
            repeat (rw [if_neg (by omega)])
            congr 1; omega
          · rw [dd2 _ (by omega), dd1 _ (by omega), show (10 * x + y) / 10 = x by omega, show (10 * x + y) % 10 = y by omega]; rfl
        | [a, b, c], _, ex, hz, _ =>
          obtain ⟨x, hx, rfl⟩ := ex a (by simp); obtain ⟨y, hy, rfl⟩ := ex b (by simp); obtain ⟨z, hz', rfl⟩ := ex c (by simp)
          have x0 : x ≠ 0 := fun e => hz (by simp) (by simp [e, dg])
          obtain ⟨q, r⟩ := dig1 x hx; obtain ⟨q2, r2⟩ := dig1 y hy; obtain ⟨q3, r3⟩ := dig1 z hz'
          have e : numN [dg x, dg y, dg z] = 10 * (10 * x + y) + z := by simp [numN, dg_nat, hx, hy, hz']
          rw [e]
          refine ⟨?_, ?_⟩
          · simp [Lib.parseMag, Lib.parseUint10, q, r, q2, r2, q3, r3]
            repeat (rw [if_neg (by omega)])
            congr 1; omega
          · rw [dd2 _ (by omega), show (10 * (10 * x + y) + z) / 10 = 10 * x + y by omega, show (10 * (10 * x + y) + z) % 10 = z by omega, dd2 _ (by omega), dd1 _ (by omega), show (10 * x + y) / 10 = x by omega, show (10 * x + y) % 10 = y by omega]; rfl
        | [a, b, c, d], _, ex, hz, _ =>
          obtain ⟨x, hx, rfl⟩ := ex a (by simp); obtain ⟨y, hy, rfl⟩ := ex b (by simp); obtain ⟨z, hz', rfl⟩ := ex c (by simp); obtain ⟨u, hu, rfl⟩ := ex d (by simp)
          have x0 : x ≠ 0 := fun e => hz (by simp) (by simp [e, dg])
          obtain ⟨q, r⟩ := dig1 x hx; obtain ⟨q2, r2⟩ := dig1 y hy; obtain ⟨q3, r3⟩ := dig1 z hz'; obtain ⟨q4, r4⟩ := dig1 u hu
          have e : numN [dg x, dg y, dg z, dg u] = 10 * (10 * (10 * x + y) + z) + u := by simp [numN, dg_nat, hx, hy, hz', hu]
          rw [e]
          refine ⟨?_, ?_⟩
          · simp [Lib.parseMag, Lib.parseUint10, q, r, q2, r2, q3, r3, q4, r4]
            repeat (rw [if_neg (by omega)])
            congr 1; omega
          · rw [dd2 _ (by omega), show (10 * (10 * (10 * x + y) + z) + u) / 10 = 10 * (10 * x + y) + z by omega, show (10 * (10 * (10 * x + y) + z) + u) % 10 = u by omega, dd2 _ (by omega), show (10 * (10 * x + y) + z) / 10 = 10 * x + y by omega, show (10 * (10 * x + y) + z) % 10 = z by omega, dd2 _ (by omega), dd1 _ (by omega), show (10 * x + y) / 10 = x by omega, show (10 * x + y) % 10 = y by omega]; rfl
    · cases h

/-! ### Args -/
/-- What the program writes of an Arg. -/
def wrT (r n : Int) : Str := if r = 0 then Lib.itoa n else 114 :: (Lib.itoa r ++ (if n = 0 then [] else if 0 < n then 43 :: Lib.itoa n else Lib.itoa n))
theorem wr_arg {r n : Int} (hr : 0 ≤ r ∧ r < 1000) (hn : -1000 < n ∧ n < 1000) : wrT r n = argT r n := by
  unfold wrT argT
  split
  · exact itoa_dec n hn
  · unfold regT
    rw [itoa_dec r (by omega), itoa_dec n hn, show decZ r = decN r.toNat by unfold decZ; rw [if_neg (by omega)]]
    simp only [List.cons_append]
    by_cases h0 : n = 0
    · subst h0; simp
    · rw [if_neg h0]
      by_cases h1 : 0 < n
      · rw [if_pos h1, if_pos h1, show decZ n = decN n.toNat by unfold decZ; rw [if_neg (by omega)]]
      · rw [if_neg h1, if_neg h1, if_pos (by omega)]
/-- The first byte of a number. -/
theorem dig_head (n : Nat) (h : n < 10000) : ∃ m t, m < 10 ∧ Lib.decDigits n = dg m :: t := by
  obtain ⟨ds, h1, h2, h3, _⟩ := dig_list n h
  cases ds with
  | nil => simp at h3
  | cons d t => exact ⟨d, t.map dg, h1 d (by simp), h2⟩
theorem reg_dg {r : Nat} (h : 1 ≤ r ∧ r ≤ 8) : regR [114, dg r] = r := by
  unfold regR
  simp only
  rw [dg_nat r (by omega), if_pos ⟨trivial, by omega, by omega⟩]
  omega
/-- What is written so is read so. -/
theorem arg_wr (r n : Int) (hr : 0 ≤ r ∧ r ≤ 8) (hn : -9999 ≤ n ∧ n ≤ 9999) : argR (wrT r n) = some (r, n) := by
  unfold wrT
  split
  · rename_i h0
    subst h0
    by_cases hneg : n < 0
    · obtain ⟨m, hm⟩ : ∃ m : Nat, n = -(m : Int) := ⟨(-n).toNat, by omega⟩
      subst hm
      rw [itoa_neg m (by omega)]
      simp only [argR]
      rw [plain_dig m (by omega)]
      simp; omega
    · obtain ⟨m, rfl⟩ : ∃ m : Nat, n = (m : Int) := ⟨n.toNat, by omega⟩
      rw [itoa_nat]
      obtain ⟨q, t, hq, e⟩ := dig_head m (by omega)
      have hp := plain_dig m (by omega)
      rw [e] at hp ⊢
      have n1 := dg_ne q 114 hq (by simp; omega)
      have n2 := dg_ne q 45 hq (by simp; omega)
      unfold argR
      split
      · rename_i heq
        injection heq with heq
        exact absurd heq n1
      · rename_i heq
        injection heq with heq
        exact absurd heq n2
      · rw [hp]
  · obtain ⟨k, rfl⟩ : ∃ k : Nat, r = (k : Int) := ⟨r.toNat, by omega⟩
    rw [itoa_nat, dd1 k (by omega), List.singleton_append]
    have hreg := reg_dg (r := k) (by omega)
    by_cases h0 : n = 0
    · subst h0
      simp only [↓reduceIte, argR, hreg]
      rw [if_neg (by omega)]
    · rw [if_neg h0]
      by_cases h1 : 0 < n
      · obtain ⟨m, rfl⟩ : ∃ m : Nat, n = (m : Int) := ⟨n.toNat, by omega⟩
        rw [if_pos h1, itoa_nat]
        simp only [argR, hreg]
        rw [if_neg (by omega), plain_dig m (by omega)]
        simp; omega
      · obtain ⟨m, hm⟩ : ∃ m : Nat, n = -(m : Int) := ⟨(-n).toNat, by omega⟩
        subst hm
        rw [if_neg h1, itoa_neg m (by omega)]
        simp only [argR, hreg]
        rw [if_neg (by omega), plain_dig m (by omega)]
        simp; omega

/-! ### reading -/
/-- The register that a word tells, what is read as a number, and that number. -/
def rdR (w : Str) : Nat := match w with
  | 114 :: b :: _ => if 49 ≤ b.toNat ∧ b.toNat ≤ 56 then b.toNat - 48 else 0
  | _ => 0
def rdS (w : Str) : Str := if rdR w = 0 then w else w.drop 2
def atN (s : Str) : Int := match Lib.atoiAll s with
  | .ok v => v
  | .syntax => 0
  | .range => Lib.atoiSat s
def rdN (w : Str) : Int := atN (rdS w)
def rdOk (w : Str) : Bool := decide (-9999 ≤ rdN w ∧ rdN w ≤ 9999) && (wrT (rdR w) (rdN w) == w)
theorem rdR_le (w : Str) : rdR w ≤ 8 := by
  unfold rdR
  split
  · split <;> omega
  · omega
theorem rd_none {w : Str} (h : argR w = none) : rdOk w = false := by
  cases hb : rdOk w with
  | false => rfl
  | true =>
    unfold rdOk at hb
    rw [Bool.and_eq_true, beq_iff_eq] at hb
    obtain ⟨h1, h2⟩ := hb
    have := arg_wr (rdR w) (rdN w) ⟨by omega, by have := rdR_le w; omega⟩ (of_decide_eq_true h1)
    rw [h2, h] at this
    cases this
theorem at_plain {s : Str} {m : Nat} (h : plainT s = some m) : atN s = m := by
  obtain ⟨h1, h2, h3, h4, h5⟩ := plain_canon h
  cases s with
  | nil => exact absurd rfl h2
  | cons c t =>
    have hc := of_decide_eq_true (h3 c (by simp))
    unfold atN
    rw [Lib.atoiAll_plain c t (by omega) (by omega), h4]
    simp only [Lib.signless]
    rw [if_neg (by omega)]
theorem at_plus {s : Str} {m : Nat} (h : plainT s = some m) : atN (43 :: s) = m := by
  obtain ⟨h1, h2, h3, h4, h5⟩ := plain_canon h
  unfold atN
  rw [Lib.atoiAll_plus, h4]
  simp only [Lib.signless]
  rw [if_neg (by omega)]
theorem at_minus {s : Str} {m : Nat} (h : plainT s = some m) : atN (45 :: s) = -(m : Int) := by
  obtain ⟨h1, h2, h3, h4, h5⟩ := plain_canon h
  unfold atN
  rw [Lib.atoiAll_minus, h4]
  simp only [Lib.signed]
  rw [if_neg (by omega)]
theorem rd_of {w : Str} {r : Nat} {n : Int} (h1 : rdR w = r) (h2 : rdN w = n) (h3 : -9999 ≤ n ∧ n ≤ 9999) (h4 : wrT r n = w) : rdOk w = true ∧ rdR w = r ∧ rdN w = n := by
  refine ⟨?_, h1, h2⟩
  unfold rdOk
  rw [h1, h2, h4]
  simp [h3]
theorem rdR_no {w : Str} (h : ∀ b t, w ≠ 114 :: b :: t) : rdR w = 0 := by
  unfold rdR
  split
  · rename_i b t
    exact absurd rfl (h b t)
  · rfl
/-- What is read is what argR tells. -/
theorem rd_some {w : Str} {r n : Int} (h : argR w = some (r, n)) : rdOk w = true ∧ (rdR w : Int) = r ∧ rdN w = n := by
  have go : ∀ {k : Nat} {m : Int}, r = k → n = m → (rdOk w = true ∧ rdR w = k ∧ rdN w = m) → rdOk w = true ∧ (rdR w : Int) = r ∧ rdN w = n := fun e1 e2 ⟨a, b, c⟩ => ⟨a, by rw [b, e1], by rw [c, e2]⟩
  unfold argR at h
  split at h
  · rename_i b t
    split at h
    · cases h
    · rename_i hr
      have hb : 49 ≤ b.toNat ∧ b.toNat ≤ 56 ∧ regR [114, b] = b.toNat - 48 := by
        unfold regR at hr ⊢
        simp only at hr ⊢
        by_cases hc : 49 ≤ b.toNat ∧ b.toNat ≤ 56
        · rw [if_pos ⟨trivial, hc⟩]; omega
        · rw [if_neg (fun x => hc x.2)] at hr; exact absurd rfl hr
      obtain ⟨h1, h2, h3⟩ := hb
      have e1 : rdR (114 :: b :: t) = b.toNat - 48 := by unfold rdR; simp only; rw [if_pos ⟨h1, h2⟩]
      have e2 : rdS (114 :: b :: t) = t := by unfold rdS; rw [e1, if_neg (by omega)]; rfl
      have eb : dg (b.toNat - 48) = b := UInt8.toNat_inj.1 (by rw [dg_nat _ (by omega)]; omega)
      have ei : Lib.itoa ((b.toNat - 48 : Nat) : Int) = [b] := by rw [itoa_nat, dd1 _ (by omega), eb]
      have rz : ¬ (((b.toNat - 48 : Nat) : Int) = 0) := by omega
      cases t with
      | nil =>
        simp only at h
        injection h with h
        injection h with h4 h5
        refine go (k := b.toNat - 48) (m := 0) (by rw [← h4, h3]) h5.symm (rd_of e1 (by unfold rdN; rw [e2]; rfl) (by omega) ?_)
        unfold wrT
        rw [if_neg rz, if_pos rfl, ei]
        rfl
      | cons x t =>
        simp only at h
        cases hp : plainT t with
        | none => rw [hp] at h; cases h
        | some m =>
          rw [hp] at h
          simp only at h
          obtain ⟨c1, c2, c3, c4, c5⟩ := plain_canon hp
          split at h
          · cases h
          · rename_i hx
            injection h with h
            injection h with h4 h5
            have hm : 1 ≤ m := by
              rcases Nat.lt_or_ge m 1 with q | q
              · exact absurd (.inl q) hx
              · exact q
            have hx' : x = 43 ∨ x = 45 := Classical.byContradiction fun hc => hx (.inr ⟨fun e => hc (.inl e), fun e => hc (.inr e)⟩)
            rcases hx' with rfl | rfl
            · rw [if_neg (by decide)] at h5
              refine go (k := b.toNat - 48) (m := (m : Int)) (by rw [← h4, h3]) h5.symm (rd_of e1 (by unfold rdN; rw [e2, at_plus hp]) (by omega) ?_)
              unfold wrT
              rw [if_neg rz, if_neg (by omega), if_pos (by omega), ei, itoa_nat, c5]
              rfl
            · rw [if_pos rfl] at h5
              refine go (k := b.toNat - 48) (m := -(m : Int)) (by rw [← h4, h3]) h5.symm (rd_of e1 (by unfold rdN; rw [e2, at_minus hp]) (by omega) ?_)
              unfold wrT
              rw [if_neg rz, if_neg (by omega), if_neg (by omega), ei, itoa_neg m (by omega), c5]
              rfl
  · rename_i t
    cases hp : plainT t with
    | none => rw [hp] at h; cases h
    | some m =>
      rw [hp] at h
      simp only at h
      obtain ⟨c1, c2, c3, c4, c5⟩ := plain_canon hp
      split at h
      · rename_i hm
        injection h with h
        injection h with h4 h5
        have e1 : rdR (45 :: t) = 0 := rfl
        refine go (k := 0) (m := -(m : Int)) h4.symm h5.symm (rd_of e1 (by unfold rdN rdS; rw [e1, if_pos rfl, at_minus hp]) (by omega) ?_)
        unfold wrT
        rw [if_pos (by decide), itoa_neg m hm, c5]
      · cases h
  · rename_i n1 n2
    cases hp : plainT w with
    | none => rw [hp] at h; cases h
    | some m =>
      rw [hp] at h
      simp only at h
      injection h with h
      injection h with h4 h5
      obtain ⟨c1, c2, c3, c4, c5⟩ := plain_canon hp
      have e1 : rdR w = 0 := rdR_no fun b t e => n1 b t e
      refine go (k := 0) (m := (m : Int)) h4.symm h5.symm (rd_of e1 (by unfold rdN rdS; rw [e1, if_pos rfl, at_plain hp]) (by omega) ?_)
      unfold wrT
      rw [if_pos (by decide), itoa_nat, c5]
theorem wr_len {w : Str} (h : rdOk w = true) : argR w = some ((rdR w : Int), rdN w) := by
  cases ha : argR w with
  | none => rw [rd_none ha] at h; cases h
  | some x =>
    obtain ⟨r, n⟩ := x
    obtain ⟨_, h1, h2⟩ := rd_some ha
    rw [h1, h2]
end Go.Proofs.YtcdlchcmidfhiaaGreatDoor
