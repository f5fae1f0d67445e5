/-
  A map with integer keys as a plain function ('HoldsM': block b is a map that has at k what f says), whatever its elements are, as long as a datum tells each of them ('Enc'); look-ups, stores, ranges at the operation. Of no program.
-/
import Derived.Maps.OwnSet
import Derived.Maps.RangeWalk
namespace Go.Proofs.YtpmbkeaimdeglaaDoor
open Go.Maps Go.RowKit

/-- How a map's elements are told by data, each by its own. -/
structure Enc (V : Type) where
  val : V → Value
  dat : V → DataW Unit
  R : Value → Option (DataW Unit × List MemPlace)
  ok : ∀ v, R (val v) = some (dat v, [])
  inv : ∀ x y, R x = some y → ∃ v, x = val v ∧ y = (dat v, [])
  inj : ∀ u v, dat u = dat v → u = v

def ik (k : Int) : Lit := .int .i64 k

theorem ik_key (k : Int) : WideAt.IsKeyLit (ik k) := trivial
theorem ik_ne {a b : Int} (h : a ≠ b) : ik a ≠ ik b := fun e => h (by unfold ik at e; injection e)

section
variable {V : Type}

/-- The datum D has at k what f says. -/
def Reads (E : Enc V) (D : DataW Unit) (f : Int → Option V) : Prop :=
  ∀ k, has D (ik k) = (f k).isSome ∧ ∀ z, D.atKey (ik k) z = (match f k with | some v => E.dat v | none => z)

def upd (f : Int → Option V) (k : Int) (v : V) : Int → Option V := fun j => if j = k then some v else f j

theorem Reads.empty (E : Enc V) : Reads E (.map []) (fun _ => none) := fun _ => ⟨rfl, fun _ => rfl⟩

theorem Reads.put {E : Enc V} {D : DataW Unit} {f : Int → Option V} (h : Reads E D f) (hD : IsMap D) (k : Int) (v : V) : Reads E (D.put (ik k) (E.dat v)) (upd f k v) := by
  intro j
  by_cases e : j = k
  · subst e
    simp only [upd, if_true, Option.isSome]
    exact ⟨has_put_same hD (ik_key _) _, fun z => atKey_put_same hD (ik_key _) _ z⟩
  · simp only [upd, if_neg e]
    exact ⟨(has_put_other (ik_ne e) _).trans (h j).1, fun z => (atKey_put_other (ik_ne e) _ z).trans ((h j).2 z)⟩

/-- Block b is a map that has at k what f says. -/
def HoldsM (P : Program) (K : TypeId) (E : Enc V) (w : World) (b : Nat) (f : Int → Option V) : Prop :=
  ∃ D n, w.ownsMap P K E.R b n D ∧ n = Maps.size D ∧ Reads E D f

open Classical in
theorem subset_length {α : Type} : ∀ {a b : List α}, a.Nodup → (∀ x ∈ a, x ∈ b) → a.length ≤ b.length
  | [], _, _, _ => Nat.zero_le _
  | x :: t, b, hn, hs => by
    have hx : x ∈ b := hs x (List.mem_cons_self ..)
    have h1 := List.length_erase_of_mem hx
    have h2 : 0 < b.length := List.length_pos_of_mem hx
    have hn' := List.nodup_cons.1 hn
    have h3 := subset_length (a := t) (b := b.erase x) hn'.2 (fun y hy => (List.mem_erase_of_ne (fun e : y = x => hn'.1 (by rw [← e]; exact hy))).2 (hs y (List.mem_cons_of_mem _ hy)))
    simp only [List.length_cons]
    omega

variable {P : Program} {K T e : TypeId} {E : Enc V} {w w' : World} {b : Nat} {f : Int → Option V}

theorem HoldsM.lt (h : HoldsM P K E w b f) : b < w.heap.size := by obtain ⟨_, _, h, _⟩ := h; exact h.lt
theorem HoldsM.made (P : Program) (K : TypeId) (E : Enc V) (w : World) : HoldsM P K E (w.alloc (.map #[] 0)) w.heap.size (fun _ => none) :=
  ⟨_, 0, World.ownsMap_made _ _ _ _, rfl, Reads.empty E⟩
theorem HoldsM.of_block (h : HoldsM P K E w b f) (hb : w'.heap[b]? = w.heap[b]?) : HoldsM P K E w' b f := by
  obtain ⟨D, n, ⟨es, clock, h1, h2⟩, h3⟩ := h
  exact ⟨D, n, ⟨es, clock, hb.trans h1, h2⟩, h3⟩

/-- A map has no more entries than a list that names all its keys. -/
theorem size_le {n : Nat} {D : DataW Unit} (hk : P.underlying K = some (.int .i64)) (h : w.ownsMap P K E.R b n D) (hr : Reads E D f) (l : List Int) (hl : ∀ k, (f k).isSome = true → k ∈ l) : Maps.size D ≤ l.length := by
  have K' := int_keyed hk
  obtain ⟨es, rfl, hp, _⟩ := h.entries K'
  have hkeys : ∀ p ∈ es, ∃ x, p.1 = ik x := by
    intro p hp
    obtain ⟨es0, clock, _, F, _, hD⟩ := h
    injection hD with hD
    rw [hD] at hp
    obtain ⟨x, hx, rfl⟩ := List.mem_map.1 (mem_sorted.1 hp)
    obtain ⟨y, hy⟩ := F.reads x hx
    obtain ⟨a, _, ha, _⟩ := Maps.keyOf_int_inv hk (WideElems.rd_key hy)
    exact ⟨a, by rw [WideElems.rg_of hy]; exact ha⟩
  have hn : (es.map (·.1)).Nodup := List.pairwise_map.2 hp
  have := subset_length hn (b := l.map ik) (fun x hx => by
    obtain ⟨p, hp, rfl⟩ := List.mem_map.1 hx
    obtain ⟨k, hk⟩ := hkeys p hp
    rw [hk]
    refine List.mem_map.2 ⟨k, hl k ?_, rfl⟩
    rw [← (hr k).1, has_eq, List.any_eq_true]
    exact ⟨p, hp, by rw [hk]; exact WideAt.sameKey_self (ik_key k)⟩)
  simpa [Maps.size] using this

theorem HoldsM.look (h : HoldsM P K E w b f) (hk : P.underlying K = some (.int .i64)) (ht : P.underlying T = some (.map K e)) (zv : V) (hz : (zeroValue e).run P w = .ok (E.val zv) w) (k : Int) (hw : (Lit.int .i64 k).wf = true) :
    (Instr.lookup T (.map (some b)) (.int .i64 k) false).run P w = .ok (E.val ((f k).getD zv)) w := by
  obtain ⟨D, n, h1, _, h3⟩ := h
  obtain ⟨v, ps, hr, hv⟩ := h1.lookup (int_keyed hk) ht hz (E.ok zv) (keyOf_int_mk hk hw)
  rw [hr]
  obtain ⟨u, rfl, hy⟩ := E.inv _ _ hv
  have h5 := congrArg Prod.fst hy
  have h4 := (h3 k).2 (E.dat zv)
  simp only at h5
  unfold ik at h4
  rw [h4] at h5
  cases hf : f k with
  | none => rw [hf] at h5; rw [← E.inj _ _ h5]; rfl
  | some x => rw [hf] at h5; rw [← E.inj _ _ h5]; rfl

theorem HoldsM.look_ok (h : HoldsM P K E w b f) (hk : P.underlying K = some (.int .i64)) (ht : P.underlying T = some (.map K e)) (zv : V) (hz : (zeroValue e).run P w = .ok (E.val zv) w) (k : Int) (hw : (Lit.int .i64 k).wf = true) :
    (Instr.lookup T (.map (some b)) (.int .i64 k) true).run P w = .ok (.tuple #[E.val ((f k).getD zv), .bool (f k).isSome]) w := by
  obtain ⟨D, n, h1, _, h3⟩ := h
  obtain ⟨v, ps, hr, hv⟩ := h1.look_ok (int_keyed hk) ht hz (E.ok zv) (keyOf_int_mk hk hw)
  rw [hr]
  have h6 := (h3 k).1
  unfold ik at h6
  rw [h6]
  obtain ⟨u, rfl, hy⟩ := E.inv _ _ hv
  have h5 := congrArg Prod.fst hy
  have h4 := (h3 k).2 (E.dat zv)
  simp only at h5
  unfold ik at h4
  rw [h4] at h5
  cases hf : f k with
  | none => rw [hf] at h5; rw [← E.inj _ _ h5]; rfl
  | some x => rw [hf] at h5; rw [← E.inj _ _ h5]; rfl

theorem HoldsM.store (h : HoldsM P K E w b f) (hk : P.underlying K = some (.int .i64)) (ht : P.underlying T = some (.map K e)) (l : List Int) (hl : ∀ j, (f j).isSome = true → j ∈ l) (hlen : l.length < maxLen) (k : Int) (hw : (Lit.int .i64 k).wf = true) (v : V) :
    ∃ w', (Instr.mapUpdate T (.map (some b)) (.int .i64 k) (E.val v)).run P w = .ok () w' ∧ HoldsM P K E w' b (upd f k v) ∧ w.grownBy w' (some b) := by
  obtain ⟨D, n, h1, rfl, h3⟩ := h
  have hs := size_le hk h1 h3 l hl
  obtain ⟨w', hr, h4, h5⟩ := h1.update (int_keyed hk) ht (Nat.lt_of_le_of_lt hs hlen) (keyOf_int_mk hk hw) (E.ok v)
  refine ⟨w', hr, ⟨_, Maps.size (D.put (ik k) (E.dat v)), ?_, rfl, h3.put h1.isMap k v⟩, h5⟩
  obtain ⟨es, clock, hb, F, _, hD⟩ := h4
  refine ⟨es, clock, hb, F, ?_, hD⟩
  show es.size ≤ Maps.size (D.put (.int .i64 k) (E.dat v))
  rw [hD]
  simp [Maps.size, length_sorted]
end

/-! ### at the operation -/
section
variable {V : Type} {P : Program} (w : World) {ops : Array Oper} {rest : List Oper} {o : Oper} {a : Act} {Q : Exit → Act → World → Prop}

theorem wpList_look (hg : o.guard = none) (m x : Operand) (t : TypeId) (hop : o.op = Op.lookup t m x false) (k e : TypeId) (E : Enc V) (hk : P.underlying k = some (.int .i64)) (ht : P.underlying t = some (.map k e)) (zv : V) (hz : (zeroValue e).run P w = .ok (E.val zv) w) (b : Nat) (f : Int → Option V)
    (hm : a.eval m = .map (some b)) (h : HoldsM P k E w b f) (i : Int) (hx : a.eval x = .int .i64 i) (hw : (Lit.int .i64 i).wf = true) (u : Value) (hu : E.val ((f i).getD zv) = u)
    (hK : wpList P ops Q rest (a.put o.dst u) w) : wpList P ops Q (o :: rest) a w := by
  subst hu
  refine wpList_plain hg fun K' hK' => ?_
  have hrun := h.look hk ht zv hz i hw
  unfold Oper.wp
  simp [execOp, hop, hm, hx, hrun, Result.andThen]
  exact hK' _ _ hK

theorem wpList_look_ok (hg : o.guard = none) (m x : Operand) (t : TypeId) (hop : o.op = Op.lookup t m x true) (k e : TypeId) (E : Enc V) (hk : P.underlying k = some (.int .i64)) (ht : P.underlying t = some (.map k e)) (zv : V) (hz : (zeroValue e).run P w = .ok (E.val zv) w) (b : Nat) (f : Int → Option V)
    (hm : a.eval m = .map (some b)) (h : HoldsM P k E w b f) (i : Int) (hx : a.eval x = .int .i64 i) (hw : (Lit.int .i64 i).wf = true) (u : Value) (c : Bool) (hu : E.val ((f i).getD zv) = u) (hc : (f i).isSome = c)
    (hK : wpList P ops Q rest (a.put o.dst (.tuple #[u, .bool c])) w) : wpList P ops Q (o :: rest) a w := by
  subst hu
  subst hc
  refine wpList_plain hg fun K' hK' => ?_
  have hrun := h.look_ok hk ht zv hz i hw
  unfold Oper.wp
  simp [execOp, hop, hm, hx, hrun, Result.andThen]
  exact hK' _ _ hK

theorem wpList_upd (hg : o.guard = none) (m x v : Operand) (t : TypeId) (hop : o.op = Op.mapUpdate t m x v) (k e : TypeId) (E : Enc V) (hk : P.underlying k = some (.int .i64)) (ht : P.underlying t = some (.map k e)) (b : Nat) (f : Int → Option V)
    (hm : a.eval m = .map (some b)) (h : HoldsM P k E w b f) (l : List Int) (hl : ∀ j, (f j).isSome = true → j ∈ l) (hlen : l.length < maxLen) (i : Int) (hx : a.eval x = .int .i64 i) (hw : (Lit.int .i64 i).wf = true) (u : V) (hv : a.eval v = E.val u)
    (hK : ∀ w', HoldsM P k E w' b (upd f i u) → w.grownBy w' (some b) → wpList P ops Q rest (a.put o.dst undef) w') : wpList P ops Q (o :: rest) a w := by
  refine wpList_plain hg fun K' hK' => ?_
  obtain ⟨w', hrun, r1, r2⟩ := h.store hk ht l hl hlen i hw u
  unfold Oper.wp
  simp [execOp, hop, hm, hx, hv, hrun, Result.andThen]
  exact hK' _ _ (hK w' r1 r2)

/-- 'for .. range m' under way: 'left': which keys are still to come. -/
def Ranging (P : Program) (k : TypeId) (E : Enc V) (w : World) (b r : Nat) (f : Int → Option V) (left : Int → Bool) (cnt : Nat) : Prop :=
  ∃ D n lf, w.ranges P k E.R b r n D lf cnt ∧ Reads E D f ∧ ∀ i, lf (ik i) = left i

theorem Ranging.left_eq {E : Enc V} {k : TypeId} {b r cnt : Nat} {f : Int → Option V} {left : Int → Bool} {w : World} (h : Ranging P k E w b r f left cnt) : w.rangeLeft b r = cnt := by
  obtain ⟨D, n, lf, h, _⟩ := h; exact h.left_eq
theorem Ranging.kept {E : Enc V} {k : TypeId} {b r cnt : Nat} {f : Int → Option V} {left : Int → Bool} {w w' : World} {row : Option Nat} (h : Ranging P k E w b r f left cnt) (hg : w.grownBy w' row) (hb : some b ≠ row) (hr : some r ≠ row) : Ranging P k E w' b r f left cnt := by
  obtain ⟨D, n, lf, h, h2⟩ := h; exact ⟨D, n, lf, h.kept hg hb hr, h2⟩
theorem Ranging.alloc {E : Enc V} {k : TypeId} {b r cnt : Nat} {f : Int → Option V} {left : Int → Bool} {w : World} (h : Ranging P k E w b r f left cnt) (o : Obj) : Ranging P k E (w.alloc o) b r f left cnt := by
  obtain ⟨D, n, lf, h, h2⟩ := h; exact ⟨D, n, lf, h.alloc o, h2⟩

theorem wpList_ranging (hg : o.guard = none) (m : Operand) (t : TypeId) (hop : o.op = Op.range t m) (k e : TypeId) (E : Enc V) (hk : P.underlying k = some (.int .i64)) (ht : P.underlying t = some (.map k e)) (b : Nat) (f : Int → Option V)
    (hm : a.eval m = .map (some b)) (h : HoldsM P k E w b f)
    (hK : ∀ w' cnt, Ranging P k E w' b w.heap.size f (fun i => (f i).isSome) cnt → w.grownBy w' none → w'.heap.size = w.heap.size + 1 → wpList P ops Q rest (a.put o.dst (.pointer (some ⟨w.heap.size, 0, none⟩))) w') :
    wpList P ops Q (o :: rest) a w := by
  obtain ⟨D, n, h1, _, h3⟩ := h
  exact wpList_range_own w hg m t hop k e (int_keyed hk) ht E.R b n D hm h1 fun w' h4 h5 h6 => hK w' _ ⟨D, n, _, h4, h3, fun i => (h3 i).1⟩ h5 h6

theorem wpList_next_ranging (hg : o.guard = none) (it : Operand) (hop : o.op = Op.next it false) (k : TypeId) (E : Enc V) (hk : P.underlying k = some (.int .i64)) (b r : Nat) (f : Int → Option V) (left : Int → Bool) (cnt : Nat)
    (hit : a.eval it = .pointer (some ⟨r, 0, none⟩)) (h : Ranging P k E w b r f left cnt)
    (hDone : (∀ i, left i = false) → wpList P ops Q rest (a.put o.dst (.tuple #[.bool false])) w)
    (hMore : ∀ (x : Int) (c : V) (w' : World) (cnt' : Nat), (Lit.int .i64 x).wf = true → left x = true → f x = some c → Ranging P k E w' b r f (fun i => left i && !decide (i = x)) cnt' → cnt' < cnt →
      w.grownBy w' (some r) → w'.heap.size = w.heap.size → (Instr.entry (.pointer (some ⟨r, 0, none⟩))).run P w' = .ok (.tuple #[.int .i64 x, E.val c]) w' → wpList P ops Q rest (a.put o.dst (.tuple #[.bool true, .int .i64 x, E.val c])) w') :
    wpList P ops Q (o :: rest) a w := by
  obtain ⟨D, n, lf, h1, h2, h3⟩ := h
  refine wpList_next_ranges w hg it hop k (int_keyed hk) E.R (Value.int .i64) E.val (fun key kl hkey => by obtain ⟨x, rfl, _⟩ := Maps.keyOf_int_inv hk hkey; exact ⟨x, rfl⟩) (fun v y hv => by obtain ⟨c, rfl, _⟩ := E.inv _ _ hv; exact ⟨c, rfl⟩)
    b r n D lf cnt hit h1 (fun _ hl => hDone fun i => (h3 i).symm.trans (hl _)) (fun x c kl y w' cnt' hkey hlk hv hat hrg hlt hgr hsz hen => ?_)
  obtain ⟨x', ex, rfl, hwx⟩ := Maps.keyOf_int_inv hk hkey
  cases ex
  have hfx : f x = some c := by
    rw [E.ok] at hv
    injection hv with hv
    subst hv
    have h4 := (h2 x).2 .nil
    have h5 := (h2 x).2 (.agg [])
    unfold ik at h4 h5
    rw [hat] at h4 h5
    cases hf : f x with
    | none =>
      rw [hf] at h4 h5
      rw [h4] at h5
      cases h5
    | some u =>
      rw [hf] at h4
      rw [E.inj _ _ h4]
  exact hMore x c w' cnt' hwx ((h3 x).symm.trans hlk) hfx ⟨D, n, _, hrg, h2, fun i => by
    show (lf (ik i) && !(ik i).sameKey (ik x)) = _
    rw [h3 i]
    simp [ik, Lit.sameKey]⟩ hlt hgr hsz hen
end
end Go.Proofs.YtpmbkeaimdeglaaDoor
