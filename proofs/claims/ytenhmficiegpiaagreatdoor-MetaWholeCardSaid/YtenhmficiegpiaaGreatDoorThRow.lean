/-
  A thread's log in memory: a row of entries, of one's own, and the places by entries (a map); an append of an entry.
-/
import Derived.Test.YtenhmficiegpiaaGreatDoorThMem
import Derived.Maps.AppendAt
namespace Go.Proofs.YtenhmficiegpiaaGreatDoor
open Go.RowKit Go.Extern.Stop Go.Stop Go.Extern

/-- The cells of an entry. -/
def entC (e : Ent) : List Value := [.int .i64 (e.kind : Int), .int .u64 (e.ref : Int), .int .i64 e.i, .int .u64 (e.word : Int), .bool e.done, .int .i64 (e.err.num : Int)]
def entVal (e : Ent) : Value := .agg #[.int .i64 (e.kind : Int), .int .u64 (e.ref : Int), .int .i64 e.i, .int .u64 (e.word : Int), .bool e.done, .int .i64 (e.err.num : Int)]
/-- .. without its error. -/
def entVal0 (e : Ent) : Value := .agg #[.int .i64 (e.kind : Int), .int .u64 (e.ref : Int), .int .i64 e.i, .int .u64 (e.word : Int), .bool e.done, .int .i64 0]
def entCells (l : List Ent) : List Value := l.flatMap entC

theorem entC_len (e : Ent) : (entC e).length = 6 := rfl
theorem entCells_len (l : List Ent) : (entCells l).length = l.length * 6 := by
  induction l with
  | nil => rfl
  | cons t l ih => simp only [entCells, List.flatMap_cons, List.length_append, List.length_cons, entC_len] at ih ⊢; omega
theorem entCells_app (l m : List Ent) : entCells (l ++ m) = entCells l ++ entCells m := by simp [entCells]
theorem entCells_at : ∀ (l : List Ent) (k : Nat), k < l.length → ∀ j, j < 6 → (entCells l)[k * 6 + j]? = (entC (l.getD k (.zero .ok)))[j]?
  | t :: l, 0, _, j, hj => by
    rw [show entCells (t :: l) = entC t ++ entCells l from rfl, List.getElem?_append_left (by rw [entC_len]; omega)]
    simp
  | t :: l, k + 1, h, j, hj => by
    rw [show entCells (t :: l) = entC t ++ entCells l from rfl, List.getElem?_append_right (by rw [entC_len]; omega), entC_len, show (k + 1) * 6 + j - 6 = k * 6 + j by omega, entCells_at l k (by simpa using h) j hj]
    simp
theorem entCells_one (l : List Ent) : ∀ u ∈ entCells l, u.oneCell' = true := by
  intro u hu
  simp only [entCells, List.mem_flatMap] at hu
  obtain ⟨t, _, hu⟩ := hu
  simp [entC] at hu
  rcases hu with rfl | rfl | rfl | rfl | rfl | rfl <;> rfl

/-- A row of entries of one's own. -/
def ERow (w : World) (v : Value) (l : List Ent) : Prop := w.ownsRow 0 105 6 v l.length (entCells l)

theorem ERow.keeps {w w' : World} {v : Value} {l : List Ent} {S : Nat → Prop} (h : ERow w v l) (k : Keeps S w w') (hS : ∀ g, v.ownBlock = some g → ¬ S g) : ERow w' v l := ownsRow_keeps h k hS
theorem ERow.nil (w : World) : ERow w (.slice none 0 0) [] := World.ownsRow_nil _ _ _ _
theorem ERow.shape {w : World} {v : Value} {l : List Ent} (h : ERow w v l) : ∃ o c, v = .slice o l.length c ∧ (0 < l.length → ∃ g, o = some ⟨g, 0, none⟩) := by
  rcases h.2 with ⟨hv, hn⟩ | ⟨g, cap, cur, hv, _⟩
  · exact ⟨_, _, by rw [hn]; exact hv, fun h => by omega⟩
  · exact ⟨_, _, hv, fun _ => ⟨g, rfl⟩⟩
theorem ERow.at_ {w : World} {g n cap k : Nat} {l : List Ent} (h : ERow w (.slice (some ⟨g, 0, none⟩) n cap) l) (hn : l.length = n) (hk : k < l.length) {j : Nat} (hj : j < 6) : w.cell? ⟨g, k * 6 + j, none⟩ = (entC (l.getD k (.zero .ok)))[j]? := by
  subst hn
  exact (World.ownsRow.cellAt h (k * 6 + j) (by omega)).trans (entCells_at l k hk j hj)

theorem info_entry : (Tryz.prog.info? 105).map (fun i => (i.zero, i.size, i.bytes)) = some (some (.agg #[.int .i64 0, .int .u64 0, .int .i64 0, .int .u64 0, .bool false, .int .i64 0]), 6, 48) := by kernel_rfl

theorem run_append_ent (w : World) (v : Value) (l : List Ent) (e : Ent) (hown : ERow w v l) (ad : Addr) (c : Nat) (hnews : ∀ j u, (entC e)[j]? = some u → w.cell? (ad.add j) = some u) (hbig : l.length ≤ 10000) (ty : TypeId) :
    ∃ ao cap w', (Builtin.append_ #[73, 73] ty #[v, .slice (some ad) 1 c]).run Tryz.prog w = .ok (.slice ao (l.length + 1) cap) w' ∧ ERow w' (.slice ao (l.length + 1) cap) (l ++ [e]) ∧ w.grownBy w' v.ownBlock ∧ ((Value.slice ao (l.length + 1) cap).ownBlock = v.ownBlock ∨ (Value.slice ao (l.length + 1) cap).ownBlock = some w.heap.size) := by
  obtain ⟨i0, hi, hz0, hz1, hz2⟩ := info_parts info_entry
  have hone : entCells [e] = entC e := by simp [entCells]
  obtain ⟨v', w', hr, h2, h3, h4, h5⟩ := run_append_own_at (P := Tryz.prog) w 0 73 ty 105 i0 (.agg #[.int .i64 0, .int .u64 0, .int .i64 0, .int .u64 0, .bool false, .int .i64 0]) 6 48 Tryz.underlying73 hi hz0 hz1 hz2 rfl (by decide) v l.length (entCells l) hown ad 1 c (entCells [e]) (by rw [hone]; rfl) (by rw [hone]; exact hnews) (entCells_one [e]) (by unfold maxLen; omega) (by omega) (Nat.zero_le _)
  rw [← entCells_app] at h2
  have h2' : ERow w' v' (l ++ [e]) := by
    show World.ownsRow _ _ _ _ _ (l ++ [e]).length _
    rw [List.length_append]
    exact h2
  obtain ⟨ao, cap, hv, _⟩ := ERow.shape h2'
  rw [List.length_append, List.length_singleton] at hv
  subst hv
  exact ⟨ao, cap, w', hr, h2', h3, h5⟩

theorem step_append_ent {ops : Array Oper} {o : Oper} {a : Act} {w : World} {K : Act → World → Prop} {Q : Exit → Act → World → Prop} {E : Prop}
    (hg : o.guard = none) (s x : Operand) (hop : o.op = Op.call { callee := Callee.builtin Builtin.append, args := #[s, x], argTypes := #[73, 73] })
    (v : Value) (l : List Ent) (e : Ent) (hs : a.eval s = v) (hown : ERow w v l) (ad : Addr) (c : Nat) (hx : a.eval x = .slice (some ad) 1 c) (hnews : ∀ j u, (entC e)[j]? = some u → w.cell? (ad.add j) = some u) (hbig : l.length ≤ 10000)
    (hK : ∀ ao cap w', ERow w' (.slice ao (l.length + 1) cap) (l ++ [e]) → w.grownBy w' v.ownBlock → ((Value.slice ao (l.length + 1) cap).ownBlock = v.ownBlock ∨ (Value.slice ao (l.length + 1) cap).ownBlock = some w.heap.size) → K (a.put o.dst (.slice ao (l.length + 1) cap)) w') :
    if Region.wanted o (yielded ops a.tmps) = true then Oper.wp Tryz.prog o a w K Q else E := by
  have hw : Region.wanted o (yielded ops a.tmps) = true := by simp [Region.wanted, hg]
  rw [if_pos hw]
  obtain ⟨ao, cap, w', hr, h2, h3, h5⟩ := run_append_ent w v l e hown ad c hnews hbig o.type
  unfold Oper.wp
  simp [execOp, hop, resolve, invoke, builtin, hs, hx, hr, Result.andThen]
  exact hK ao cap w' h2 h3 h5

theorem wpList_append_ent (w : World) {ops : Array Oper} {rest : List Oper} {o : Oper} {a : Act} {Q : Exit → Act → World → Prop}
    (hg : o.guard = none) (s x : Operand) (hop : o.op = Op.call { callee := Callee.builtin Builtin.append, args := #[s, x], argTypes := #[73, 73] })
    (v : Value) (l : List Ent) (e : Ent) (hs : a.eval s = v) (hown : ERow w v l) (ad : Addr) (c : Nat) (hx : a.eval x = .slice (some ad) 1 c) (hnews : ∀ j u, (entC e)[j]? = some u → w.cell? (ad.add j) = some u) (hbig : l.length ≤ 10000)
    (hK : ∀ ao cap w', ERow w' (.slice ao (l.length + 1) cap) (l ++ [e]) → w.grownBy w' v.ownBlock → ((Value.slice ao (l.length + 1) cap).ownBlock = v.ownBlock ∨ (Value.slice ao (l.length + 1) cap).ownBlock = some w.heap.size) → wpList Tryz.prog ops Q rest (a.put o.dst (.slice ao (l.length + 1) cap)) w') :
    wpList Tryz.prog ops Q (o :: rest) a w := by
  refine wpList_plain hg fun K hK' => ?_
  obtain ⟨ao, cap, w', hr, h2, h3, h5⟩ := run_append_ent w v l e hown ad c hnews hbig o.type
  unfold Oper.wp execOp
  simp only [hop, resolve, invoke, builtin, Sem.run_bind, Sem.run_pure, Result.andThen_ok, List.map_toArray, List.map_cons, List.map_nil, hs, hx, hr]
  exact hK' _ _ (hK ao cap w' h2 h3 h5)

theorem one_entry {w : World} {b : Nat} {ty : TypeId} {e : Ent} (h : Whole w b ty (entC e).toArray) : ∀ j u, (entC e)[j]? = some u → w.cell? ((⟨b, 0, none⟩ : Addr).add j) = some u := by
  intro j u hj
  have := h.at_ j
  rw [List.getElem?_toArray, hj] at this
  rw [show (⟨b, 0, none⟩ : Addr).add j = ⟨b, j, none⟩ by unfold Addr.add; split <;> simp_all]
  exact this

/-! ### the places -/
def intR : Value → Option (DataW Unit × List MemPlace)
  | .int .i64 s => some (.lit (.int .i64 s), [])
  | _ => none
def intE : Enc Int where
  val := fun z => .int .i64 z
  dat := fun z => .lit (.int .i64 z)
  R := intR
  ok := fun _ => rfl
  inv := fun x y h => by
    unfold intR at h
    split at h
    · cases h
      exact ⟨_, rfl, rfl⟩
    · cases h
  inj := fun u v h => by
    injection h with h
    injection h

/-- The places by entries. -/
def placesF (l : List Ent) : Int → Option Int := fun k => if 0 ≤ k then (l[k.toNat]?).bind (·.err.place) else none

theorem placesF_keys (l : List Ent) (k : Int) (h : (placesF l k).isSome = true) : k ∈ (List.range l.length).map fun (n : Nat) => (n : Int) := by
  unfold placesF at h
  split at h
  · rename_i hk
    cases he : l[k.toNat]? with
    | none => rw [he] at h; cases h
    | some e =>
      have := (List.getElem?_eq_some_iff.1 he).1
      exact List.mem_map.2 ⟨k.toNat, List.mem_range.2 this, by omega⟩
  · cases h
theorem placesF_no {l : List Ent} {e : Ent} (h : e.err.place = none) : placesF (l ++ [e]) = placesF l := by
  funext k
  unfold placesF
  split
  · rename_i hk
    rcases Nat.lt_trichotomy k.toNat l.length with h1 | h1 | h1
    · rw [List.getElem?_append_left h1]
    · rw [h1, List.getElem?_append_right (Nat.le_refl _), Nat.sub_self, List.getElem?_eq_none (Nat.le_refl _)]
      exact h
    · rw [List.getElem?_eq_none (by simp; omega), List.getElem?_eq_none (by omega)]
  · rfl
theorem placesF_at {l : List Ent} {e : Ent} {i : Int} (h : e.err.place = some i) : placesF (l ++ [e]) = upd (placesF l) (l.length : Int) i := by
  funext k
  unfold placesF upd
  dsimp only
  by_cases hk : 0 ≤ k
  · rw [if_pos hk]
    rcases Nat.lt_trichotomy k.toNat l.length with h1 | h1 | h1
    · rw [List.getElem?_append_left h1, if_neg (by omega), if_pos hk]
    · rw [if_pos (by omega), h1, List.getElem?_append_right (Nat.le_refl _), Nat.sub_self]
      exact h
    · rw [List.getElem?_eq_none (by simp; omega), if_neg (by omega), if_pos hk, List.getElem?_eq_none (by omega)]
  · rw [if_neg hk, if_neg (by omega), if_neg hk]
theorem placesF_nil : placesF [] = fun _ => none := by
  funext k
  unfold placesF
  split <;> rfl
theorem placesF_get {l : List Ent} {k : Nat} (hk : k < l.length) : placesF l (k : Int) = (l.getD k (.zero .ok)).err.place := by
  unfold placesF
  rw [if_pos (by omega), Int.toNat_natCast, List.getElem?_eq_getElem hk, List.getD, List.getElem?_eq_getElem hk]
  rfl
end Go.Proofs.YtenhmficiegpiaaGreatDoor
