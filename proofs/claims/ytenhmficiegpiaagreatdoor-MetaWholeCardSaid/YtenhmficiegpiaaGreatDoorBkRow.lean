/-
  A slice of the call's own (of words, say): what append of one element leaves; at the operation.
-/
import Derived.Test.YtenhmficiegpiaaGreatDoorBkFree
namespace Go.Proofs.YtenhmficiegpiaaGreatDoor
open Go.RowKit Go.Extern.Stop Go.Stop Go.Extern

theorem cell_one (w : World) (x : Value) (t : TypeId) : (w.alloc (.cells #[x] t)).cell? ⟨w.heap.size, 0, none⟩ = some x := (Whole.made w t #[x]).at_ 0

/-- append of one element to a row of the call's own, at the operation: one goal is left. -/
theorem wpList_append_mine {P : Program} (w : World) {ops : Array Oper} {rest : List Oper} {o : Oper} {a : Act} {Q : Exit → Act → World → Prop}
    (hg : o.guard = none) (s x : Operand) (t : TypeId) (hop : o.op = Op.call { callee := Callee.builtin Builtin.append, args := #[s, x], argTypes := #[t, t] })
    (e : TypeId) (i : TypeInfo) (z : Value) (bytes : Nat) (ht : P.underlying t = some (.slice e)) (hi : P.info? e = some i) (hz : i.zero = some z) (hsize : i.size = 1) (hby : i.bytes = bytes) (hzs : z.cells.size = 1)
    (v : Value) (n : Nat) (xs : List Value) (hs : a.eval s = v) (hown : w.ownsRow 0 e 1 v n xs)
    (ad : Addr) (c : Nat) (y : Value) (hx : a.eval x = .slice (some ad) 1 c) (hnews : w.cell? ad = some y) (h1 : y.oneCell' = true)
    (h63 : n + 1 ≤ maxLen) (hbytes : (n + 1) * bytes ≤ 140737488355328)
    (hK : ∀ g cap w', w'.ownsRow 0 e 1 (.slice (some ⟨g, 0, none⟩) (n + 1) cap) (n + 1) (xs ++ [y]) → w.grownBy w' v.ownBlock → (v.ownBlock = some g ∨ g = w.heap.size) → wpList P ops Q rest (a.put o.dst (.slice (some ⟨g, 0, none⟩) (n + 1) cap)) w') :
    wpList P ops Q (o :: rest) a w := by
  have hn : ∀ j u, [y][j]? = some u → w.cell? (ad.add j) = some u := by
    intro j u hj
    match j, hj with
    | 0, hj =>
      simp at hj
      subst hj
      simpa [Addr.add] using hnews
  refine wpList_plain hg fun K hK' => ?_
  obtain ⟨v', w', hr, h2, h3, h4, h5⟩ := run_append_own_at (P := P) w 0 t o.type e i z 1 bytes ht hi hz hsize hby hzs (by decide) v n xs hown ad 1 c [y] rfl hn (by intro u hu; rw [List.mem_singleton.1 hu]; exact h1) h63 hbytes (Nat.zero_le _)
  have hshape := h2.2
  rcases hshape with ⟨hv', _⟩ | ⟨g, cap, cur, rfl, _⟩
  · exact absurd (h4.1 hv').2 (by decide)
  · have hloc : v.ownBlock = some g ∨ g = w.heap.size := by
      rcases h5 with h5 | h5
      · exact .inl (by rw [← h5]; rfl)
      · right
        simp [Value.ownBlock] at h5
        exact h5
    unfold Oper.wp execOp
    simp only [hop, resolve, invoke, builtin, Sem.run_bind, Sem.run_pure, Result.andThen_ok, List.map_toArray, List.map_cons, List.map_nil, hs, hx, hr]
    exact hK' _ _ (hK g cap w' h2 h3 hloc)

/-- A row of the call's own, apart from the blocks of X. -/
def Mine (w0 w : World) (X : Nat → Prop) (e : TypeId) (v : Value) (xs : List Value) : Prop :=
  w.ownsRow 0 e 1 v xs.length xs ∧ ∀ g, v.ownBlock = some g → ¬ X g ∧ w0.heap.size ≤ g

theorem Mine.nothing (w0 w : World) (X : Nat → Prop) (e : TypeId) : Mine w0 w X e (.slice none 0 0) [] := ⟨World.ownsRow_nil _ _ _ _, fun g hg => by cases hg⟩

theorem Mine.shape {w0 w : World} {X : Nat → Prop} {e : TypeId} {v : Value} {xs : List Value} (h : Mine w0 w X e v xs) : ∃ o c, v = .slice o xs.length c ∧ (0 < xs.length → ∃ g, o = some ⟨g, 0, none⟩) := by
  rcases h.1.2 with ⟨hv, hn⟩ | ⟨g, cap, cur, hv, _⟩
  · exact ⟨_, _, by rw [hn]; exact hv, fun h => by omega⟩
  · exact ⟨_, _, hv, fun _ => ⟨g, rfl⟩⟩

theorem Mine.keeps {w0 w w' : World} {X S : Nat → Prop} {e : TypeId} {v : Value} {xs : List Value} (h : Mine w0 w X e v xs) (k : Keeps S w w') (hS : ∀ x, S x → X x ∨ x < w0.heap.size) : Mine w0 w' X e v xs :=
  ⟨ownsRow_keeps h.1 k fun g hg hs => by
    have := h.2 g hg
    rcases hS g hs with h | h
    · exact this.1 h
    · omega, h.2⟩

/-- The set of the other blocks may grow by new ones. -/
theorem Mine.mono {w0 w w1 : World} {X X' : Nat → Prop} {e : TypeId} {v : Value} {xs : List Value} (h : Mine w0 w X e v xs) (k : w1.heap.size ≥ w.heap.size) (hX : ∀ x, X' x → X x ∨ w1.heap.size ≤ x) : Mine w0 w X' e v xs :=
  ⟨h.1, fun g hg => ⟨fun hx => by
    have h1 := (h.1.lt g hg).2
    rcases hX g hx with h2 | h2
    · exact (h.2 g hg).1 h2
    · omega, (h.2 g hg).2⟩⟩

/-- .. while the other blocks are written. -/
theorem Mine.next {w0 w w' : World} {X X' : Nat → Prop} {e : TypeId} {v : Value} {xs : List Value} (h : Mine w0 w X e v xs) (k : Keeps X w w') (hX : ∀ x, X' x → X x ∨ w.heap.size ≤ x) : Mine w0 w' X' e v xs :=
  ⟨(h.keeps k fun _ hx => .inl hx).1, (h.mono (Nat.le_refl _) hX).2⟩

theorem Mine.cell {w0 w : World} {X : Nat → Prop} {e : TypeId} {g c : Nat} {xs : List Value} (h : Mine w0 w X e (.slice (some ⟨g, 0, none⟩) xs.length c) xs) (j : Nat) (hj : j < xs.length) : w.cell? ⟨g, j, none⟩ = xs[j]? :=
  h.1.cellAt j (by omega)

/-- Behind an append. -/
theorem Mine.grown {w0 w w1 w' : World} {X : Nat → Prop} {e : TypeId} {v : Value} {xs : List Value} {y : Value} {g cap : Nat} (h : Mine w0 w X e v xs) (hw : w0.heap.size ≤ w.heap.size) (hX : ∀ x, X x → x < w.heap.size) (k : Keeps (fun _ => False) w w1)
    (hO : w'.ownsRow 0 e 1 (.slice (some ⟨g, 0, none⟩) (xs.length + 1) cap) (xs.length + 1) (xs ++ [y])) (hG : w1.grownBy w' v.ownBlock) (hloc : v.ownBlock = some g ∨ g = w1.heap.size) :
    Mine w0 w' X e (.slice (some ⟨g, 0, none⟩) (xs ++ [y]).length cap) (xs ++ [y]) ∧ Keeps (fun x => v.ownBlock = some x) w w' := by
  have k1 := k.size
  refine ⟨⟨by rw [List.length_append]; exact hO, fun q hq => ?_⟩, (k.mono fun _ _ => False.elim).trans_ (keeps_row hG)⟩
  simp [Value.ownBlock] at hq
  subst hq
  rcases hloc with hl | hl
  · exact h.2 g hl
  · exact ⟨fun hx => by have := hX g hx; omega, by omega⟩

/-- How many blocks are live; refs as values. -/
def liveOne (B : Blk) : Nat := if B.live then 1 else 0
def liveN (bs : List Blk) : Nat := (bs.map liveOne).sum
def refVals (refs : List Nat) : List Value := refs.map fun (r : Nat) => Value.int .u64 (r : Int)
theorem refVals_len (refs : List Nat) : (refVals refs).length = refs.length := by simp [refVals]
theorem refVals_snoc (refs : List Nat) (r : Nat) : refVals refs ++ [Value.int .u64 (r : Int)] = refVals (refs ++ [r]) := by simp [refVals]
end Go.Proofs.YtenhmficiegpiaaGreatDoor
