/-
  Words for memory: a block that is known whole ('Whole'); two worlds that differ at most in new blocks and in the blocks of a set ('Keeps'). Plain lemmas, of no program.
  A cell of a block that was kept reads as it did. Of no program.
  Arguments that are slices of bools and of integers: what is known of their cells. Of no program.
-/
import Derived.Below
import Derived.OneCell
import Derived.Laws.OwnMore
import Derived.Deep.Draws
import Derived.Laws.Rows
import Derived.Deep.Grids
import Derived.ChangeSlices

namespace Go.Proofs.YthidipigpfcbbaaGreatDoor
open Go.RowKit

/-- Block g is just the cells cs, of element type t, none of them frozen. -/
def Whole (w : World) (g : Nat) (t : TypeId) (cs : Array Value) : Prop := w.heap[g]? = some (.cells cs t (0, 0))

/-- w' is w but for new blocks and for what stands in the blocks of S. -/
structure Keeps (S : Nat → Prop) (w w' : World) : Prop where
  os : w'.os = w.os
  tape : w'.tape = w.tape
  output : w'.output = w.output
  size : w.heap.size ≤ w'.heap.size
  block : ∀ k, k < w.heap.size → ¬ S k → w'.heap[k]? = w.heap[k]?

section
variable {w w' u v : World} {g : Nat} {t : TypeId} {cs : Array Value} {S T : Nat → Prop}

theorem Whole.lt (h : Whole w g t cs) : g < w.heap.size := lt_of_block h
theorem Whole.at_ (h : Whole w g t cs) (i : Nat) : w.cell? ⟨g, i, none⟩ = cs[i]? := by
  unfold Whole at h; simp [World.cell?, h]
theorem Whole.free (h : Whole w g t cs) (i : Nat) : w.frozen? ⟨g, i, none⟩ = false := by
  unfold Whole at h; simp [World.frozen?, h]
theorem Whole.made (w : World) (t : TypeId) (cs : Array Value) : Whole (w.alloc (.cells cs t)) w.heap.size t cs := heap_alloc_new w _
theorem Whole.alloc (h : Whole w g t cs) (o : Obj) : Whole (w.alloc o) g t cs := (Below.heap_alloc w o g h.lt).trans h
theorem Whole.set_ (h : Whole w g t cs) (i : Nat) (x : Value) : Whole (w.setCell ⟨g, i, none⟩ x) g t (cs.setIfInBounds i x) := by
  unfold Whole at h ⊢
  simp [World.setCell, Array.getElem?_modify, h]
theorem Whole.far (h : Whole w g t cs) {p : Addr} (hp : g ≠ p.block) (x : Value) : Whole (w.setCell p x) g t cs := (Below.heap_setCell w p x g hp).trans h
theorem Whole.drew (h : Whole w g t cs) : Whole w.drew g t cs := h
theorem Whole.drewN (h : Whole w g t cs) (n : Nat) : Whole (w.drewN n) g t cs := h
theorem Whole.keeps (h : Whole w g t cs) (k : Keeps S w w') (hS : ¬ S g) : Whole w' g t cs := (k.block g h.lt hS).trans h
theorem Whole.ne_ {g' : Nat} {t' : TypeId} {cs' : Array Value} (h : Whole w g t cs) (h' : Whole w g' t' cs') (hne : t ≠ t') : g ≠ g' := by
  rintro rfl
  unfold Whole at h h'
  rw [h] at h'
  injection h' with h'
  injection h' with _ ht
  exact hne ht

theorem Keeps.refl (S : Nat → Prop) (w : World) : Keeps S w w := ⟨rfl, rfl, rfl, Nat.le_refl _, fun _ _ _ => rfl⟩
theorem Keeps.trans (h : Keeps S u v) (k : Keeps T v w) (hTS : ∀ x, x < u.heap.size → T x → S x) : Keeps S u w :=
  ⟨k.os.trans h.os, k.tape.trans h.tape, k.output.trans h.output, Nat.le_trans h.size k.size, fun i hi hS =>
    (k.block i (Nat.lt_of_lt_of_le hi h.size) (fun hT => hS (hTS i hi hT))).trans (h.block i hi hS)⟩
theorem Keeps.trans_ (h : Keeps S u v) (k : Keeps S v w) : Keeps S u w := h.trans k fun _ _ hx => hx
theorem Keeps.mono (h : Keeps S u v) (hST : ∀ x, x < u.heap.size → S x → T x) : Keeps T u v :=
  ⟨h.os, h.tape, h.output, h.size, fun k hk hT => h.block k hk fun hS => hT (hST k hk hS)⟩
theorem Keeps.alloc (h : Keeps S u w) (o : Obj) : Keeps S u (w.alloc o) :=
  ⟨h.os, h.tape, h.output, Nat.le_trans h.size (by simp), fun k hk hS => (Below.heap_alloc w o k (Nat.lt_of_lt_of_le hk h.size)).trans (h.block k hk hS)⟩
theorem Keeps.setCell (h : Keeps S u w) {p : Addr} (hp : p.block < u.heap.size → S p.block) (x : Value) : Keeps S u (w.setCell p x) :=
  ⟨h.os, h.tape, h.output, Nat.le_trans h.size (by simp [World.setCell]), fun k hk hS =>
    (Below.heap_setCell w p x k (fun e => hS (by subst e; exact hp hk))).trans (h.block k hk hS)⟩
theorem Keeps.setRow (h : Keeps S u w) {r : Nat} (hr : r < u.heap.size → S r) (x : Array Value) : Keeps S u (w.setRow r x) :=
  ⟨h.os, h.tape, h.output, Nat.le_trans h.size (by simp), fun k hk hS =>
    (setRow_other w r k x (fun e => hS (by subst e; exact hr hk))).trans (h.block k hk hS)⟩
theorem Keeps.drew (h : Keeps S u w) : Keeps S u w.drew := ⟨h.os, h.tape, h.output, h.size, h.block⟩
theorem Keeps.drewN (h : Keeps S u w) (n : Nat) : Keeps S u (w.drewN n) := ⟨h.os, h.tape, h.output, h.size, h.block⟩
theorem Keeps.grown {row : Option Nat} (h : Keeps S u w) (hg : w.grownBy w' row) (hr : ∀ k, row = some k → k < u.heap.size → S k) : Keeps S u w' :=
  ⟨hg.os.trans h.os, hg.tape.trans h.tape, hg.output.trans h.output, Nat.le_trans h.size hg.size, fun k hk hS =>
    (hg.block k (Nat.lt_of_lt_of_le hk h.size) (fun e => hS (hr k e.symm hk))).trans (h.block k hk hS)⟩
theorem Keeps.below (h : Keeps S u w) {B : Nat} (hB : B ≤ u.heap.size) (hS : ∀ x, x < B → ¬ S x) : Below B u w :=
  ⟨h.os, h.tape, h.output, h.size, fun k hk => h.block k (Nat.lt_of_lt_of_le hk hB) (hS k hk)⟩
theorem Keeps.of_below {B : Nat} (h : Below B u w) : Keeps (fun k => B ≤ k) u w :=
  ⟨h.os, h.tape, h.output, h.size, fun k _ hS => h.block k (Nat.lt_of_not_le hS)⟩
end
end Go.Proofs.YthidipigpfcbbaaGreatDoor

namespace Go.Proofs.YthidipigpfcbbaaGreatDoor
open Go.RowKit

theorem Keeps.cell {S : Nat → Prop} {w w' : World} (h : Keeps S w w') {p : Addr} (hp : p.block < w.heap.size) (hS : ¬ S p.block) : w'.cell? p = w.cell? p :=
  World.cell?_of_block (w := w) (h.block p.block hp hS)

theorem cell_lt {w : World} {p : Addr} {v : Value} (h : w.cell? p = some v) : p.block < w.heap.size := by
  rcases Nat.lt_or_ge p.block w.heap.size with h' | h'
  · exact h'
  · simp [World.cell?, Array.getElem?_eq_none h'] at h
end Go.Proofs.YthidipigpfcbbaaGreatDoor

namespace Go.Proofs.YthidipigpfcbbaaGreatDoor
open Go.RowKit

theorem spot_none {x : Addr} {w : World} {v : Value} (h : w.cell? (x.add 0) = some v) : x = ⟨x.block, x.off, none⟩ := by
  obtain ⟨b, o, s⟩ := x
  cases s with
  | none => rfl
  | some s =>
    exfalso
    have hs : (x : Addr) → x.spot.isSome = true → w.cell? x = none := by
      intro x hx
      unfold World.cell?
      split
      · simp [hx]
      · rfl
    rw [hs] at h
    · cases h
    · rfl

theorem add_plain (x : Addr) (hx : x = ⟨x.block, x.off, none⟩) (j : Nat) : x.add j = ⟨x.block, x.off + j, none⟩ := by
  rw [hx]
  unfold Addr.add
  split
  · have h0 : j = 0 := by assumption
    simp only [Addr.mk.injEq, true_and, and_true]
    omega
  · rfl

/-- A slice that came in: nil, or each of its elements is what f says. -/
def Cells1 (w : World) (a : Option Addr) (len : Nat) (ok : Value → Prop) : Prop :=
  (a = none ∧ len = 0) ∨ ∃ x : Addr, a = some x ∧ len ≤ maxLen ∧ ∀ i, i < len → ∃ v, w.cell? (x.add i) = some v ∧ ok v

def Flags (w : World) (a : Option Addr) (len : Nat) : Prop := Cells1 w a len fun v => ∃ c : Bool, v = .bool c
def Nums (w : World) (a : Option Addr) (len : Nat) : Prop := Cells1 w a len fun v => ∃ z : Int, v = .int .i64 z ∧ (Lit.int .i64 z).wf = true

theorem Cells1.le {w : World} {a : Option Addr} {len : Nat} {ok : Value → Prop} (h : Cells1 w a len ok) : len ≤ maxLen := by
  rcases h with ⟨_, h⟩ | ⟨x, _, h, _⟩
  · omega
  · exact h

theorem Cells1.keeps {w w' : World} {a : Option Addr} {len : Nat} {ok : Value → Prop} {S : Nat → Prop} (h : Cells1 w a len ok) (k : Keeps S w w') (hS : ∀ x, x < w.heap.size → ¬ S x) : Cells1 w' a len ok := by
  rcases h with h | ⟨x, rfl, hl, hc⟩
  · exact .inl h
  · refine .inr ⟨x, rfl, hl, fun i hi => ?_⟩
    obtain ⟨v, h1, h2⟩ := hc i hi
    exact ⟨v, (k.cell (cell_lt h1) (hS _ (cell_lt h1))).trans h1, h2⟩

theorem Cells1.at_ {w : World} {a : Option Addr} {len : Nat} {ok : Value → Prop} (h : Cells1 w a len ok) (i : Nat) (hi : i < len) : ∃ b off v, a = some ⟨b, off, none⟩ ∧ w.cell? ⟨b, off + i, none⟩ = some v ∧ ok v := by
  rcases h with ⟨_, h⟩ | ⟨x, rfl, _, hc⟩
  · omega
  · obtain ⟨v0, h0, _⟩ := hc 0 (by omega)
    have hx := spot_none h0
    obtain ⟨v, h1, h2⟩ := hc i hi
    rw [add_plain x hx] at h1
    exact ⟨x.block, x.off, v, by rw [← hx], h1, h2⟩
end Go.Proofs.YthidipigpfcbbaaGreatDoor
