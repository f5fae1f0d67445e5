/-
  Arguments that are slices of calls (concordlaw07.Act): as lists. Of no program but the cells.
-/
import Derived.Test.YtkolkimmhlmlgaaDoorBkArgs
import Derived.Test.YtkolkimmhlmlgaaDoorWdArgs
import Derived.Test.YtkolkimmhlmlgaaDoorStAlive
namespace Go.Proofs.YtkolkimmhlmlgaaDoor
open Go.RowKit Go.Maps

structure Act7 where
  k : Int
  c : Int
  v : Int
  n : Int

def Acts7 (w : World) (a : Option Addr) (len cap : Nat) : Prop :=
  (a = none ∧ len = 0 ∧ cap = 0) ∨ ∃ x : Addr, a = some x ∧ len ≤ cap ∧ cap ≤ maxLen ∧ ∀ i, i < len → ∃ k c v n : Int,
    w.cell? (x.add (i * 4 + 0)) = some (.int .i64 k) ∧ w.cell? (x.add (i * 4 + 1)) = some (.int .u64 c) ∧ w.cell? (x.add (i * 4 + 2)) = some (.int .u64 v) ∧ w.cell? (x.add (i * 4 + 3)) = some (.int .i64 n) ∧ (Lit.int .u64 c).wf = true

/-- The calls L, in memory. -/
structure ActL (w : World) (a : Option Addr) (n cap : Nat) (L : List Act7) : Prop where
  len : L.length = n
  fit : n ≤ cap ∧ cap ≤ maxLen
  at_ : 0 < n → ∃ b o, a = some ⟨b, o, none⟩ ∧ ∀ i x, L[i]? = some x → w.cell? ⟨b, o + i * 4, none⟩ = some (.int .i64 x.k) ∧ w.cell? ⟨b, o + i * 4 + 1, none⟩ = some (.int .u64 x.c) ∧ w.cell? ⟨b, o + i * 4 + 2, none⟩ = some (.int .u64 x.v) ∧ w.cell? ⟨b, o + i * 4 + 3, none⟩ = some (.int .i64 x.n)
  wf : ∀ x ∈ L, wfU x.c

theorem Acts7.list {w : World} {a : Option Addr} {len cap : Nat} (h : Acts7 w a len cap) : ∃ L, ActL w a len cap L := by
  rcases h with ⟨rfl, rfl, rfl⟩ | ⟨x, rfl, h1, h2, h3⟩
  · exact ⟨[], rfl, ⟨Nat.le_refl _, Nat.zero_le _⟩, fun h => absurd h (Nat.lt_irrefl _), fun x hx => by cases hx⟩
  · have h4 : ∀ i : Nat, ∃ y : Act7, i < len → w.cell? (x.add (i * 4 + 0)) = some (.int .i64 y.k) ∧ w.cell? (x.add (i * 4 + 1)) = some (.int .u64 y.c) ∧ w.cell? (x.add (i * 4 + 2)) = some (.int .u64 y.v) ∧ w.cell? (x.add (i * 4 + 3)) = some (.int .i64 y.n) ∧ wfU y.c := fun i => by
      by_cases hi : i < len
      · obtain ⟨k, c, v, n, e⟩ := h3 i hi
        exact ⟨⟨k, c, v, n⟩, fun _ => e⟩
      · exact ⟨⟨0, 0, 0, 0⟩, fun h => absurd h hi⟩
    have hf := fun i => Classical.choose_spec (h4 i)
    generalize hg : (fun i => Classical.choose (h4 i)) = f
    have hf' : ∀ i, i < len → w.cell? (x.add (i * 4 + 0)) = some (.int .i64 (f i).k) ∧ w.cell? (x.add (i * 4 + 1)) = some (.int .u64 (f i).c) ∧ w.cell? (x.add (i * 4 + 2)) = some (.int .u64 (f i).v) ∧ w.cell? (x.add (i * 4 + 3)) = some (.int .i64 (f i).n) ∧ wfU (f i).c := fun i hi => by
      rw [← hg]; exact hf i hi
    have hat : ∀ i y, ((List.range len).map f)[i]? = some y → i < len ∧ y = f i := fun i y hy => by
      obtain ⟨hi, e⟩ := List.getElem?_eq_some_iff.1 hy
      have hi' : i < len := by simpa using hi
      exact ⟨hi', by rw [← e]; simp⟩
    refine ⟨(List.range len).map f, by simp, ⟨h1, h2⟩, fun h0 => ?_, fun y hy => ?_⟩
    · have h5 := (hf' 0 h0).1
      have hx := spot_none (x := x) (by simpa using h5)
      refine ⟨x.block, x.off, by rw [← hx], fun i y hy => ?_⟩
      obtain ⟨hi, rfl⟩ := hat i y hy
      obtain ⟨q1, q2, q3, q4, _⟩ := hf' i hi
      rw [add_plain x hx] at q1 q2 q3 q4
      exact ⟨q1, by rw [Nat.add_assoc]; exact q2, by rw [Nat.add_assoc]; exact q3, by rw [Nat.add_assoc]; exact q4⟩
    · obtain ⟨i, hi, rfl⟩ := List.mem_map.1 hy
      exact (hf' i (List.mem_range.1 hi)).2.2.2.2

theorem ActL.keeps {w w' : World} {a : Option Addr} {len cap : Nat} {L : List Act7} (h : ActL w a len cap L) (k : Keeps (fun _ => False) w w') : ActL w' a len cap L where
  len := h.len
  fit := h.fit
  at_ := fun h0 => by
    obtain ⟨b, o, e, hc⟩ := h.at_ h0
    refine ⟨b, o, e, fun i x hx => ?_⟩
    obtain ⟨q1, q2, q3, q4⟩ := hc i x hx
    exact ⟨(k.cell (cell_lt q1) id).trans q1, (k.cell (cell_lt q2) id).trans q2, (k.cell (cell_lt q3) id).trans q3, (k.cell (cell_lt q4) id).trans q4⟩
  wf := h.wf
end Go.Proofs.YtkolkimmhlmlgaaDoor
