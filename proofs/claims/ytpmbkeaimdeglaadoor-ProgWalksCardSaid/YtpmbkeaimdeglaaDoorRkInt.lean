/-
  Rows of ints.
-/
import Derived.Test.YtpmbkeaimdeglaaDoorRkRows
import Derived.LoopTactic
import Derived.WalkKit
import Derived.BigGuard
import Derived.BigCall
import Derived.CellFam
import Derived.Deep.Draws
import Derived.Deep.QuietTactic
import Derived.BigQuiet
import Derived.Lib.Hide
namespace Go.Proofs.YtpmbkeaimdeglaaDoor
open Go.RowKit Go.Maps Go.Extern.Stop Go.Stop Go.Extern

def intK : RK Int where
  T := 23
  e := 3
  size := 1
  bytes := 8
  z := .int .i64 0
  cs := fun l => l.map fun x => .int .i64 x
  app := fun l m => by simp
  len := fun l => by simp
  one := fun l u hu => by obtain ⟨b, _, rfl⟩ := List.mem_map.1 hu; rfl
  hu := Tryd.underlying23
  info := by kernel_rfl
  zs := rfl
  pos := by decide
  few := by decide
/-- A row that is laid whole. -/
theorem row_of {α : Type} (K : RK α) {w : World} {g n : Nat} {l : List α} (h : Whole w g K.e (K.cs l).toArray) (hn : l.length = n) (few : n ≤ 100000) : K.Row w (.slice (some ⟨g, 0, none⟩) n n) l := by
  subst hn
  refine ⟨by rw [K.len], .inr ⟨g, l.length, _, rfl, Nat.zero_le _, h, Nat.le_refl _, by unfold maxLen; omega, by simp [K.len], ?_⟩⟩
  rw [List.take_of_length_le (by rw [Array.length_toList]; simp [K.len])]

abbrev IRow (w : World) (v : Value) (l : List Int) : Prop := intK.Row w v l

/-- A row of one-cell elements, its cells. -/
theorem irow_cells {w : World} {v : Value} {l : List Int} {n : Nat} (h : IRow w v l) (hn : l.length = n) :
    ∃ o c, v = .slice o n c ∧ (0 < n → ∃ g, o = some ⟨g, 0, none⟩ ∧ ∀ (i : Nat) (p : Int), l[i]? = some p → w.cell? ⟨g, i, none⟩ = some (.int .i64 p)) := by
  obtain ⟨o, c, rfl, ho⟩ := row_shape h
  subst hn
  refine ⟨o, c, rfl, fun h0 => ?_⟩
  obtain ⟨g, rfl⟩ := ho h0
  refine ⟨g, rfl, fun i p hp => ?_⟩
  have hi : i < l.length := (List.getElem?_eq_some_iff.1 hp).1
  refine (World.ownsRow.cellAt h i (by show i < l.length * 1; omega)).trans ?_
  show (l.map fun x => Value.int .i64 x)[i]? = _
  rw [List.getElem?_map, hp]; rfl
end Go.Proofs.YtpmbkeaimdeglaaDoor
