/-
  Rows of the layer of collections: pairs, ints.
-/
import Derived.Test.YtnlogilbiifmiaaMoPlain
import Derived.Test.YtnlogilbiifmiaaRkRows
import Derived.LoopTactic
import Derived.WalkKit
import Derived.BigGuard
import Derived.BigCall
import Derived.CellFam
import Derived.Deep.Draws
import Derived.Deep.QuietTactic
import Derived.BigQuiet
import Derived.Lib.Hide
namespace Go.Proofs.Ytnlogilbiifmiaa
open Go.RowKit Go.Maps Go.Extern.Stop Go.Stop Go.Extern

def cellsP (l : Tl) : List Value := l.flatMap fun p => [.int .i64 p.1, .int .i64 p.2]
theorem cellsP_len (l : Tl) : (cellsP l).length = l.length * 2 := by
  induction l with
  | nil => rfl
  | cons t l ih => simp only [cellsP, List.flatMap_cons, List.length_append, List.length_cons, List.length_nil] at ih ⊢; omega
theorem cellsP_app (l m : Tl) : cellsP (l ++ m) = cellsP l ++ cellsP m := by simp [cellsP]
theorem cellsP_fst : ∀ (l : Tl) (k : Nat) (p : Int × Int), l[k]? = some p → (cellsP l)[k * 2]? = some (.int .i64 p.1)
  | t :: l, 0, p, h => by simp at h; subst h; simp [cellsP]
  | t :: l, k + 1, p, h => by
    have := cellsP_fst l k p (by simpa using h)
    have e : (k + 1) * 2 = k * 2 + 1 + 1 := by omega
    simp only [cellsP, List.flatMap_cons, List.cons_append, List.nil_append] at this ⊢
    rw [e, List.getElem?_cons_succ, List.getElem?_cons_succ, this]
  | [], k, p, h => by simp at h
theorem cellsP_snd : ∀ (l : Tl) (k : Nat) (p : Int × Int), l[k]? = some p → (cellsP l)[k * 2 + 1]? = some (.int .i64 p.2)
  | t :: l, 0, p, h => by simp at h; subst h; simp [cellsP]
  | t :: l, k + 1, p, h => by
    have := cellsP_snd l k p (by simpa using h)
    have e : (k + 1) * 2 + 1 = k * 2 + 1 + 1 + 1 := by omega
    simp only [cellsP, List.flatMap_cons, List.cons_append, List.nil_append] at this ⊢
    rw [e, List.getElem?_cons_succ, List.getElem?_cons_succ, this]
  | [], k, p, h => by simp at h
theorem cellsP_one (l : Tl) : ∀ u ∈ cellsP l, u.oneCell' = true := by
  intro u hu
  simp only [cellsP, List.mem_flatMap] at hu
  obtain ⟨t, _, hu⟩ := hu
  simp at hu
  rcases hu with rfl | rfl <;> rfl

/-- Rows of pairs, of ints, of slices of pairs. -/
def pairK : RK (Int × Int) where
  T := 30
  e := 51
  size := 2
  bytes := 16
  z := .agg #[.int .i64 0, .int .i64 0]
  cs := cellsP
  app := cellsP_app
  len := cellsP_len
  one := cellsP_one
  hu := Try.underlying30
  info := by kernel_rfl
  zs := rfl
  pos := by decide
  few := by decide
def intK : RK Int where
  T := 38
  e := 3
  size := 1
  bytes := 8
  z := .int .i64 0
  cs := fun l => l.map fun x => .int .i64 x
  app := fun l m => by simp
  len := fun l => by simp
  one := fun l u hu => by obtain ⟨b, _, rfl⟩ := List.mem_map.1 hu; rfl
  hu := Try.underlying38
  info := by kernel_rfl
  zs := rfl
  pos := by decide
  few := by decide
abbrev PRow (w : World) (v : Value) (l : Tl) : Prop := pairK.Row w v l
abbrev IRow (w : World) (v : Value) (l : List Int) : Prop := intK.Row w v l

/-- A row of pairs, its cells. -/
theorem prow_cells {w : World} {v : Value} {l : Tl} {n : Nat} (h : PRow w v l) (hn : l.length = n) :
    ∃ o c, v = .slice o n c ∧ (0 < n → ∃ g, o = some ⟨g, 0, none⟩ ∧ ∀ (i : Nat) (p : Int × Int), l[i]? = some p → w.cell? ⟨g, i * 2, none⟩ = some (.int .i64 p.1) ∧ w.cell? ⟨g, i * 2 + 1, none⟩ = some (.int .i64 p.2)) := by
  obtain ⟨o, c, rfl, ho⟩ := row_shape h
  subst hn
  refine ⟨o, c, rfl, fun h0 => ?_⟩
  obtain ⟨g, rfl⟩ := ho h0
  refine ⟨g, rfl, fun i p hp => ?_⟩
  have hi : i < l.length := (List.getElem?_eq_some_iff.1 hp).1
  exact ⟨(World.ownsRow.cellAt h (i * 2) (by show i * 2 < l.length * 2; omega)).trans (cellsP_fst _ i _ hp), (World.ownsRow.cellAt h (i * 2 + 1) (by show i * 2 + 1 < l.length * 2; omega)).trans (cellsP_snd _ i _ hp)⟩
/-- A row of one-cell elements, its cells. -/
theorem irow_cells {w : World} {v : Value} {l : List Int} {n : Nat} (h : IRow w v l) (hn : l.length = n) :
    ∃ o c, v = .slice o n c ∧ (0 < n → ∃ g, o = some ⟨g, 0, none⟩ ∧ ∀ (i : Nat) (p : Int), l[i]? = some p → w.cell? ⟨g, i, none⟩ = some (.int .i64 p)) := by
  obtain ⟨o, c, rfl, ho⟩ := row_shape h
  subst hn
  refine ⟨o, c, rfl, fun h0 => ?_⟩
  obtain ⟨g, rfl⟩ := ho h0
  refine ⟨g, rfl, fun i p hp => ?_⟩
  have hi : i < l.length := (List.getElem?_eq_some_iff.1 hp).1
  refine (World.ownsRow.cellAt h i (by show i < l.length * 1; omega)).trans ?_
  show (l.map fun x => Value.int .i64 x)[i]? = _
  rw [List.getElem?_map, hp]; rfl
/-- What is at home in Y', but new, was in Y. -/
def Mvs (w : World) (Y Y' : Nat → Prop) : Prop := ∀ x, Y' x → Y x ∨ w.heap.size ≤ x
end Go.Proofs.Ytnlogilbiifmiaa
