/-
  Rows of statements and of lines; concordref09.Lines by contract.
  concordref09.in, arg by contract.
-/
import Derived.Test.YthidipigpfcbbaaGreatDoorPgWeight
import Derived.Test.YthidipigpfcbbaaGreatDoorRkArg
import Derived.OwnWalk
import Derived.Deep.RegionHeld3

namespace Go.Proofs.YthidipigpfcbbaaGreatDoor
open Go.RowKit Go.Extern.Stop Go.Stop Go.Extern

/-- A slice, as a plain value. -/
abbrev Sl := Option Addr × Nat × Nat
def slv (x : Sl) : Value := .slice x.1 x.2.1 x.2.2
/-- A statement, as it lies in memory. -/
abbrev StV := St7 × Sl × Sl
def stCells (x : StV) : List Value := [.int .i64 x.1.k, .int .i64 x.1.c, .int .i64 x.1.r, .int .i64 x.1.ar, .int .i64 x.1.an, .int .i64 x.1.br, .int .i64 x.1.bn, slv x.2.1, slv x.2.2]
/-- A line, as it lies in memory. -/
abbrev LnV := StV × Int
def lnCells (x : LnV) : List Value := stCells x.1 ++ [.int .i64 x.2]

theorem flat_len {α : Type} (f : α → List Value) (n : Nat) (hf : ∀ x, (f x).length = n) (l : List α) : (l.flatMap f).length = l.length * n := by
  induction l with
  | nil => simp
  | cons x t ih => rw [List.flatMap_cons, List.length_append, hf, ih, List.length_cons, Nat.succ_mul]; omega
theorem flat_get {α : Type} (f : α → List Value) (n : Nat) (hf : ∀ x, (f x).length = n) : ∀ (l : List α) (i j : Nat) (x : α), l[i]? = some x → j < n → (l.flatMap f)[i * n + j]? = (f x)[j]?
  | y :: t, 0, j, x, h, hj => by
    simp at h
    subst h
    rw [List.flatMap_cons, Nat.zero_mul, Nat.zero_add, List.getElem?_append_left (by rw [hf]; exact hj)]
  | y :: t, i + 1, j, x, h, hj => by
    have := flat_get f n hf t i j x (by simpa using h) hj
    rw [List.flatMap_cons, List.getElem?_append_right (by rw [hf, Nat.succ_mul]; omega), hf, ← this]
    congr 1
    rw [Nat.succ_mul]; omega
  | [], i, j, x, h, _ => by simp at h

def stK : RK StV where
  T := 24
  e := 40
  size := 9
  bytes := 104
  z := .agg #[.int .i64 0, .int .i64 0, .int .i64 0, .int .i64 0, .int .i64 0, .int .i64 0, .int .i64 0, .slice none 0 0, .slice none 0 0]
  cs := fun l => l.flatMap stCells
  app := fun l m => by simp
  len := fun l => flat_len stCells 9 (fun x => rfl) l
  one := fun l u hu => by
    obtain ⟨x, _, hx⟩ := List.mem_flatMap.1 hu
    simp [stCells, slv] at hx
    rcases hx with rfl | rfl | rfl | rfl | rfl | rfl | rfl | rfl | rfl <;> rfl
  hu := Tryz.underlying24
  info := by kernel_rfl
  zs := rfl
  pos := by decide
  few := by decide
/-- Lines in memory, and what they are. -/
structure LinesAt (w : World) (vs : List LnV) (L : List Ln) : Prop where
  len : vs.length = L.length
  each : ∀ (i : Nat) (x : LnV) (l : Ln), vs[i]? = some x → L[i]? = some l → x.1.1 = l.s ∧ x.2 = (l.d : Int) ∧ SlOf w (slv x.1.2.1) l.B ∧ SlOf w (slv x.1.2.2) l.E
theorem LinesAt.nil_ (w : World) : LinesAt w [] [] := ⟨rfl, fun i x l h _ => by simp at h⟩
theorem LinesAt.app {w : World} {vs us : List LnV} {L M : List Ln} (h : LinesAt w vs L) (h' : LinesAt w us M) : LinesAt w (vs ++ us) (L ++ M) := by
  refine ⟨by simp [h.len, h'.len], fun i x l hx hl => ?_⟩
  rcases Nat.lt_or_ge i vs.length with hi | hi
  · rw [List.getElem?_append_left hi] at hx
    rw [List.getElem?_append_left (by rw [← h.len]; exact hi)] at hl
    exact h.each i x l hx hl
  · rw [List.getElem?_append_right hi] at hx
    rw [List.getElem?_append_right (by rw [← h.len]; exact hi), ← h.len] at hl
    exact h'.each _ x l hx hl
theorem LinesAt.one {w : World} {s : St7} {b e : Sl} {B E : Fo} {d : Nat} (hB : SlOf w (slv b) B) (hE : SlOf w (slv e) E) : LinesAt w [((s, b, e), (d : Int))] [⟨s, B, E, d⟩] := by
  refine ⟨rfl, fun i x l hx hl => ?_⟩
  match i, hx, hl with
  | 0, hx, hl =>
    simp at hx hl
    subst hx
    subst hl
    exact ⟨rfl, rfl, hB, hE⟩
  | i + 1, hx, _ => simp at hx
theorem LinesAt.same {w w' : World} {vs : List LnV} {L : List Ln} (h : LinesAt w vs L) (k : Keeps (fun _ => False) w w') : LinesAt w' vs L :=
  ⟨h.len, fun i x l hx hl => by
    obtain ⟨h1, h2, h3, h4⟩ := h.each i x l hx hl
    exact ⟨h1, h2, h3.same k, h4.same k⟩⟩

/-- A slice's value, plainly. -/
theorem SlOf.plain {w : World} {v : Value} {F : Fo} (h : SlOf w v F) : ∃ x : Sl, v = slv x ∧ x.2.1 = F.len := by
  obtain ⟨a, c, h1, _⟩ := h
  exact ⟨(a, F.len, c), h1, rfl⟩
end Go.Proofs.YthidipigpfcbbaaGreatDoor

namespace Go.Proofs.YthidipigpfcbbaaGreatDoor
open Go.RowKit Go.Extern.Stop Go.Stop Go.Extern

theorem inL_true {n : Int} {l : List Int} {i : Nat} (h : l[i]? = some n) : inL n l = true := by
  unfold inL
  rw [List.any_eq_true]
  exact ⟨n, List.mem_of_getElem? h, by simp⟩
theorem inL_false {n : Int} {l : List Int} (h : ∀ (j : Nat) (x : Int), l[j]? = some x → x ≠ n) : inL n l = false := by
  unfold inL
  rw [List.any_eq_false]
  intro x hx
  obtain ⟨j, hj⟩ := List.getElem?_of_mem hx
  simpa using h j x hj

end Go.Proofs.YthidipigpfcbbaaGreatDoor
