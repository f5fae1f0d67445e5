/-
  Sets that were made since a world, beside which something else is kept ('OnP'), call by call.
-/
import Derived.Test.YtkolkimmhlmlgaaDoorStPlay
namespace Go.Proofs.YtkolkimmhlmlgaaDoor
open Go.RowKit Go.Maps Go.Extern.Stop Go.Stop Go.Extern

/-- P stays where no block of Z changes. -/
def Stable (Z : Nat → Prop) (P : World → Prop) : Prop := ∀ (w1 w2 : World) (S : Nat → Prop), P w1 → Keeps S w1 w2 → (∀ x, Z x → ¬ S x) → P w2

structure OnQ (w0 w : World) (s : Nat) (A : AS) (P : World → Prop) (X Z : Nat → Prop) : Prop where
  ps : PS w s A X
  apart : ∀ x, Z x → ¬ X x
  old : ∀ x, Z x → x < w.heap.size
  low : ∀ x, x < w0.heap.size → Z x
  keeps : Keeps (fun _ => False) w0 w
  p : P w
  st : Stable Z P

/-- Sets in the state A, made since w0; P holds, and lies elsewhere. -/
def OnP (w0 w : World) (s : Nat) (A : AS) (P : World → Prop) : Prop := ∃ X Z, OnQ w0 w s A P X Z

section
variable {w0 w w' : World} {s : Nat} {A B : AS} {P : World → Prop} {X Z : Nat → Prop}

theorem OnQ.did (h : OnQ w0 w s A P X Z) (d : Did w w' s B X) : OnP w0 w' s B P := by
  obtain ⟨X', h1, h2, h3⟩ := d
  exact ⟨X', Z, {
    ps := h1
    apart := fun x hz hx => by
      rcases h2 x hx with g | g
      · exact h.apart x hz g
      · exact absurd (h.old x hz) (Nat.not_lt.2 g)
    old := fun x hz => Nat.lt_of_lt_of_le (h.old x hz) h3.size
    low := h.low
    keeps := h.keeps.trans h3 fun x hx hs => h.apart x (h.low x hx) hs
    p := h.st _ _ X h.p h3 h.apart
    st := h.st }⟩
theorem OnQ.told {q : IntKind} {t : TypeId} {u : Value} {l : Tl} (h : OnQ w0 w s A P X Z) (row : Row2 q t w' u l) (fresh : ∀ g, u.ownBlock = some g → w.heap.size ≤ g) (k : Keeps (fun _ => False) w w') : OnP w0 w' s A (fun v => P v ∧ Row2 q t v u l) :=
  ⟨X, fun x => Z x ∨ u.ownBlock = some x, {
    ps := h.ps.same k
    apart := fun x hz hx => by
      rcases hz with hz | hz
      · exact h.apart x hz hx
      · exact absurd (h.ps.old x hx) (Nat.not_lt.2 (fresh x hz))
    old := fun x hz => by
      rcases hz with hz | hz
      · exact Nat.lt_of_lt_of_le (h.old x hz) k.size
      · exact (World.ownsRow.lt row x hz).2
    low := fun x hx => .inl (h.low x hx)
    keeps := h.keeps.trans k fun _ _ => id
    p := ⟨h.st _ _ _ h.p k fun _ _ => id, row⟩
    st := fun w1 w2 S hp K hS => ⟨h.st w1 w2 S hp.1 K fun x hx => hS x (.inl hx), ownsRow_keeps hp.2 K fun g hg => hS g (.inr hg)⟩ }⟩
theorem OnP.same (h : OnP w0 w s A P) (k : Keeps (fun _ => False) w w') : OnP w0 w' s A P := by
  obtain ⟨X, Z, h⟩ := h
  exact h.did (Did.same h.ps k)
theorem OnP.keeps (h : OnP w0 w s A P) : Keeps (fun _ => False) w0 w := by obtain ⟨X, Z, h⟩ := h; exact h.keeps
theorem OnP.p (h : OnP w0 w s A P) : P w := by obtain ⟨X, Z, h⟩ := h; exact h.p
theorem OnP.ok (h : OnP w0 w s A P) : A.Ok := by obtain ⟨X, Z, h⟩ := h; exact h.ps.ok
theorem On.kept (h : On w0 w s A) : OnP w0 w s A (fun _ => True) := by
  obtain ⟨X, h1, h2, h3⟩ := h
  exact ⟨X, fun x => x < w0.heap.size, ⟨h1, fun x hz hx => by have := h2 x hx; omega, fun x hz => Nat.lt_of_lt_of_le hz h3.size, fun _ hx => hx, h3, trivial, fun _ _ _ _ _ _ => trivial⟩⟩

theorem write_p (h : OnP w0 w s A P) (c v : Int) (hc : wfU c) :
    Calls Tryd.prog 18 #[.pointer (some ⟨s, 0, none⟩), .int .u64 c, .int .u64 v] w fun e w' => ∃ ev, e = .returned ev ∧ OnP w0 w' s (aWrite A c v).1 P := by
  obtain ⟨X, Z, h⟩ := h
  exact (write_any h.ps c v hc).mono fun _ _ ⟨ev, e1, _, e3⟩ => ⟨ev, e1, h.did e3⟩
theorem mark_p (h : OnP w0 w s A P) {g f : Nat} (e : aMark A = (B, g, f)) :
    Calls Tryd.prog 12 #[.pointer (some ⟨s, 0, none⟩)] w fun e w' => ∃ ev, e = .returned (.tuple #[.int .i64 g, ev]) ∧ ErrU w.heap.size w' ev f 0 ∧ OnP w0 w' s B P := by
  obtain ⟨X, Z, h⟩ := h
  exact (s_mark h.ps e).mono fun _ _ ⟨ev, e1, e2, e3⟩ => ⟨ev, e1, e2, h.did e3⟩
theorem keep_p (h : OnP w0 w s A P) (m : Int) {f : Nat} (e : aKeep A m = (B, f)) :
    Calls Tryd.prog 19 #[.pointer (some ⟨s, 0, none⟩), .int .i64 m] w fun e w' => ∃ ev, e = .returned ev ∧ ErrU w.heap.size w' ev f (atM f m) ∧ OnP w0 w' s B P := by
  obtain ⟨X, Z, h⟩ := h
  exact (s_keep h.ps m e).mono fun _ _ ⟨ev, e1, e2, e3⟩ => ⟨ev, e1, e2, h.did e3⟩
theorem back_p (h : OnP w0 w s A P) (m : Int) {f : Nat} (e : aBack A m = (B, f)) :
    Calls Tryd.prog 15 #[.pointer (some ⟨s, 0, none⟩), .int .i64 m] w fun e w' => ∃ ev, e = .returned ev ∧ ErrU w.heap.size w' ev f (atM f m) ∧ OnP w0 w' s B P := by
  obtain ⟨X, Z, h⟩ := h
  exact (s_back h.ps m e).mono fun _ _ ⟨ev, e1, e2, e3⟩ => ⟨ev, e1, e2, h.did e3⟩
theorem writes_p (h : OnP w0 w s A P) :
    Calls Tryd.prog 11 #[.pointer (some ⟨s, 0, none⟩)] w fun e w' => ∃ u, e = .returned u ∧ OnP w0 w' s A (fun v => P v ∧ Row2 .u64 60 v u A.W) := by
  obtain ⟨X, Z, h⟩ := h
  exact (writes_any h.ps).mono fun _ _ ⟨u, e1, e2, e3, e4⟩ => ⟨u, e1, h.told e2 e3 e4⟩
theorem reads_p (h : OnP w0 w s A P) :
    Calls Tryd.prog 14 #[.pointer (some ⟨s, 0, none⟩)] w fun e w' => ∃ u, e = .returned u ∧ OnP w0 w' s A (fun v => P v ∧ Row2 .i64 50 v u A.R) := by
  obtain ⟨X, Z, h⟩ := h
  exact (reads_any h.ps).mono fun _ _ ⟨u, e1, e2, e3, e4⟩ => ⟨u, e1, h.told e2 e3 e4⟩
end
theorem aWrite_MR (A : AS) (c v : Int) : (aWrite A c v).1.M = A.M ∧ (aWrite A c v).1.R = A.R := by
  unfold aWrite
  split <;> exact ⟨rfl, rfl⟩
theorem aMark_cases (A : AS) : (aMark A = (A, 0, 10) ∧ 20 ≤ A.M.length) ∨ (aMark A = ({ A with M := A.M ++ [A.W] }, A.M.length + 1, 0) ∧ A.M.length < 20) := by
  unfold aMark
  split
  · rename_i h; exact .inl ⟨rfl, h⟩
  · rename_i h; exact .inr ⟨rfl, by omega⟩
end Go.Proofs.YtkolkimmhlmlgaaDoor
