/-
  What the program's states have to answer ('Face': the calls of package model, whatever a state is in memory); sets of both, the program's and the document's, in one state ('Both8').
-/
import Derived.Test.YthidipigpfcbbaaGreatDoorMoRefPut
import Derived.Test.YthidipigpfcbbaaGreatDoorMoNew
import Derived.Test.YthidipigpfcbbaaGreatDoorMoSame
import Derived.Test.YthidipigpfcbbaaGreatDoorErPlace
import Derived.Test.YthidipigpfcbbaaGreatDoorMoOn8
namespace Go.Proofs.YthidipigpfcbbaaGreatDoor
open Go.RowKit Go.Maps Go.Extern.Stop Go.Stop Go.Extern

section
variable {PM : PMem} {w0 w w' w1 w2 w3 : World} {s r : Nat} {A B : M8} {X Y : Nat → Prop}

theorem MDid.keeps (h : MDid PM w w' s A X) : Keeps X w w' := by obtain ⟨X', h1, h2, h3⟩ := h; exact h3
theorem RMid.keeps (h : RMid w w' r A Y) : Keeps Y w w' := by obtain ⟨X', h1, h2, h3⟩ := h; exact h3
theorem mdid_drew (h : MDid PM w.drew w2 s B X) : MDid PM w w2 s B X := by
  obtain ⟨X', h1, h2, h3⟩ := h
  exact ⟨X', h1, h2, ((Keeps.refl X w).drew).trans_ h3⟩
theorem rmid_drew (h : RMid w.drew w2 r B Y) : RMid w w2 r B Y := by
  obtain ⟨X', h1, h2, h3⟩ := h
  exact ⟨X', h1, h2, ((Keeps.refl Y w).drew).trans_ h3⟩

/-- What both are behind a call. -/
def Two8 (PM : PMem) (w w' : World) (s r : Nat) (B : M8) (X Y : Nat → Prop) : Prop :=
  ∃ X' Y', PM w' s B X' ∧ RM w' r B Y' ∧ Mvs w X X' ∧ Mvs w Y Y' ∧ (∀ x, X' x → ¬ Y' x) ∧ Keeps (fun x => X x ∨ Y x) w w'

theorem two_sr8 (F : Face PM) (hR : RM w r A Y) (ap : ∀ x, X x → ¬ Y x) (h : MDid PM w w2 s B X) (h' : RMid w2 w3 r B Y) : Two8 PM w w3 s r B X Y := by
  obtain ⟨X', a1, a2, a3⟩ := h
  obtain ⟨Y', b1, b2, b3⟩ := h'
  have hXY : ∀ x, X' x → ¬ Y x := fun x hx hy => by
    rcases a2 x hx with g | g
    · exact ap x g hy
    · exact absurd (hR.old x hy) (Nat.not_lt.2 g)
  refine ⟨X', Y', F.keeps a1 b3 hXY, b1, a2, fun x hx => (b2 x hx).imp id fun g => Nat.le_trans a3.size g, fun x hx hy => ?_, (a3.mono fun _ _ g => .inl g : Keeps (fun x => X x ∨ Y x) w w2).trans b3 fun x _ e => .inr e⟩
  rcases b2 x hy with g | g
  · exact hXY x hx g
  · exact absurd (F.old a1 x hx) (Nat.not_lt.2 g)
theorem two_rs8 (F : Face PM) (hS : PM w s A X) (ap : ∀ x, X x → ¬ Y x) (h : RMid w w2 r B Y) (h' : MDid PM w2 w3 s B X) : Two8 PM w w3 s r B X Y := by
  obtain ⟨Y', b1, b2, b3⟩ := h
  obtain ⟨X', a1, a2, a3⟩ := h'
  have hXY : ∀ x, Y' x → ¬ X x := fun x hy hx => by
    rcases b2 x hy with g | g
    · exact ap x hx g
    · exact absurd (F.old hS x hx) (Nat.not_lt.2 g)
  refine ⟨X', Y', a1, b1.keeps a3 hXY, fun x hx => (a2 x hx).imp id fun g => Nat.le_trans b3.size g, b2, fun x hx hy => ?_, (b3.mono fun _ _ e => .inr e : Keeps (fun x => X x ∨ Y x) w w2).trans a3 fun x _ g => .inl g⟩
  rcases a2 x hx with g | g
  · exact hXY x hy g
  · exact absurd (b1.old x hy) (Nat.not_lt.2 g)
theorem Two8.same (F : Face PM) (hS : PM w s A X) (hR : RM w r A Y) (ap : ∀ x, X x → ¬ Y x) (k : Keeps (fun _ => False) w w1) : Two8 PM w w1 s r A X Y :=
  ⟨X, Y, F.same hS k, hR.same k, fun _ h => .inl h, fun _ h => .inl h, ap, k.mono fun _ _ => False.elim⟩
theorem Two8.after (k : Keeps (fun _ => False) w w1) (h : Two8 PM w1 w2 s r B X Y) : Two8 PM w w2 s r B X Y := by
  obtain ⟨X', Y', a, b, c, d, e, f⟩ := h
  exact ⟨X', Y', a, b, fun x hx => (c x hx).imp id fun g => Nat.le_trans k.size g, fun x hx => (d x hx).imp id fun g => Nat.le_trans k.size g, e, (k.mono fun _ _ => False.elim : Keeps (fun x => X x ∨ Y x) w w1).trans_ f⟩
theorem Two8.later (F : Face PM) (h : Two8 PM w w1 s r B X Y) (k : Keeps (fun _ => False) w1 w2) : Two8 PM w w2 s r B X Y := by
  obtain ⟨X', Y', a, b, c, d, e, f⟩ := h
  exact ⟨X', Y', F.same a k, b.same k, c, d, e, f.trans k fun _ _ => False.elim⟩
theorem Two8.keeps (h : Two8 PM w w1 s r B X Y) : Keeps (fun x => X x ∨ Y x) w w1 := by obtain ⟨X', Y', _, _, _, _, _, f⟩ := h; exact f

/-- Both, made since w0, in the state A; what was there then is as it was. -/
def Both8 (PM : PMem) (w0 w : World) (s r : Nat) (A : M8) : Prop := ∃ X Y, PM w s A X ∧ RM w r A Y ∧ (∀ x, X x → ¬ Y x) ∧ (∀ x, X x ∨ Y x → w0.heap.size ≤ x) ∧ Keeps (fun _ => False) w0 w
theorem Both8.same (F : Face PM) (h : Both8 PM w0 w s r A) (k : Keeps (fun _ => False) w w') : Both8 PM w0 w' s r A := by
  obtain ⟨X, Y, h1, h2, h3, h4, h5⟩ := h
  exact ⟨X, Y, F.same h1 k, h2.same k, h3, h4, h5.trans k fun _ _ => id⟩
theorem Both8.keeps (h : Both8 PM w0 w s r A) : Keeps (fun _ => False) w0 w := by obtain ⟨X, Y, h1, h2, h3, h4, h5⟩ := h; exact h5
theorem Both8.ok (F : Face PM) (h : Both8 PM w0 w s r A) : A.Ok := by obtain ⟨X, Y, h1, h2, h3, h4, h5⟩ := h; exact F.ok h1
theorem Two8.both (h4 : ∀ x, X x ∨ Y x → w0.heap.size ≤ x) (h5 : Keeps (fun _ => False) w0 w) (h : Two8 PM w w' s r B X Y) : Both8 PM w0 w' s r B := by
  obtain ⟨X', Y', a1, a2, a3, a4, a5, a6⟩ := h
  refine ⟨X', Y', a1, a2, a5, fun x hx => ?_, h5.trans a6 fun x hx e => by have := h4 x e; omega⟩
  rcases hx with hx | hx
  · rcases a3 x hx with g | g
    · exact h4 x (.inl g)
    · exact Nat.le_trans h5.size g
  · rcases a4 x hx with g | g
    · exact h4 x (.inr g)
    · exact Nat.le_trans h5.size g
end

/-- A call, plainly. -/
def mDo (A : M8) (a : Act8) : M8 := if a.k = 1 ∨ a.k = 2 then (mPut A a.c a.key a.v).1 else if a.k = 3 then (mDel A a.c a.key).1 else A
theorem mDo_ok {A : M8} (h : A.Ok) (a : Act8) : (mDo A a).Ok := by
  unfold mDo
  split
  · exact mPut_ok h _ _ _
  · split
    · exact mDel_ok h _ _
    · exact h
theorem mGet_num (A : M8) (c k : Int) : (A.there c ∧ (mGet A c k).2.2 = 0 ∧ atC A c = 0) ∨ (¬ A.there c ∧ (mGet A c k).2.2 = 3 ∧ atC A c = c) := by
  unfold mGet atC
  by_cases h : A.there c
  · exact .inl ⟨h, by simp [h], by simp [h]⟩
  · exact .inr ⟨h, by simp [h], by simp [h]⟩
end Go.Proofs.YthidipigpfcbbaaGreatDoor
