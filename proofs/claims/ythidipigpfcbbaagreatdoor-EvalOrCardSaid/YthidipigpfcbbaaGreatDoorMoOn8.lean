/-
  What the program's states have to answer ('Face': the calls of package model, whatever a state is in memory).
  A state that was made since a world ('On8'); concordlaw08.alive by contract, for any program's states that keep 'Face'.
-/
import Derived.Test.YthidipigpfcbbaaGreatDoorRkArg
import Derived.Test.YthidipigpfcbbaaGreatDoorErU

namespace Go.Proofs.YthidipigpfcbbaaGreatDoor
open Go.RowKit Go.Maps Go.Extern.Stop Go.Stop Go.Extern

abbrev wfI (k : Int) : Prop := (Lit.int .i64 k).wf = true
/-- What a state in memory is: the world, its block, what it is, the blocks that it owns. -/
abbrev PMem := World → Nat → M8 → (Nat → Prop) → Prop

def atC (A : M8) (c : Int) : Int := if A.there c then 0 else c
def MDid (PM : PMem) (w w' : World) (s : Nat) (A : M8) (X : Nat → Prop) : Prop := ∃ X', PM w' s A X' ∧ Mvs w X X' ∧ Keeps X w w'

structure Face (PM : PMem) : Prop where
  keeps : ∀ {w w' : World} {s : Nat} {A : M8} {X S : Nat → Prop}, PM w s A X → Keeps S w w' → (∀ x, X x → ¬ S x) → PM w' s A X
  old : ∀ {w : World} {s : Nat} {A : M8} {X : Nat → Prop}, PM w s A X → ∀ x, X x → x < w.heap.size
  ok : ∀ {w : World} {s : Nat} {A : M8} {X : Nat → Prop}, PM w s A X → A.Ok
  get : ∀ {w : World} {s : Nat} {A : M8} {X : Nat → Prop}, PM w s A X → ∀ c k : Int, wfI k →
    Calls Tryz.prog 54 #[.pointer (some ⟨s, 0, none⟩), .int .i64 c, .int .i64 k] w fun e w' => ∃ ev, e = .returned (.tuple #[.int .i64 (mGet A c k).1, .bool (mGet A c k).2.1, ev]) ∧ ErrU w.heap.size w' ev (mGet A c k).2.2 (atC A c) ∧ Keeps (fun _ => False) w w'
  put : ∀ {w : World} {s : Nat} {A : M8} {X : Nat → Prop}, PM w s A X → ∀ c k v : Int, wfI k →
    Calls Tryz.prog 57 #[.pointer (some ⟨s, 0, none⟩), .int .i64 c, .int .i64 k, .int .i64 v] w fun e w' => ∃ ev a, e = .returned ev ∧ ErrU w.heap.size w' ev (mPut A c k v).2 a ∧ MDid PM w w' s (mPut A c k v).1 X
  del_ : ∀ {w : World} {s : Nat} {A : M8} {X : Nat → Prop}, PM w s A X → ∀ c k : Int, wfI k →
    Calls Tryz.prog 58 #[.pointer (some ⟨s, 0, none⟩), .int .i64 c, .int .i64 k] w fun e w' => ∃ ev a, e = .returned ev ∧ ErrU w.heap.size w' ev (mDel A c k).2 a ∧ MDid PM w w' s (mDel A c k).1 X
  ceil_ : ∀ {w : World} {s : Nat} {A : M8} {X : Nat → Prop}, PM w s A X → ∀ c k : Int,
    Calls Tryz.prog 60 #[.pointer (some ⟨s, 0, none⟩), .int .i64 c, .int .i64 k] w fun e w' => ∃ ev a, e = .returned (.tuple #[.int .i64 (mCeil A c k).1, .bool (mCeil A c k).2.1, ev]) ∧ ErrU w.heap.size w' ev (mCeil A c k).2.2 a ∧ Keeps (fun _ => False) w w'
  range_ : ∀ {w : World} {s : Nat} {A : M8} {X : Nat → Prop}, PM w s A X → ∀ c x y : Int,
    Calls Tryz.prog 62 #[.pointer (some ⟨s, 0, none⟩), .int .i64 c, .int .i64 x, .int .i64 y] w fun e w' => ∃ ev a, e = .returned (.tuple #[.int .i64 ((mRange A c x y).1 : Nat), ev]) ∧ ErrU w.heap.size w' ev (mRange A c x y).2 a ∧ Keeps (fun _ => False) w w'
  size_ : ∀ {w : World} {s : Nat} {A : M8} {X : Nat → Prop}, PM w s A X → ∀ c : Int, A.there c →
    Calls Tryz.prog 43 #[.pointer (some ⟨s, 0, none⟩), .int .i64 c] w fun e w' => e = .returned (.tuple #[.int .i64 ((A.col c).length : Nat), .nilIface]) ∧ Keeps (fun _ => False) w w'
  list_ : ∀ {w : World} {s : Nat} {A : M8} {X : Nat → Prop}, PM w s A X → ∀ c : Int, A.there c →
    Calls Tryz.prog 19 #[.pointer (some ⟨s, 0, none⟩), .int .i64 c] w fun e w' => ∃ u, e = .returned (.tuple #[u, .nilIface]) ∧ PRow w' u (A.col c) ∧ (∀ g, u.ownBlock = some g → w.heap.size ≤ g) ∧ Keeps (fun _ => False) w w'
  kinds_ : ∀ {w : World} {s : Nat} {A : M8} {X : Nat → Prop}, PM w s A X →
    Calls Tryz.prog 25 #[.pointer (some ⟨s, 0, none⟩)] w fun e w' => ∃ u, e = .returned u ∧ IRow w' u A.K ∧ (∀ g, u.ownBlock = some g → w.heap.size ≤ g) ∧ Keeps (fun _ => False) w w'
  copy_ : ∀ {w : World} {s : Nat} {A : M8} {X : Nat → Prop}, PM w s A X →
    Calls Tryz.prog 26 #[.pointer (some ⟨s, 0, none⟩)] w fun e w' => ∃ o Z, e = .returned (.pointer (some ⟨o, 0, none⟩)) ∧ PM w' o A Z ∧ (∀ x, Z x → w.heap.size ≤ x) ∧ Keeps (fun _ => False) w w'
  same_ : ∀ {w : World} {s o : Nat} {A B : M8} {X Z : Nat → Prop}, PM w s A X → PM w o B Z →
    Calls Tryz.prog 13 #[.pointer (some ⟨s, 0, none⟩), .pointer (some ⟨o, 0, none⟩)] w fun e w' => ∃ b, e = .returned (.bool b) ∧ (b = true ↔ A = B) ∧ Keeps (fun _ => False) w w'
  new_no : ∀ {w : World} {a : Option Addr} {n cap : Nat} {K : List Int}, IntL w a n K → (mNew K).1 = false →
    Calls Tryz.prog 23 #[.slice a n cap] w fun e w' => ∃ ev, e = .returned (.tuple #[.pointer none, ev]) ∧ ErrU w.heap.size w' ev (mNew K).2.1 ((mNew K).2.2 : Nat) ∧ Keeps (fun _ => False) w w'
  new_ : ∀ {w : World} {a : Option Addr} {n cap : Nat} {K : List Int}, IntL w a n K → (mNew K).1 = true →
    Calls Tryz.prog 23 #[.slice a n cap] w fun e w' => ∃ s X, e = .returned (.tuple #[.pointer (some ⟨s, 0, none⟩), .nilIface]) ∧ PM w' s (M8.made K) X ∧ (∀ x, X x → w.heap.size ≤ x) ∧ Keeps (fun _ => False) w w'
theorem Face.same {PM : PMem} {w w' : World} {s : Nat} {A : M8} {X : Nat → Prop} (F : Face PM) (h : PM w s A X) (k : Keeps (fun _ => False) w w') : PM w' s A X := F.keeps h k fun _ _ => id
end Go.Proofs.YthidipigpfcbbaaGreatDoor

namespace Go.Proofs.YthidipigpfcbbaaGreatDoor
open Go.RowKit Go.Maps Go.Extern.Stop Go.Stop Go.Extern

/-- A state, made since w0; what was there then is as it was. -/
def On8 (PM : PMem) (w0 w : World) (s : Nat) (A : M8) : Prop := ∃ X, PM w s A X ∧ (∀ x, X x → w0.heap.size ≤ x) ∧ Keeps (fun _ => False) w0 w

section
variable {PM : PMem} {w0 w w' : World} {s r : Nat} {A B : M8}
theorem On8.of {X : Nat → Prop} (h : ∀ x, X x → w0.heap.size ≤ x) (k : Keeps (fun _ => False) w0 w) (d : MDid PM w w' s B X) : On8 PM w0 w' s B := by
  obtain ⟨X', h1, h2, h3⟩ := d
  exact ⟨X', h1, fun x hx => (h2 x hx).elim (h x) fun g => Nat.le_trans k.size g, k.trans h3 fun x hx e => absurd hx (Nat.not_lt.2 (h x e))⟩
theorem On8.same (F : Face PM) (h : On8 PM w0 w s A) (k : Keeps (fun _ => False) w w') : On8 PM w0 w' s A := by
  obtain ⟨X, h1, h2, h3⟩ := h
  exact ⟨X, F.same h1 k, h2, h3.trans k fun _ _ => id⟩
theorem On8.keeps (h : On8 PM w0 w s A) : Keeps (fun _ => False) w0 w := by obtain ⟨X, h1, h2, h3⟩ := h; exact h3
theorem On8.ok (F : Face PM) (h : On8 PM w0 w s A) : A.Ok := by obtain ⟨X, h1, h2, h3⟩ := h; exact F.ok h1

theorem put_on8 (F : Face PM) (h : On8 PM w0 w s A) (c k v : Int) (hk : wfI k) {f : Nat} (e : mPut A c k v = (B, f)) :
    Calls Tryz.prog 57 #[.pointer (some ⟨s, 0, none⟩), .int .i64 c, .int .i64 k, .int .i64 v] w fun e w' => ∃ ev a, e = .returned ev ∧ ErrU w.heap.size w' ev f a ∧ On8 PM w0 w' s B := by
  obtain ⟨X, h1, h2, h3⟩ := h
  have := F.put h1 c k v hk
  rw [e] at this
  exact this.mono fun e w' ⟨ev, a, e1, e2, e3⟩ => ⟨ev, a, e1, e2, On8.of h2 h3 e3⟩
theorem del_on8 (F : Face PM) (h : On8 PM w0 w s A) (c k : Int) (hk : wfI k) {f : Nat} (e : mDel A c k = (B, f)) :
    Calls Tryz.prog 58 #[.pointer (some ⟨s, 0, none⟩), .int .i64 c, .int .i64 k] w fun e w' => ∃ ev a, e = .returned ev ∧ ErrU w.heap.size w' ev f a ∧ On8 PM w0 w' s B := by
  obtain ⟨X, h1, h2, h3⟩ := h
  have := F.del_ h1 c k hk
  rw [e] at this
  exact this.mono fun e w' ⟨ev, a, e1, e2, e3⟩ => ⟨ev, a, e1, e2, On8.of h2 h3 e3⟩
theorem ceil_on8 (F : Face PM) (h : On8 PM w0 w s A) (c k : Int) {x : Int} {b : Bool} {f : Nat} (e : mCeil A c k = (x, b, f)) :
    Calls Tryz.prog 60 #[.pointer (some ⟨s, 0, none⟩), .int .i64 c, .int .i64 k] w fun e w' => ∃ ev a, e = .returned (.tuple #[.int .i64 x, .bool b, ev]) ∧ ErrU w.heap.size w' ev f a ∧ On8 PM w0 w' s A ∧ Keeps (fun _ => False) w w' := by
  have h' := h
  obtain ⟨X, h1, h2, h3⟩ := h
  have := F.ceil_ h1 c k
  rw [e] at this
  exact this.mono fun e w' ⟨ev, a, e1, e2, e3⟩ => ⟨ev, a, e1, e2, h'.same F e3, e3⟩
theorem range_on8 (F : Face PM) (h : On8 PM w0 w s A) (c x y : Int) {n f : Nat} (e : mRange A c x y = (n, f)) :
    Calls Tryz.prog 62 #[.pointer (some ⟨s, 0, none⟩), .int .i64 c, .int .i64 x, .int .i64 y] w fun e w' => ∃ ev a, e = .returned (.tuple #[.int .i64 (n : Nat), ev]) ∧ ErrU w.heap.size w' ev f a ∧ On8 PM w0 w' s A ∧ Keeps (fun _ => False) w w' := by
  have h' := h
  obtain ⟨X, h1, h2, h3⟩ := h
  have := F.range_ h1 c x y
  rw [e] at this
  exact this.mono fun e w' ⟨ev, a, e1, e2, e3⟩ => ⟨ev, a, e1, e2, h'.same F e3, e3⟩
theorem get_on8 (F : Face PM) (h : On8 PM w0 w s A) (c k : Int) (hk : wfI k) {x : Int} {b : Bool} {f : Nat} (e : mGet A c k = (x, b, f)) :
    Calls Tryz.prog 54 #[.pointer (some ⟨s, 0, none⟩), .int .i64 c, .int .i64 k] w fun e w' => ∃ ev a, e = .returned (.tuple #[.int .i64 x, .bool b, ev]) ∧ ErrU w.heap.size w' ev f a ∧ On8 PM w0 w' s A ∧ Keeps (fun _ => False) w w' := by
  have h' := h
  obtain ⟨X, h1, h2, h3⟩ := h
  have := F.get h1 c k hk
  rw [e] at this
  exact this.mono fun e w' ⟨ev, e1, e2, e3⟩ => ⟨ev, _, e1, e2, h'.same F e3, e3⟩
theorem new_on8 (F : Face PM) {a : Option Addr} {n cap : Nat} {K : List Int} (h : IntL w a n K) (hk : (mNew K).1 = true) (k0 : Keeps (fun _ => False) w0 w) :
    Calls Tryz.prog 23 #[.slice a n cap] w fun e w' => ∃ s, e = .returned (.tuple #[.pointer (some ⟨s, 0, none⟩), .nilIface]) ∧ On8 PM w0 w' s (M8.made K) :=
  (F.new_ h hk).mono fun _ _ ⟨s, X, e1, e2, e3, e4⟩ => ⟨s, e1, X, e2, fun x hx => Nat.le_trans k0.size (e3 x hx), k0.trans e4 fun _ _ => id⟩
end

/-! ### Play -/
end Go.Proofs.YthidipigpfcbbaaGreatDoor
