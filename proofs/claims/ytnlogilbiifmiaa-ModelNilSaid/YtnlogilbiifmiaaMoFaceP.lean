/-
  What the program's states have to answer ('Face': the calls of package model, whatever a state is in memory).
-/
import Derived.Test.YtnlogilbiifmiaaMoIntL
import Derived.Test.YtnlogilbiifmiaaErU
namespace Go.Proofs.Ytnlogilbiifmiaa
open Go.RowKit Go.Maps Go.Extern.Stop Go.Stop Go.Extern

abbrev wfI (k : Int) : Prop := (Lit.int .i64 k).wf = true
/-- What a state in memory is: the world, its block, what it is, the blocks that it owns. -/
abbrev PMem := World → Nat → M8 → (Nat → Prop) → Prop

def atC (A : M8) (c : Int) : Int := if A.there c then 0 else c
def MDid (PM : PMem) (w w' : World) (s : Nat) (A : M8) (X : Nat → Prop) : Prop := ∃ X', PM w' s A X' ∧ Mvs w X X' ∧ Keeps X w w'

structure Face (PM : PMem) : Prop where
  keeps : ∀ {w w' : World} {s : Nat} {A : M8} {X S : Nat → Prop}, PM w s A X → Keeps S w w' → (∀ x, X x → ¬ S x) → PM w' s A X
  old : ∀ {w : World} {s : Nat} {A : M8} {X : Nat → Prop}, PM w s A X → ∀ x, X x → x < w.heap.size
  ok : ∀ {w : World} {s : Nat} {A : M8} {X : Nat → Prop}, PM w s A X → A.Ok
  get : ∀ {w : World} {s : Nat} {A : M8} {X : Nat → Prop}, PM w s A X → ∀ c k : Int, wfI k →
    Calls Try.prog 4 #[.pointer (some ⟨s, 0, none⟩), .int .i64 c, .int .i64 k] w fun e w' => ∃ ev, e = .returned (.tuple #[.int .i64 (mGet A c k).1, .bool (mGet A c k).2.1, ev]) ∧ ErrU w.heap.size w' ev (mGet A c k).2.2 (atC A c) ∧ Keeps (fun _ => False) w w'
  put : ∀ {w : World} {s : Nat} {A : M8} {X : Nat → Prop}, PM w s A X → ∀ c k v : Int, wfI k →
    Calls Try.prog 10 #[.pointer (some ⟨s, 0, none⟩), .int .i64 c, .int .i64 k, .int .i64 v] w fun e w' => ∃ ev a, e = .returned ev ∧ ErrU w.heap.size w' ev (mPut A c k v).2 a ∧ MDid PM w w' s (mPut A c k v).1 X
  del_ : ∀ {w : World} {s : Nat} {A : M8} {X : Nat → Prop}, PM w s A X → ∀ c k : Int, wfI k →
    Calls Try.prog 11 #[.pointer (some ⟨s, 0, none⟩), .int .i64 c, .int .i64 k] w fun e w' => ∃ ev a, e = .returned ev ∧ ErrU w.heap.size w' ev (mDel A c k).2 a ∧ MDid PM w w' s (mDel A c k).1 X
  ceil_ : ∀ {w : World} {s : Nat} {A : M8} {X : Nat → Prop}, PM w s A X → ∀ c k : Int,
    Calls Try.prog 5 #[.pointer (some ⟨s, 0, none⟩), .int .i64 c, .int .i64 k] w fun e w' => ∃ ev a, e = .returned (.tuple #[.int .i64 (mCeil A c k).1, .bool (mCeil A c k).2.1, ev]) ∧ ErrU w.heap.size w' ev (mCeil A c k).2.2 a ∧ Keeps (fun _ => False) w w'
  range_ : ∀ {w : World} {s : Nat} {A : M8} {X : Nat → Prop}, PM w s A X → ∀ c x y : Int,
    Calls Try.prog 7 #[.pointer (some ⟨s, 0, none⟩), .int .i64 c, .int .i64 x, .int .i64 y] w fun e w' => ∃ ev a, e = .returned (.tuple #[.int .i64 ((mRange A c x y).1 : Nat), ev]) ∧ ErrU w.heap.size w' ev (mRange A c x y).2 a ∧ Keeps (fun _ => False) w w'
  size_ : ∀ {w : World} {s : Nat} {A : M8} {X : Nat → Prop}, PM w s A X → ∀ c : Int, A.there c →
    Calls Try.prog 6 #[.pointer (some ⟨s, 0, none⟩), .int .i64 c] w fun e w' => e = .returned (.tuple #[.int .i64 ((A.col c).length : Nat), .nilIface]) ∧ Keeps (fun _ => False) w w'
  list_ : ∀ {w : World} {s : Nat} {A : M8} {X : Nat → Prop}, PM w s A X → ∀ c : Int, A.there c →
    Calls Try.prog 8 #[.pointer (some ⟨s, 0, none⟩), .int .i64 c] w fun e w' => ∃ u, e = .returned (.tuple #[u, .nilIface]) ∧ PRow w' u (A.col c) ∧ (∀ g, u.ownBlock = some g → w.heap.size ≤ g) ∧ Keeps (fun _ => False) w w'
  kinds_ : ∀ {w : World} {s : Nat} {A : M8} {X : Nat → Prop}, PM w s A X →
    Calls Try.prog 14 #[.pointer (some ⟨s, 0, none⟩)] w fun e w' => ∃ u, e = .returned u ∧ IRow w' u A.K ∧ (∀ g, u.ownBlock = some g → w.heap.size ≤ g) ∧ Keeps (fun _ => False) w w'
  copy_ : ∀ {w : World} {s : Nat} {A : M8} {X : Nat → Prop}, PM w s A X →
    Calls Try.prog 12 #[.pointer (some ⟨s, 0, none⟩)] w fun e w' => ∃ o Z, e = .returned (.pointer (some ⟨o, 0, none⟩)) ∧ PM w' o A Z ∧ (∀ x, Z x → w.heap.size ≤ x) ∧ Keeps (fun _ => False) w w'
  same_ : ∀ {w : World} {s o : Nat} {A B : M8} {X Z : Nat → Prop}, PM w s A X → PM w o B Z →
    Calls Try.prog 13 #[.pointer (some ⟨s, 0, none⟩), .pointer (some ⟨o, 0, none⟩)] w fun e w' => ∃ b, e = .returned (.bool b) ∧ (b = true ↔ A = B) ∧ Keeps (fun _ => False) w w'
  new_no : ∀ {w : World} {a : Option Addr} {n cap : Nat} {K : List Int}, IntL w a n K → (mNew K).1 = false →
    Calls Try.prog 26 #[.slice a n cap] w fun e w' => ∃ ev, e = .returned (.tuple #[.pointer none, ev]) ∧ ErrU w.heap.size w' ev (mNew K).2.1 ((mNew K).2.2 : Nat) ∧ Keeps (fun _ => False) w w'
  new_ : ∀ {w : World} {a : Option Addr} {n cap : Nat} {K : List Int}, IntL w a n K → (mNew K).1 = true →
    Calls Try.prog 26 #[.slice a n cap] w fun e w' => ∃ s X, e = .returned (.tuple #[.pointer (some ⟨s, 0, none⟩), .nilIface]) ∧ PM w' s (M8.made K) X ∧ (∀ x, X x → w.heap.size ≤ x) ∧ Keeps (fun _ => False) w w'
theorem Face.same {PM : PMem} {w w' : World} {s : Nat} {A : M8} {X : Nat → Prop} (F : Face PM) (h : PM w s A X) (k : Keeps (fun _ => False) w w') : PM w' s A X := F.keeps h k fun _ _ => id
end Go.Proofs.Ytnlogilbiifmiaa
