/-
  Two states of the program beside one another ('Pair8'), made since a world: what is done with one leaves the other.
-/
import Derived.Test.YtnlogilbiifmiaaDoorMoPlay
namespace Go.Proofs.YtnlogilbiifmiaaDoor
open Go.RowKit Go.Maps Go.Extern.Stop Go.Stop Go.Extern

def Pair8 (PM : PMem) (w0 w : World) (s : Nat) (A : M8) (o : Nat) (B : M8) : Prop := ∃ X Z, PM w s A X ∧ PM w o B Z ∧ (∀ x, X x → ¬ Z x) ∧ (∀ x, X x ∨ Z x → w0.heap.size ≤ x) ∧ Keeps (fun _ => False) w0 w

section
variable {PM : PMem} {w0 w w' : World} {s o : Nat} {A B C : M8}
theorem Pair8.same (F : Face PM) (h : Pair8 PM w0 w s A o B) (k : Keeps (fun _ => False) w w') : Pair8 PM w0 w' s A o B := by
  obtain ⟨X, Z, h1, h2, h3, h4, h5⟩ := h
  exact ⟨X, Z, F.same h1 k, F.same h2 k, h3, h4, h5.trans k fun _ _ => id⟩
theorem Pair8.symm (h : Pair8 PM w0 w s A o B) : Pair8 PM w0 w o B s A := by
  obtain ⟨X, Z, h1, h2, h3, h4, h5⟩ := h
  exact ⟨Z, X, h2, h1, fun x hz hx => h3 x hx hz, fun x hx => h4 x hx.symm, h5⟩
theorem Pair8.left (h : Pair8 PM w0 w s A o B) : On8 PM w0 w s A := by
  obtain ⟨X, Z, h1, h2, h3, h4, h5⟩ := h
  exact ⟨X, h1, fun x hx => h4 x (.inl hx), h5⟩
theorem Pair8.right (h : Pair8 PM w0 w s A o B) : On8 PM w0 w o B := h.symm.left
theorem Pair8.keeps (h : Pair8 PM w0 w s A o B) : Keeps (fun _ => False) w0 w := h.left.keeps
theorem Pair8.of {X Z : Nat → Prop} (F : Face PM) (h2 : PM w o B Z) (h3 : ∀ x, X x → ¬ Z x) (h4 : ∀ x, X x ∨ Z x → w0.heap.size ≤ x) (h5 : Keeps (fun _ => False) w0 w) (d : MDid PM w w' s C X) : Pair8 PM w0 w' s C o B := by
  obtain ⟨X', d1, d2, d3⟩ := d
  refine ⟨X', Z, d1, F.keeps h2 d3 fun x hz hx => h3 x hx hz, fun x hx hz => ?_, fun x hx => ?_, h5.trans d3 fun x hx e => absurd hx (Nat.not_lt.2 (h4 x (.inl e)))⟩
  · rcases d2 x hx with g | g
    · exact h3 x g hz
    · exact absurd (F.old h2 x hz) (Nat.not_lt.2 g)
  · rcases hx with hx | hx
    · rcases d2 x hx with g | g
      · exact h4 x (.inl g)
      · exact Nat.le_trans h5.size g
    · exact h4 x (.inr hx)

theorem copy_on8 (F : Face PM) (h : On8 PM w0 w s A) :
    Calls Tryd.prog 12 #[.pointer (some ⟨s, 0, none⟩)] w fun e w' => ∃ o, e = .returned (.pointer (some ⟨o, 0, none⟩)) ∧ Pair8 PM w0 w' s A o A := by
  obtain ⟨X, h1, h2, h3⟩ := h
  refine (F.copy_ h1).mono ?_
  rintro e w' ⟨o, Z, e1, e2, e3, e4⟩
  refine ⟨o, e1, X, Z, F.same h1 e4, e2, fun x hx hz => by have := F.old h1 x hx; have := e3 x hz; omega, fun x hx => ?_, h3.trans e4 fun _ _ => id⟩
  rcases hx with hx | hx
  · exact h2 x hx
  · exact Nat.le_trans h3.size (e3 x hx)
theorem put_pair8 (F : Face PM) (h : Pair8 PM w0 w s A o B) (c k v : Int) (hk : wfI k) {f : Nat} (e : mPut A c k v = (C, f)) :
    Calls Tryd.prog 17 #[.pointer (some ⟨s, 0, none⟩), .int .i64 c, .int .i64 k, .int .i64 v] w fun e w' => ∃ ev a, e = .returned ev ∧ ErrU w.heap.size w' ev f a ∧ Pair8 PM w0 w' s C o B := by
  obtain ⟨X, Z, h1, h2, h3, h4, h5⟩ := h
  have := F.put h1 c k v hk
  rw [e] at this
  exact this.mono fun e w' ⟨ev, a, e1, e2, e3⟩ => ⟨ev, a, e1, e2, Pair8.of F h2 h3 h4 h5 e3⟩
theorem del_pair8 (F : Face PM) (h : Pair8 PM w0 w s A o B) (c k : Int) (hk : wfI k) {f : Nat} (e : mDel A c k = (C, f)) :
    Calls Tryd.prog 21 #[.pointer (some ⟨s, 0, none⟩), .int .i64 c, .int .i64 k] w fun e w' => ∃ ev a, e = .returned ev ∧ ErrU w.heap.size w' ev f a ∧ Pair8 PM w0 w' s C o B := by
  obtain ⟨X, Z, h1, h2, h3, h4, h5⟩ := h
  have := F.del_ h1 c k hk
  rw [e] at this
  exact this.mono fun e w' ⟨ev, a, e1, e2, e3⟩ => ⟨ev, a, e1, e2, Pair8.of F h2 h3 h4 h5 e3⟩
theorem same_pair8 (F : Face PM) (h : Pair8 PM w0 w s A o B) :
    Calls Tryd.prog 18 #[.pointer (some ⟨s, 0, none⟩), .pointer (some ⟨o, 0, none⟩)] w fun e w' => ∃ b, e = .returned (.bool b) ∧ (b = true ↔ A = B) ∧ Keeps (fun _ => False) w w' := by
  obtain ⟨X, Z, h1, h2, h3, h4, h5⟩ := h
  exact F.same_ h1 h2
theorem list_on8 (F : Face PM) (h : On8 PM w0 w s A) (c : Int) (hc : A.there c) :
    Calls Tryd.prog 19 #[.pointer (some ⟨s, 0, none⟩), .int .i64 c] w fun e w' => ∃ u, e = .returned (.tuple #[u, .nilIface]) ∧ PRow w' u (A.col c) ∧ (∀ g, u.ownBlock = some g → w.heap.size ≤ g) ∧ Keeps (fun _ => False) w w' := by
  obtain ⟨X, h1, h2, h3⟩ := h
  exact F.list_ h1 c hc
end

/-! ### plainly -/
theorem mod_in {c n : Int} (h : 0 < n) (h9 : n ≤ 1000000) : ∃ k : Nat, (wrap64 (c.tmod n + n)).tmod n = (k : Int) ∧ (k : Int) < n := by
  have h1 : c.tmod n < n := Int.tmod_lt_of_pos c h
  have h2 : -n < c.tmod n := by
    have := Int.tmod_lt_of_pos (-c) h
    rw [Int.neg_tmod] at this
    omega
  have hw : wrap64 (c.tmod n + n) = c.tmod n + n := by
    generalize c.tmod n = x at *
    unfold wrap64
    omega
  rw [hw]
  have h3 := Int.tmod_nonneg n (a := c.tmod n + n) (by omega)
  have h4 := Int.tmod_lt_of_pos (c.tmod n + n) h
  exact ⟨((c.tmod n + n).tmod n).toNat, by omega, by omega⟩
theorem col_setC {A : M8} {c : Int} {W : Tl} (h : A.there c) (j : Int) (hj : 0 ≤ j) : (A.setC c W).col j = if j = c then W else A.col j := by
  unfold M8.col M8.setC
  simp only [List.getD_eq_getElem?_getD]
  by_cases e : j = c
  · subst e
    rw [if_pos rfl, List.getElem?_set_self (by have := h.2; omega)]
    rfl
  · rw [if_neg e, List.getElem?_set_ne (by have := h.1; omega)]
theorem there_setC {A : M8} {c j : Int} {W : Tl} : (A.setC c W).there j ↔ A.there j := by
  unfold M8.there M8.setC
  simp
theorem mGet_there {A : M8} {c : Int} (h : A.there c) (k : Int) : mGet A c k = ((look (A.col c) k).getD 0, (look (A.col c) k).isSome, 0) := by unfold mGet; rw [if_pos h]
end Go.Proofs.YtnlogilbiifmiaaDoor
