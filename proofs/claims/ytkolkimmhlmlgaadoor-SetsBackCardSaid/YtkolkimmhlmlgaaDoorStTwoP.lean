/-
  Sets and the document's sets, made since a world, each in its own state, beside which something else is kept ('TwoP'); do and the calls of the sets.
-/
import Derived.Test.YtkolkimmhlmlgaaDoorStKept
namespace Go.Proofs.YtkolkimmhlmlgaaDoor
open Go.RowKit Go.Maps Go.Extern.Stop Go.Stop Go.Extern

structure TwoQ (w0 w : World) (s r : Nat) (A C : AS) (P : World → Prop) (X Y Z : Nat → Prop) : Prop where
  ps : PS w s A X
  rs : RS w r C Y
  ok : C.Ok
  ap : ∀ x, X x → ¬ Y x
  apart : ∀ x, Z x → ¬ (X x ∨ Y x)
  old : ∀ x, Z x → x < w.heap.size
  low : ∀ x, x < w0.heap.size → Z x
  keeps : Keeps (fun _ => False) w0 w
  p : P w
  st : Stable Z P

def TwoP (w0 w : World) (s r : Nat) (A C : AS) (P : World → Prop) : Prop := ∃ X Y Z, TwoQ w0 w s r A C P X Y Z

section
variable {w0 w w' : World} {s r : Nat} {A B C D : AS} {P : World → Prop}

theorem TwoP.keeps (h : TwoP w0 w s r A C P) : Keeps (fun _ => False) w0 w := by obtain ⟨X, Y, Z, h⟩ := h; exact h.keeps
theorem TwoP.on (h : TwoP w0 w s r A C P) : OnP w0 w s A P := by
  obtain ⟨X, Y, Z, h⟩ := h
  exact ⟨X, Z, ⟨h.ps, fun x hz hx => h.apart x hz (.inl hx), h.old, h.low, h.keeps, h.p, h.st⟩⟩
theorem TwoP.same (h : TwoP w0 w s r A C P) (k : Keeps (fun _ => False) w w') : TwoP w0 w' s r A C P := by
  obtain ⟨X, Y, Z, h⟩ := h
  exact ⟨X, Y, Z, ⟨h.ps.same k, h.rs.same k, h.ok, h.ap, h.apart, fun x hz => Nat.lt_of_lt_of_le (h.old x hz) k.size, h.low, h.keeps.trans k fun _ _ => id, h.st _ _ _ h.p k fun _ _ => id, h.st⟩⟩

/-- The document's sets are made, with nothing in them. -/
theorem OnP.two (h : OnP w0 w s A P) : TwoP w0 (w.alloc (.cells #[.slice none 0 0, .slice none 0 0, .slice none 0 0] 32)) s w.heap.size A AS.none P := by
  obtain ⟨X, Z, h⟩ := h
  have k : Keeps (fun _ => False) w (w.alloc (.cells #[.slice none 0 0, .slice none 0 0, .slice none 0 0] 32)) := (Keeps.refl _ w).alloc _
  exact ⟨X, fun y => y = w.heap.size, Z, {
    ps := h.ps.same k
    rs := ⟨_, _, _, [], {
      blk := Whole.made _ _ _
      reads := World.ownsRow_nil ..
      writes := World.ownsRow_nil ..
      marks := World.ownsRow_nil ..
      len := rfl
      each := fun i v m hv => by simp at hv
      inY := ⟨rfl, fun g hg => by simp [Value.ownBlock] at hg, fun g hg => by simp [Value.ownBlock] at hg, fun g hg => by simp [Value.ownBlock] at hg, fun v hv => by cases hv⟩
      old := fun y hy => by simp; omega }⟩
    ok := none_ok
    ap := fun x hx e => by have := h.ps.old x hx; omega
    apart := fun x hz hx => by
      rcases hx with hx | hx
      · exact h.apart x hz hx
      · have := h.old x hz; omega
    old := fun x hz => Nat.lt_of_lt_of_le (h.old x hz) k.size
    low := h.low
    keeps := h.keeps.trans k fun _ _ => id
    p := h.st _ _ _ h.p k fun _ _ => id
    st := h.st }⟩

theorem do_p (h : TwoP w0 w s r A C P) (hg : Glob w0) (a : Act7) (hc : wfU a.c) :
    Calls Tryd.prog 8 #[.pointer (some ⟨s, 0, none⟩), .pointer (some ⟨r, 0, none⟩), .agg #[.int .i64 a.k, .int .u64 a.c, .int .u64 a.v, .int .i64 a.n]] w fun e w' => ∃ b, e = .returned (.bool b) ∧ TwoP w0 w' s r (aDo A a) (aDo C a) P := by
  obtain ⟨X, Y, Z, h⟩ := h
  refine (do_gen h.ps h.rs h.ok h.ap (hg.keeps h.keeps id) (fun e => h.apart _ (h.low _ hg.lt) e) a hc).mono ?_
  rintro e w' ⟨b, e1, _, X', Y', a1, a2, a3, a4, a5, a6⟩
  refine ⟨b, e1, X', Y', Z, {
    ps := a1
    rs := a2
    ok := aDo_ok h.ok a
    ap := a5
    apart := fun x hz hx => by
      rcases hx with hx | hx
      · rcases a3 x hx with g | g
        · exact h.apart x hz (.inl g)
        · exact absurd (h.old x hz) (Nat.not_lt.2 g)
      · rcases a4 x hx with g | g
        · exact h.apart x hz (.inr g)
        · exact absurd (h.old x hz) (Nat.not_lt.2 g)
    old := fun x hz => Nat.lt_of_lt_of_le (h.old x hz) a6.size
    low := h.low
    keeps := h.keeps.trans a6 fun x hx e => h.apart x (h.low x hx) e
    p := h.st _ _ _ h.p a6 fun x hz => h.apart x hz
    st := h.st }⟩
end

/-! ### plain: what a mark leads back to stays -/
/-- A call leaves the first m marks, and only adds to what was read. -/
theorem aDo_first {A : AS} {a : Act7} {m : Nat} (hm : m ≤ A.M.length) (h : (a.k = 4 ∨ a.k = 5) → (m : Int) < a.n) : (aDo A a).M.take m = A.M.take m ∧ m ≤ (aDo A a).M.length := by
  unfold aDo
  split
  · unfold aRead
    split
    · split <;> exact ⟨rfl, hm⟩
    · split <;> exact ⟨rfl, hm⟩
  · split
    · rw [(aWrite_MR A a.c a.v).1]; exact ⟨rfl, hm⟩
    · split
      · rcases aMark_cases A with ⟨e, _⟩ | ⟨e, _⟩
        · rw [e]; exact ⟨rfl, hm⟩
        · rw [e]
          refine ⟨?_, by simp; omega⟩
          show (A.M ++ [A.W]).take m = A.M.take m
          rw [List.take_append_of_le_length hm]
      · split
        · rename_i h4
          have hn := h (.inl h4)
          unfold aKeep
          split
          · exact ⟨rfl, hm⟩
          · refine ⟨?_, by simp; omega⟩
            show (A.M.take (a.n.toNat - 1)).take m = A.M.take m
            rw [List.take_take, Nat.min_eq_left (by omega)]
        · split
          · rename_i h5
            have hn := h (.inr h5)
            unfold aBack
            split
            · exact ⟨rfl, hm⟩
            · refine ⟨?_, by simp; omega⟩
              show (A.M.take (a.n.toNat - 1)).take m = A.M.take m
              rw [List.take_take, Nat.min_eq_left (by omega)]
          · exact ⟨rfl, hm⟩
end Go.Proofs.YtkolkimmhlmlgaaDoor
