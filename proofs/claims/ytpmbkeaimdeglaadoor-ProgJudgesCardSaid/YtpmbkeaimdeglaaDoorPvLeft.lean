/-
  What is still to be gone over of a transaction, plainly: forests, the next first, each with how deep it lies.
-/
import Derived.Test.YtpmbkeaimdeglaaDoorPgPlain
namespace Go.Proofs.YtpmbkeaimdeglaaDoor

abbrev Lf := List (Fo × Nat)
def todo (s : Lf) : List Ln := s.flatMap fun x => lin x.1 x.2
/-- Every forest has a statement. -/
def Full (s : Lf) : Prop := ∀ x ∈ s, x.1 ≠ .nil
def pushL (F : Fo) (d : Nat) (s : Lf) : Lf := match F with
  | .nil => s
  | .cons s' B E R => (.cons s' B E R, d) :: s

theorem todo_cons (F : Fo) (d : Nat) (s : Lf) : todo ((F, d) :: s) = lin F d ++ todo s := rfl
theorem todo_push (F : Fo) (d : Nat) (s : Lf) : todo (pushL F d s) = lin F d ++ todo s := by
  cases F with
  | nil => rfl
  | cons s' B E R => rfl
theorem full_push {F : Fo} {d : Nat} {s : Lf} (h : Full s) : Full (pushL F d s) := by
  cases F with
  | nil => exact h
  | cons s' B E R =>
    intro x hx
    rcases List.mem_cons.1 hx with rfl | hx
    · intro e; cases e
    · exact h x hx
theorem Full.tail {x : Fo × Nat} {s : Lf} (h : Full (x :: s)) : Full s := fun y hy => h y (List.mem_cons_of_mem _ hy)
theorem lin_pos {F : Fo} (d : Nat) (h : F ≠ .nil) : 0 < (lin F d).length := by
  cases F with
  | nil => exact absurd rfl h
  | cons s B E R => simp [lin]
theorem full_len : ∀ {s : Lf}, Full s → s.length ≤ (todo s).length
  | [], _ => Nat.le_refl _
  | (F, d) :: s, h => by
    have h1 := full_len h.tail
    have h2 := lin_pos d (h (F, d) (by simp))
    rw [todo_cons, List.length_append, List.length_cons]
    simp only at h2
    omega
theorem full_nil {s : Lf} (h : Full s) (h0 : todo s = []) : s = [] := by
  have := full_len h
  rw [h0] at this
  exact List.eq_nil_of_length_eq_zero (Nat.le_zero.1 this)
/-- The next one is taken. -/
theorem todo_next (st : St7) (B E R : Fo) (d : Nat) (t : Lf) : todo ((.cons st B E R, d) :: t) = ⟨st, B, E, d⟩ :: todo (pushL B (d + 1) (pushL E (d + 1) (pushL R d t))) := by
  rw [todo_cons, todo_push, todo_push, todo_push]
  simp [lin]
theorem pushL_len (F : Fo) (d : Nat) (s : Lf) : (pushL F d s).length ≤ s.length + 1 := by
  cases F <;> simp [pushL]
/-- The last of a forest that has one. -/
theorem fo_rest {R : Fo} : R.len = 0 ↔ R = .nil := by
  constructor
  · intro h
    have : R.items = [] := List.eq_nil_of_length_eq_zero h
    rw [← Fo.of_items R, this]; rfl
  · rintro rfl; rfl
end Go.Proofs.YtpmbkeaimdeglaaDoor
