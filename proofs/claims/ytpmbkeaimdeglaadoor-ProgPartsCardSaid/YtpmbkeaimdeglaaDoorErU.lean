/-
  An error's value with its number and its place ('ErrU'): nil, an api.Errno, an *api.Fault of one; its number (concordlaw01.No), its place (api.Place). (As in the texts of sets.)
-/
import Derived.Test.YtpmbkeaimdeglaaDoorWdNo
import Derived.Test.YtpmbkeaimdeglaaDoorWdLib
import Derived.Test.YtpmbkeaimdeglaaDoorWdCell
import Derived.Lib.Hide
namespace Go.Proofs.YtpmbkeaimdeglaaDoor
open Go.RowKit Go.Extern.Stop Go.Stop Go.Extern

/-- An error's value, with its number and its place. B: a Fault lies from there on. -/
def ErrU (B : Nat) (w : World) (v : Value) (k : Nat) (at_ : Int) : Prop :=
  (k = 0 ∧ at_ = 0 ∧ v = .nilIface) ∨ (1 ≤ k ∧ k ≤ 17 ∧ at_ = 0 ∧ v = .iface 51 (.int .i64 k)) ∨ (1 ≤ k ∧ k ≤ 17 ∧ ∃ p, B ≤ p ∧ v = .iface 53 (.pointer (some ⟨p, 0, none⟩)) ∧ Whole w p 55 #[.int .i64 at_, .int .i64 k])

/-- The number of an error that a call answers. -/
theorem no_u {B : Nat} {w : World} {v : Value} {k : Nat} {at_ : Int} (h : ErrU B w v k at_) :
    Calls Tryd.prog 12 #[v] w fun e w' => e = .returned (.int .i64 (k : Nat)) ∧ w = w' := by
  rcases h with ⟨rfl, _, rfl⟩ | ⟨h1, h2, _, rfl⟩ | ⟨h1, h2, p, _, rfl, hw⟩
  · exact no_nil w
  · exact no_errno k h1 h2 w
  · exact no_fault p 0 k h1 h2 w (hw.at_ 1)

theorem ErrU.keeps {B : Nat} {w w' : World} {v : Value} {k : Nat} {a : Int} {S : Nat → Prop} (h : ErrU B w v k a) (K : Keeps S w w') (hS : ∀ x, B ≤ x → ¬ S x) : ErrU B w' v k a := by
  rcases h with h | h | ⟨h1, h2, p, h3, h4, h5⟩
  · exact .inl h
  · exact .inr (.inl h)
  · exact .inr (.inr ⟨h1, h2, p, h3, h4, h5.keeps K (hS p h3)⟩)
theorem ErrU.less {B C : Nat} {w : World} {v : Value} {k : Nat} {a : Int} (h : ErrU B w v k a) (hC : C ≤ B) : ErrU C w v k a := by
  rcases h with h | h | ⟨h1, h2, p, h3, h4, h5⟩
  · exact .inl h
  · exact .inr (.inl h)
  · exact .inr (.inr ⟨h1, h2, p, Nat.le_trans hC h3, h4, h5⟩)
theorem ErrU.same {B : Nat} {w w' : World} {v : Value} {k : Nat} {a : Int} (h : ErrU B w v k a) (K : Keeps (fun _ => False) w w') : ErrU B w' v k a := h.keeps K fun _ _ => id
theorem ErrU.nil {B : Nat} {w : World} {v : Value} {a : Int} (h : ErrU B w v 0 a) : v = .nilIface := by
  rcases h with ⟨_, _, h⟩ | ⟨h, _⟩ | ⟨h, _⟩
  · exact h
  · omega
  · omega
end Go.Proofs.YtpmbkeaimdeglaaDoor
