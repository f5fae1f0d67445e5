/-
  The place of an error (api.Place).
-/
import Derived.Test.YtpmbkeaimdeglaaDoorErU
import Derived.Test.YtpmbkeaimdeglaaDoorStPlace
namespace Go.Proofs.YtpmbkeaimdeglaaDoor
open Go.RowKit Go.Extern.Stop Go.Stop Go.Extern

/-- The place of an error. -/
theorem place_u {B : Nat} {w : World} {v : Value} {k : Nat} {a : Int} (h : ErrU B w v k a) (hg : Glob w) :
    Calls Tryd.prog 13 #[v] w fun e w' => e = .returned (.int .i64 a) ∧ Keeps (fun _ => False) w w' := by
  rcases h with ⟨_, rfl, rfl⟩ | ⟨_, _, rfl, rfl⟩ | ⟨_, _, p, _, rfl, h5⟩
  · exact place_nil w
  · exact place_errno _ w hg
  · exact place_fault p _ _ w hg h5
end Go.Proofs.YtpmbkeaimdeglaaDoor
