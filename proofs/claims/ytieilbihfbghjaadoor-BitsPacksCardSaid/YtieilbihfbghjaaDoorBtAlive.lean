/-
  concordlaw03.alive returns true and leaves all as it was, where the library's table holds its numbers.
-/
import Derived.Test.YtieilbihfbghjaaDoorBtTall
namespace Go.Proofs.YtieilbihfbghjaaDoor
open Go.RowKit

theorem al_hash (w : World) : Calls Tryd.prog 9 #[.int .i64 1] w fun e w' => e = .returned (.int .u32 2654435769) ∧ w = w' := by
  have h := bt_hash 1 w
  rwa [show hashI 1 = 2654435769 by decide] at h
theorem al_slot (w : World) : Calls Tryd.prog 11 #[.int .u32 2654435769, .int .i64 0] w fun e w' => e = .returned (.int .i64 25) ∧ w = w' := by
  have h := bt_slot 2654435769 0 (by decide) w
  rwa [show ((2654435769 / 2 ^ (5 * lvl 0) % 32 : Nat) : Int) = 25 by decide] at h
theorem tz_eight : Tz 8 3 := ⟨by decide, by decide, by decide⟩
theorem al_tall (w : World) (hg : Glob w) : Calls Tryd.prog 21 #[.int .u64 8, .int .i64 9] w fun e w' => e = .returned (.int .i64 4) ∧ w = w' := by
  have h := bt_tall 8 3 9 tz_eight (by decide) w hg
  rwa [show tallI 3 9 = 4 by decide] at h
theorem al_has (w : World) : Calls Tryd.prog 14 #[.int .u32 6, .int .i64 1] w fun e w' => e = .returned (.bool true) ∧ w = w' :=
  bt_has 6 1 true (by decide) (by decide) w

theorem alive_any (w : World) (hg : Glob w) :
    Calls Tryd.prog 13 #[] w fun e w' => e = .returned (.bool true) ∧ w = w' := by
  have G := Lib.hid hg
  clear hg
  go_enter Tryd.func13, Tryd.ntmps13
  go_wp2_with (first
    | (go_at_call 9; refine (al_hash _).mono ?_; rintro e w' ⟨rfl, rfl⟩)
    | (go_at_call 11; refine (al_slot _).mono ?_; rintro e w' ⟨rfl, rfl⟩)
    | (go_at_call 21; refine (al_tall _ G.out).mono ?_; rintro e w' ⟨rfl, rfl⟩)
    | (go_at_call 14; refine (al_has _).mono ?_; rintro e w' ⟨rfl, rfl⟩))
  go_ret
  exact ⟨rfl, rfl⟩
end Go.Proofs.YtieilbihfbghjaaDoor
