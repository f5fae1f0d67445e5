/-
  The number of an error (concordlaw01.No): of nil 0, of a refused Meta 2. Nothing that was there has changed.
-/
import Derived.Test.YtieilbihfbghjaaDoorBtIs
import Derived.LoopTactic
import Derived.Deep.RegionWith
import Derived.Lib.Hide
namespace Go.Proofs.YtieilbihfbghjaaDoor
open Go.RowKit Go.Extern.Stop Go.Stop Go.Extern

theorem no_nil (w : World) :
    Calls Tryd.prog 25 #[.nilIface] w fun e w' => e = .returned (.int .i64 0) ∧ w = w' := by
  go_enter Tryd.func25, Tryd.ntmps25
  go_wp2
  go_ret
  exact ⟨rfl, rfl⟩

set_option maxHeartbeats 1000000 in
theorem no_refused (s : ByteArray) (w : World) :
    Calls Tryd.prog 25 #[.iface 51 (.agg #[.string s, .int .i64 2])] w fun e w' => e = .returned (.int .i64 2) ∧ Keeps (fun _ => False) w w' := by
  go_enter Tryd.func25, Tryd.ntmps25
  go_wp2
  go_loopw [3] (fun i wr => ∃ m : Nat, 1 ≤ m ∧ m ≤ 2 ∧ i = .int .i64 m ∧ Keeps (fun _ => False) w wr) (fun i _ => 20 - (intOf i).toNat)
  case atStart => exact ⟨1, by omega, by omega, rfl, Keeps.refl _ _⟩
  case round =>
    obtain ⟨m, hm1, hm2, rfl, hK⟩ := hrel
    have k := Lib.hid hK
    clear hK
    by_cases hkm : m = 2
    · subst hkm
      have hb : ((2 : Int) == 2) = true := by decide
      go_wp2_with (go_at_call 34; refine (is_refused s 2 2 _).mono ?_; rintro e w1 ⟨rfl, hK⟩; have k1 := Lib.hid hK; clear hK)
      go_ret
      exact ⟨rfl, k.out.trans_ k1.out⟩
    · have e1 : m = 1 := by omega
      subst e1
      go_wp2_with (go_at_call 34; refine (is_refused s 2 1 _).mono ?_; rintro e w1 ⟨rfl, hK⟩; have k1 := Lib.hid hK; clear hK)
      go_roundw
      case rel => exact ⟨2, by omega, by omega, by go_num, k.out.trans_ k1.out⟩
      case measure => simp [intOf]
end Go.Proofs.YtieilbihfbghjaaDoor
