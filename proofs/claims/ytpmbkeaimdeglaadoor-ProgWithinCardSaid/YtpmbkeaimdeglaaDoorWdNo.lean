/-
  The number of an error (concordlaw01.No): of nil 0; of an api.Errno k, 1 to 17, k; of a pointer to an api.Fault with such an error its number. The world stays as it was.
-/
import Derived.Test.YtpmbkeaimdeglaaDoorWdIs
import Derived.LoopTactic
import Derived.Deep.RegionWith
namespace Go.Proofs.YtpmbkeaimdeglaaDoor
open Go.RowKit Go.Extern.Stop Go.Stop Go.Extern

theorem no_nil (w : World) :
    Calls Tryd.prog 12 #[.nilIface] w fun e w' => e = .returned (.int .i64 0) ∧ w = w' := by
  go_enter Tryd.func12, Tryd.ntmps12
  go_wp2
  go_ret
  exact ⟨rfl, rfl⟩

theorem no_errno (k : Nat) (h1 : 1 ≤ k) (h2 : k ≤ 17) (w : World) :
    Calls Tryd.prog 12 #[.iface 51 (.int .i64 k)] w fun e w' => e = .returned (.int .i64 k) ∧ w = w' := by
  go_enter Tryd.func12, Tryd.ntmps12
  go_wp2
  go_loop [3] (fun i => ∃ m : Nat, 1 ≤ m ∧ m ≤ k ∧ i = .int .i64 m) (fun i => 20 - (intOf i).toNat)
  case atStart => exact ⟨1, by omega, by omega, rfl⟩
  case round =>
    obtain ⟨m, hm1, hm2, rfl⟩ := hrel
    by_cases hkm : k = m
    · subst hkm
      have hb : ((k : Int) == (k : Int)) = true := by simp
      go_wp2_with (go_at_call 31; refine (is_errno _ _ _).mono ?_; rintro e w' ⟨rfl, rfl⟩)
      go_ret
      exact ⟨rfl, rfl⟩
    · have hb : ((k : Int) == (m : Int)) = false := by simp; omega
      go_wp2_with (go_at_call 31; refine (is_errno _ _ _).mono ?_; rintro e w' ⟨rfl, rfl⟩)
      go_round
      case rel => exact ⟨m + 1, by omega, by omega, by go_num⟩
      case measure => simp [intOf]; omega

theorem no_fault (p off : Nat) (k : Nat) (h1 : 1 ≤ k) (h2 : k ≤ 17) (w : World) (hc : w.cell? ⟨p, off + 1, none⟩ = some (.int .i64 k)) :
    Calls Tryd.prog 12 #[.iface 53 (.pointer (some ⟨p, off, none⟩))] w fun e w' => e = .returned (.int .i64 k) ∧ w = w' := by
  go_enter Tryd.func12, Tryd.ntmps12
  go_wp2
  go_loop [3] (fun i => ∃ m : Nat, 1 ≤ m ∧ m ≤ k ∧ i = .int .i64 m) (fun i => 20 - (intOf i).toNat)
  case atStart => exact ⟨1, by omega, by omega, rfl⟩
  case round =>
    obtain ⟨m, hm1, hm2, rfl⟩ := hrel
    by_cases hkm : k = m
    · subst hkm
      have hb : ((k : Int) == (k : Int)) = true := by simp
      go_wp2_with (go_at_call 31; refine (is_fault _ _ _ _ _ hc).mono ?_; rintro e w' ⟨rfl, rfl⟩)
      go_ret
      exact ⟨rfl, rfl⟩
    · have hb : ((k : Int) == (m : Int)) = false := by simp; omega
      go_wp2_with (go_at_call 31; refine (is_fault _ _ _ _ _ hc).mono ?_; rintro e w' ⟨rfl, rfl⟩)
      go_round
      case rel => exact ⟨m + 1, by omega, by omega, by go_num⟩
      case measure => simp [intOf]; omega
end Go.Proofs.YtpmbkeaimdeglaaDoor
