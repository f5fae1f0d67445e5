/-
  words: check and none, by contract: of nil ErrNil; of an arena with words nothing for a place that is there, and a Fault with ErrRange for one that is not.
-/
import Derived.Test.YtenhmficiegpiaaGreatDoorWdIs
import Derived.Test.YtenhmficiegpiaaGreatDoorWdLib
import Derived.LoopTactic
import Derived.Deep.RegionWith
import Derived.Outline
namespace Go.Proofs.YtenhmficiegpiaaGreatDoor
open Go.RowKit Go.Extern.Stop Go.Stop Go.Extern

theorem check_nil (i : Int) (w : World) :
    Calls Tryz.prog 75 #[.pointer none, .int .i64 i] w fun e w' => e = .returned (.iface 71 (.int .i64 1)) ∧ w = w' := by
  go_enter Tryz.func75, Tryz.ntmps75
  go_wp2
  go_ret
  exact ⟨rfl, rfl⟩

theorem check_in (a : Nat) (s : Addr) (n c i : Nat) (hi : i < n) (_hn : n ≤ 16384) (w : World) (hc : w.cell? ⟨a, 0, none⟩ = some (.slice (some s) n c)) :
    Calls Tryz.prog 75 #[.pointer (some ⟨a, 0, none⟩), .int .i64 i] w fun e w' => e = .returned .nilIface ∧ w = w' := by
  have h0 : ((n : Int) == 0) = false := by simp; omega
  have h1 : ¬ ((i : Int) < 0) := by omega
  have h2 : ¬ ((n : Int) ≤ (i : Int)) := by omega
  go_enter Tryz.func75, Tryz.ntmps75
  go_wp2
  go_ret
  exact ⟨rfl, rfl⟩

theorem check_out (a : Nat) (s : Addr) (n c : Nat) (i : Int) (h0 : 0 < n) (hi : i < 0 ∨ (n : Int) ≤ i) (hn : n ≤ 16384) (w : World) (hc : w.cell? ⟨a, 0, none⟩ = some (.slice (some s) n c)) :
    Calls Tryz.prog 75 #[.pointer (some ⟨a, 0, none⟩), .int .i64 i] w fun e w' => e = .returned (.iface 96 (.pointer (some ⟨w.heap.size, 0, none⟩))) ∧ w.alloc (.cells #[.int .i64 i, .int .i64 3] 99) = w' := by
  have h1 : ((n : Int) == 0) = false := by simp; omega
  by_cases h2 : i < 0
  · clear hi
    go_enter Tryz.func75, Tryz.ntmps75
    go_wp2
    go_ret
    exact ⟨rfl, rfl⟩
  · have h3 : (n : Int) ≤ i := by omega
    clear hi
    go_enter Tryz.func75, Tryz.ntmps75
    go_wp2
    go_ret
    exact ⟨rfl, rfl⟩

theorem none_nil (w : World) :
    Calls Tryz.prog 57 #[.pointer none] w fun e w' => e = .returned (.bool true) ∧ w = w' := by
  go_enter Tryz.func57, Tryz.ntmps57
  go_wp2_with (first | (go_at_call 75; refine (check_nil _ _).mono ?_; rintro e w' ⟨rfl, rfl⟩) | (go_at_call 24; refine (is_errno _ _ _).mono ?_; rintro e w' ⟨rfl, rfl⟩))
  go_ret
  exact ⟨rfl, rfl⟩

theorem none_there (a : Nat) (s : Addr) (n c : Nat) (h0 : 0 < n) (hn : n ≤ 16384) (w : World) (hc : w.cell? ⟨a, 0, none⟩ = some (.slice (some s) n c)) :
    Calls Tryz.prog 57 #[.pointer (some ⟨a, 0, none⟩)] w fun e w' => e = .returned (.bool false) ∧ w = w' := by
  go_enter Tryz.func57, Tryz.ntmps57
  go_wp2_with (first | (go_at_call 75; refine (check_in a s n c 0 h0 hn _ hc).mono ?_; rintro e w' ⟨rfl, rfl⟩) | (go_at_call 24; refine (is_nil _ _).mono ?_; rintro e w' ⟨rfl, rfl⟩))
  go_ret
  exact ⟨rfl, rfl⟩
end Go.Proofs.YtenhmficiegpiaaGreatDoor
