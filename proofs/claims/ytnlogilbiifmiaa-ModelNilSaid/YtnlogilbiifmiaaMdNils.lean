/-
  The calls of a state that is none, by contract (those that the other texts don't have).
-/
import Derived.Test.YtnlogilbiifmiaaMdFace
namespace Go.Proofs.Ytnlogilbiifmiaa
open Go.RowKit Go.Maps Go.Extern.Stop Go.Stop Go.Extern

/-- ErrNil. -/
abbrev e1V : Value := .iface 53 (.int .i64 1)

theorem get_nil (c k : Int) (w : World) :
    Calls Try.prog 4 #[.pointer none, .int .i64 c, .int .i64 k] w fun e w' => e = .returned (.tuple #[.int .i64 0, .bool false, e1V]) ∧ w = w' := by
  go_enter Try.func4, Try.ntmps4
  go_wp2_with (go_at_call 16; refine (find_nil _ _).mono ?_; rintro e w' ⟨rfl, rfl⟩)
  go_ret3
  exact ⟨rfl, rfl⟩
theorem put_nil (c k v : Int) (w : World) :
    Calls Try.prog 10 #[.pointer none, .int .i64 c, .int .i64 k, .int .i64 v] w fun e w' => e = .returned e1V ∧ w = w' := by
  go_enter Try.func10, Try.ntmps10
  go_wp2_with (go_at_call 16; refine (find_nil _ _).mono ?_; rintro e w' ⟨rfl, rfl⟩)
  go_ret
  exact ⟨rfl, rfl⟩
theorem del_nil (c k : Int) (w : World) :
    Calls Try.prog 11 #[.pointer none, .int .i64 c, .int .i64 k] w fun e w' => e = .returned e1V ∧ w = w' := by
  go_enter Try.func11, Try.ntmps11
  go_wp2_with (go_at_call 16; refine (find_nil _ _).mono ?_; rintro e w' ⟨rfl, rfl⟩)
  go_ret
  exact ⟨rfl, rfl⟩
theorem size_nil (c : Int) (w : World) :
    Calls Try.prog 6 #[.pointer none, .int .i64 c] w fun e w' => e = .returned (.tuple #[.int .i64 0, e1V]) ∧ w = w' := by
  go_enter Try.func6, Try.ntmps6
  go_wp2_with (go_at_call 16; refine (find_nil _ _).mono ?_; rintro e w' ⟨rfl, rfl⟩)
  go_ret2
  exact ⟨rfl, rfl⟩
theorem ceil_nil (c k : Int) (w : World) :
    Calls Try.prog 5 #[.pointer none, .int .i64 c, .int .i64 k] w fun e w' => e = .returned (.tuple #[.int .i64 0, .bool false, e1V]) ∧ w = w' := by
  go_enter Try.func5, Try.ntmps5
  go_wp2_with (go_at_call 17; refine (ordered_nil _ _).mono ?_; rintro e w' ⟨rfl, rfl⟩)
  go_ret3
  exact ⟨rfl, rfl⟩
theorem range_nil (c x y : Int) (w : World) :
    Calls Try.prog 7 #[.pointer none, .int .i64 c, .int .i64 x, .int .i64 y] w fun e w' => e = .returned (.tuple #[.int .i64 0, e1V]) ∧ w = w' := by
  go_enter Try.func7, Try.ntmps7
  go_wp2_with (go_at_call 17; refine (ordered_nil _ _).mono ?_; rintro e w' ⟨rfl, rfl⟩)
  go_ret2
  exact ⟨rfl, rfl⟩
theorem list_nil (c : Int) (w : World) :
    Calls Try.prog 8 #[.pointer none, .int .i64 c] w fun e w' => e = .returned (.tuple #[.slice none 0 0, e1V]) ∧ w = w' := by
  go_enter Try.func8, Try.ntmps8
  go_wp2_with (go_at_call 16; refine (find_nil _ _).mono ?_; rintro e w' ⟨rfl, rfl⟩)
  go_ret2
  exact ⟨rfl, rfl⟩
end Go.Proofs.Ytnlogilbiifmiaa
