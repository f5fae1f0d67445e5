/-
  thread: the calls of a Ctx and of a thread that are none, by contract.
-/
import Derived.Test.YtipogkgolbmgkaaDoorThAlive
namespace Go.Proofs.YtipogkgolbmgkaaDoor
open Go.RowKit Go.Extern.Stop Go.Stop Go.Extern

theorem cload_nil (r i : Int) (w : World) :
    Calls Tryd.prog 5 #[.pointer none, .int .u64 r, .int .i64 i] w fun e w' => e = .returned (.tuple #[.int .u64 0, .iface 53 (.int .i64 1)]) ∧ Keeps (fun _ => False) w w' := by
  have hmf := make_func
  go_enter Tryd.func5, Tryd.ntmps5
  go_wp2_with fail
  refine (caccess_nil _ _).mono ?_
  rintro e W2 ⟨rfl, hK⟩
  have K2 := Lib.hid (((Keeps.refl (fun _ => False) w).alloc _).alloc _ |>.trans_ hK)
  clear hK
  go_wp2_with fail
  go_ret2
  exact ⟨rfl, K2.out.alloc _⟩
theorem cstore_nil (r i x : Int) (w : World) :
    Calls Tryd.prog 18 #[.pointer none, .int .u64 r, .int .i64 i, .int .u64 x] w fun e w' => e = .returned (.iface 53 (.int .i64 1)) ∧ Keeps (fun _ => False) w w' := by
  have hmf := make_func
  go_enter Tryd.func18, Tryd.ntmps18
  go_wp2_with fail
  refine (caccess_nil _ _).mono ?_
  rintro e W2 ⟨rfl, hK⟩
  have K2 := Lib.hid ((((Keeps.refl (fun _ => False) w).alloc _).alloc _).alloc _ |>.trans_ hK)
  clear hK
  go_wp2_with fail
  go_ret
  exact ⟨rfl, K2.out.alloc _⟩
theorem ccas_nil (r i x y : Int) (w : World) :
    Calls Tryd.prog 6 #[.pointer none, .int .u64 r, .int .i64 i, .int .u64 x, .int .u64 y] w fun e w' => e = .returned (.tuple #[.bool false, .iface 53 (.int .i64 1)]) ∧ Keeps (fun _ => False) w w' := by
  have hmf := make_func
  go_enter Tryd.func6, Tryd.ntmps6
  go_wp2_with fail
  refine (caccess_nil _ _).mono ?_
  rintro e W2 ⟨rfl, hK⟩
  have K2 := Lib.hid (((((Keeps.refl (fun _ => False) w).alloc _).alloc _).alloc _).alloc _ |>.trans_ hK)
  clear hK
  go_wp2_with fail
  go_ret2
  exact ⟨rfl, K2.out.alloc _⟩
theorem calloc_nil (i : Int) (w : World) :
    Calls Tryd.prog 7 #[.pointer none, .int .i64 i] w fun e w' => e = .returned (.tuple #[.int .u64 0, .iface 53 (.int .i64 1)]) ∧ Keeps (fun _ => False) w w' := by
  have hmf := make_func
  go_enter Tryd.func7, Tryd.ntmps7
  go_wp2_with fail
  refine (caccess_nil _ _).mono ?_
  rintro e W2 ⟨rfl, hK⟩
  have K2 := Lib.hid ((Keeps.refl (fun _ => False) w).alloc _ |>.trans_ hK)
  clear hK
  go_wp2_with fail
  go_ret2
  exact ⟨rfl, K2.out.alloc _⟩
theorem cfree_nil (r : Int) (w : World) :
    Calls Tryd.prog 19 #[.pointer none, .int .u64 r] w fun e w' => e = .returned (.iface 53 (.int .i64 1)) ∧ Keeps (fun _ => False) w w' := by
  have hmf := make_func
  go_enter Tryd.func19, Tryd.ntmps19
  go_wp2_with fail
  refine (caccess_nil _ _).mono ?_
  rintro e W2 ⟨rfl, hK⟩
  have K2 := Lib.hid ((Keeps.refl (fun _ => False) w).alloc _ |>.trans_ hK)
  clear hK
  go_wp2_with fail
  go_ret
  exact ⟨rfl, K2.out.alloc _⟩
theorem cleft_nil (w : World) :
    Calls Tryd.prog 20 #[.pointer none] w fun e w' => e = .returned (.int .i64 0) ∧ w = w' := by
  go_enter Tryd.func20, Tryd.ntmps20
  go_wp2_with (go_at_call 44; refine (cnone_nil _).mono ?_; rintro e w' ⟨rfl, rfl⟩)
  go_ret
  exact ⟨rfl, rfl⟩
theorem tstep_nil (w : World) :
    Calls Tryd.prog 11 #[.pointer none] w fun e w' => e = .returned (.iface 53 (.int .i64 1)) ∧ w = w' := by
  go_enter Tryd.func11, Tryd.ntmps11
  go_wp2_with (go_at_call 35; refine (tnone_nil _).mono ?_; rintro e w' ⟨rfl, rfl⟩)
  go_ret
  exact ⟨rfl, rfl⟩
theorem trun_nil (n : Int) (w : World) :
    Calls Tryd.prog 12 #[.pointer none, .int .i64 n] w fun e w' => e = .returned (.iface 53 (.int .i64 1)) ∧ w = w' := by
  go_enter Tryd.func12, Tryd.ntmps12
  go_wp2_with (go_at_call 35; refine (tnone_nil _).mono ?_; rintro e w' ⟨rfl, rfl⟩)
  go_ret
  exact ⟨rfl, rfl⟩
theorem terr_nil (w : World) :
    Calls Tryd.prog 14 #[.pointer none] w fun e w' => e = .returned .nilIface ∧ w = w' := by
  go_enter Tryd.func14, Tryd.ntmps14
  go_wp2_with (go_at_call 35; refine (tnone_nil _).mono ?_; rintro e w' ⟨rfl, rfl⟩)
  go_ret
  exact ⟨rfl, rfl⟩
theorem tround_nil (w : World) :
    Calls Tryd.prog 15 #[.pointer none] w fun e w' => e = .returned (.int .i64 0) ∧ w = w' := by
  go_enter Tryd.func15, Tryd.ntmps15
  go_wp2_with (go_at_call 35; refine (tnone_nil _).mono ?_; rintro e w' ⟨rfl, rfl⟩)
  go_ret
  exact ⟨rfl, rfl⟩
theorem tsteps_nil (w : World) :
    Calls Tryd.prog 16 #[.pointer none] w fun e w' => e = .returned (.int .i64 0) ∧ w = w' := by
  go_enter Tryd.func16, Tryd.ntmps16
  go_wp2_with (go_at_call 35; refine (tnone_nil _).mono ?_; rintro e w' ⟨rfl, rfl⟩)
  go_ret
  exact ⟨rfl, rfl⟩
end Go.Proofs.YtipogkgolbmgkaaDoor
