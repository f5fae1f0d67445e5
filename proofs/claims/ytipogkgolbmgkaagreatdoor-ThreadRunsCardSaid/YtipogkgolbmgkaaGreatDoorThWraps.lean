/-
  thread.wraps by contract: is an error's number that one. Its deferred function recovers nothing.
-/
import Derived.Test.YtipogkgolbmgkaaGreatDoorThRun
import Derived.Defers
import Derived.Recover
namespace Go.Proofs.YtipogkgolbmgkaaGreatDoor
open Go.RowKit Go.Extern.Stop Go.Stop Go.Extern

theorem make_func (fn : Fn) (first cap : Array Value) (w : World) : (Instr.makeFunc fn first cap).run Tryz.prog w = .ok (.func fn first cap) w := rfl

theorem wraps_idle (p : Addr) (w : World) :
    CallsD Tryz.prog 64 #[.pointer (some p)] .returning w fun e u' w' => e = .returned (.tuple #[]) ∧ u' = .returning ∧ w' = w := by
  refine callsD_of_wpS Tryz.func64 rfl fun c₀ cs hu => ?_
  apply wpS_seq
  apply wpS_region
  simp [wpOpsS, go_sem, recoverD, hu, Tryz.ntmps64, Exit.thenS]
  refine wpS_cond (t := false) (by simp [Act.eval, Array.replicate]) ?_
  simp only [Bool.false_eq_true, if_false]
  refine wpS_of_wp (wp_skip ?_)
  cases c₀
  simp_all [bodyPostS, results, Tryz.results64]

theorem is_any {w : World} {v : Value} {e : EA} (h : ErrV w v e) (k : Nat) (hk : k ≠ 0) :
    Calls Tryz.prog 24 #[v, .iface 60 (.int .i64 (k : Int))] w fun r w' => r = .returned (.bool (decide (e.num = k))) ∧ w = w' := by
  cases e with
  | ok =>
    cases h
    rw [show decide (EA.num .ok = k) = false from decide_eq_false (by show ¬ 0 = k; omega)]
    exact is_nil k w
  | no q =>
    cases h
    refine (is_errno (q : Int) (k : Int) w).mono ?_
    rintro e w' ⟨rfl, rfl⟩
    refine ⟨?_, rfl⟩
    by_cases c : q = k
    · subst c; simp [EA.num]
    · have : ¬ ((q : Int) = (k : Int)) := by omega
      simp [EA.num, c, this]
  | at_ i q =>
    obtain ⟨p, rfl, hp⟩ := h
    refine (is_fault p 0 (q : Int) (k : Int) w (hp.at_ 1)).mono ?_
    rintro e w' ⟨rfl, rfl⟩
    refine ⟨?_, rfl⟩
    by_cases c : q = k
    · subst c; simp [EA.num]
    · have : ¬ ((q : Int) = (k : Int)) := by omega
      simp [EA.num, c, this]

theorem wraps_any {w : World} {v : Value} {e : EA} (h : ErrV w v e) (k : Nat) (hk : k ≠ 0) (b : Bool) (hb : decide (e.num = k) = b) :
    Calls Tryz.prog 39 #[v, .int .i64 (k : Int)] w fun r w' => r = .returned (.bool b) ∧ Keeps (fun _ => False) w w' := by
  have hmf := make_func
  obtain ⟨W1, hW1⟩ : ∃ W, W = w.alloc (.cells #[.bool false] 4) := ⟨_, rfl⟩
  have k1 : Keeps (fun _ => False) w W1 := by rw [hW1]; exact (Keeps.refl _ w).alloc _
  have mB : Whole W1 w.heap.size 4 #[.bool false] := by rw [hW1]; exact Whole.made _ _ _
  have hi := is_any (h.keeps k1 fun _ _ _ => id) k hk
  rw [hb] at hi
  have hi' := Lib.hid hi
  have hW1' := Lib.hid hW1
  have k1' := Lib.hid k1
  have mB' := Lib.hid mB
  have b0 : W1.cell? ⟨w.heap.size, 0, none⟩ = some (.bool false) := mB.at_ 0
  have bf : W1.frozen? ⟨w.heap.size, 0, none⟩ = false := mB.free 0
  clear hi h k1 mB hW1 hb hk
  go_enter_defers Tryz.func39, Tryz.ntmps39
  go_wp2_with fail
  rw [← hW1'.out]
  refine hi'.out.mono ?_
  rintro e w' ⟨rfl, rfl⟩
  go_wp2_with fail
  refine leaves_cons (f := 64) (args := #[.pointer (some ⟨w.heap.size, 0, none⟩)]) (by simp) (by simp [go_sem]) ?_
  refine (wraps_idle ⟨w.heap.size, 0, none⟩ _).mono ?_
  rintro e u' w'' ⟨rfl, rfl, rfl⟩
  have ks := ((Keeps.refl (fun x => x = w.heap.size) W1).setCell (p := ⟨w.heap.size, 0, none⟩) (fun _ => rfl) (.bool b))
  have kk : Keeps (fun _ => False) w (W1.setCell ⟨w.heap.size, 0, none⟩ (.bool b)) := k1'.out.trans ks fun x hx e => absurd hx (by omega)
  exact ⟨_, by simp [results, Tryz.results39, go_sem, b0], rfl, kk⟩
end Go.Proofs.YtipogkgolbmgkaaGreatDoor
