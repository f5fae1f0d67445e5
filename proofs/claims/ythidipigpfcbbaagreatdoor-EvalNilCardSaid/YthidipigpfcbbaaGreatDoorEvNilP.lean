/-
  Run and All of a state that is none.
-/
import Derived.Test.YthidipigpfcbbaaGreatDoorEvRun
namespace Go.Proofs.YthidipigpfcbbaaGreatDoor
open Go.RowKit Go.Maps Go.Extern.Stop Go.Stop Go.Extern

set_option maxRecDepth 100000 in
theorem copy_none11 (w : World) :
    Calls Tryz.prog 26 #[.pointer none] w fun e w' => e = .returned (.pointer none) ∧ w = w' := by
  go_enter Tryz.func26, Tryz.ntmps26
  go_wp2_with fail
  refine (mnone_nil _).mono ?_
  rintro e w' ⟨rfl, rfl⟩
  go_wp2_with fail
  go_ret
  exact ⟨rfl, rfl⟩
set_option maxRecDepth 100000 in
theorem run_nil11 {w : World} {vo : Option Addr} {n c : Nat} :
    Calls Tryz.prog 10 #[.pointer none, .slice vo n c] w fun e w' => e = .returned (.tuple #[.pointer none, evalV 0 (.slice none 0 0), .iface 65 (.int .i64 1)]) ∧ Keeps (fun _ => False) w w' := by
  obtain ⟨W1, hW1⟩ : ∃ V, V = w.alloc (.cells #[.int .i64 0, .slice none 0 0] 32) := ⟨_, rfl⟩
  have K1 : Keeps (fun _ => False) w W1 := by rw [hW1]; exact (Keeps.refl _ w).alloc _
  have B1 : Whole W1 w.heap.size 32 #[.int .i64 0, .slice none 0 0] := by rw [hW1]; exact Whole.made _ _ _
  have hW1' := Lib.hid hW1
  have HB := Lib.hid B1
  have q0 : W1.cell? ⟨w.heap.size, 0, none⟩ = some (.int .i64 0) := B1.at_ 0
  have q1 : W1.cell? ⟨w.heap.size, 1, none⟩ = some (.slice none 0 0) := B1.at_ 1
  have f0 : W1.frozen? ⟨w.heap.size, 0, none⟩ = false := B1.free 0
  have f1 : W1.frozen? ⟨w.heap.size, 1, none⟩ = false := B1.free 1
  have HK := Lib.hid K1
  clear K1 B1
  go_enter Tryz.func10, Tryz.ntmps10
  go_upto_region 1 with fail
  rw [← hW1'.out]
  clear hW1 hW1'
  go_wp2_with fail
  refine (same_nil _).mono ?_
  rintro e w2 ⟨rfl, rfl⟩
  go_wp2_with fail
  obtain ⟨W4, hW4⟩ : ∃ V, V = (W1.setCell ⟨w.heap.size, 0, none⟩ (.int .i64 0)).setCell ⟨w.heap.size, 1, none⟩ (.slice none 0 0) := ⟨_, rfl⟩
  have B4 : Whole W4 w.heap.size 32 #[.int .i64 0, .slice none 0 0] := by rw [hW4]; exact (HB.out.set_ 0 _).set_ 1 _
  have k4 : Keeps (fun x => x = w.heap.size) W1 W4 := by rw [hW4]; exact ((Keeps.refl (fun x => x = w.heap.size) W1).setCell (p := ⟨w.heap.size, 0, none⟩) (fun _ => rfl) _).setCell (p := ⟨w.heap.size, 1, none⟩) (fun _ => rfl) _
  have K4 := HK.out.trans k4 fun x hx e => by omega
  have y0 : W4.cell? ⟨w.heap.size, 0, none⟩ = some (.int .i64 0) := B4.at_ 0
  have y1 : W4.cell? ⟨w.heap.size, 1, none⟩ = some (.slice none 0 0) := B4.at_ 1
  rw [← hW4]
  refine bodyPost_ret (v := .tuple #[.pointer none, evalV 0 (.slice none 0 0), .iface 65 (.int .i64 1)]) (by simp [results, Tryz.results10, go_sem, evalV, y0, y1]) rfl ⟨rfl, K4⟩
set_option maxRecDepth 100000 in
theorem placed_any {w : World} (i : Int) (n : Nat) (hg : Glob w) :
    Calls Tryz.prog 35 #[.int .i64 i, .iface 65 (.int .i64 (n : Nat))] w fun e w' => ∃ p, e = .returned (.iface 103 (.pointer (some ⟨p, 0, none⟩))) ∧ w.heap.size ≤ p ∧ Whole w' p 105 #[.int .i64 i, .int .i64 n] ∧ Keeps (fun _ => False) w w' := by
  have K1 : Keeps (fun _ => False) w (w.alloc (.cells #[.int .i64 0] 65)) := (Keeps.refl _ w).alloc _
  have C := Lib.hid (as_s (B := 0) (v := .iface 65 (.int .i64 (n : Nat))) (k := (n : Int)) (b := w.heap.size) (old := .int .i64 0) (w := w.alloc (.cells #[.int .i64 0] 65)) (.inr (.inl rfl)) (hg.keeps K1 id) (Whole.made w 65 #[.int .i64 0]))
  have K1' := Lib.hid K1
  clear K1 hg
  go_enter Tryz.func35, Tryz.ntmps35
  go_wp2_with fail
  refine C.out.mono ?_
  rintro e w2 ⟨rfl, hW, hK⟩
  have c1 := hW.at_ 0
  have K2 := Lib.hid (K1'.out.trans hK fun x hx e => by omega)
  clear hW hK
  go_wp2_with fail
  go_ret
  exact ⟨w2.heap.size, rfl, K2.out.size, Whole.made _ _ _, K2.out.alloc _⟩
set_option maxRecDepth 100000 in
set_option maxHeartbeats 1000000 in
theorem all_nil11 {w : World} {g : Nat} {vo : Option Addr} {n c : Nat} (hg : Glob w) (h : Whole w g 24 #[.slice vo n c]) :
    Calls Tryz.prog 16 #[.pointer none, .slice (some ⟨g, 0, none⟩) 1 1] w fun e w' => ∃ p, e = .returned (.tuple #[.pointer none, .slice none 0 0, .iface 103 (.pointer (some ⟨p, 0, none⟩))]) ∧ w.heap.size ≤ p ∧ Whole w' p 105 #[.int .i64 1, .int .i64 1] ∧ Keeps (fun _ => False) w w' := by
  have CR := Lib.hid (run_nil11 (w := w) (vo := vo) (n := n) (c := c))
  have c0 : w.cell? ⟨g, 0, none⟩ = some (.slice vo n c) := h.at_ 0
  have HG := Lib.hid hg
  clear h hg
  go_enter Tryz.func16, Tryz.ntmps16
  go_wp2_with fail
  refine (copy_none11 _).mono ?_
  rintro e w2 ⟨rfl, rfl⟩
  go_wp2_with fail
  refine wp_loop_rounds 1 ?_
  rw [rounds_succ]
  go_wp2_with fail
  refine CR.out.mono ?_
  rintro e w2 ⟨rfl, hK⟩
  have K2 := Lib.hid (hK.alloc (.cells #[.int .i64 0, .slice none 0 0] 32))
  have CP := Lib.hid (placed_any 1 1 (HG.out.keeps K2.out id))
  unfold evalV
  clear hK CR
  go_wp2_with fail
  refine CP.out.mono ?_
  rintro e w4 ⟨p, rfl, hp, hW, hK⟩
  have K4 := Lib.hid (K2.out.trans hK fun _ _ => id)
  have P4 := Lib.hid (And.intro hp hW)
  clear hp hW hK CP
  go_wp2_with fail
  refine bodyPost_ret (v := .tuple #[.pointer none, .slice none 0 0, .iface 103 (.pointer (some ⟨p, 0, none⟩))]) (by simp [results, Tryz.results16, go_sem]) rfl ⟨p, rfl, Nat.le_trans K2.out.size P4.out.1, P4.out.2, K4.out⟩
end Go.Proofs.YthidipigpfcbbaaGreatDoor
