/-
  prog.taken by contract: what the statements of a kind take.
  prog.argRight, regRight, aRight, collRight by contract.
  prog.right, check by contract.
-/
import Derived.Test.YthidipigpfcbbaaGreatDoorPgOneAll

namespace Go.Proofs.YthidipigpfcbbaaGreatDoor
open Go.RowKit Go.Extern.Stop Go.Stop Go.Extern

/-- What a kind takes: a collection, an ordered one, a register, A, B, how often, Body, Else. -/
def tks (k : Int) : Array Value := #[.bool (decide (1 ≤ k ∧ k ≤ 8)), .bool (decide (k = 6 ∨ k = 7)), .bool (inL k [1, 4, 5, 6, 7, 9, 10]), .bool (inL k [1, 2, 3, 4, 6, 7, 9, 10, 11]), .bool (inL k [2, 7, 10, 11]), .bool (decide (k = 12)), .bool (decide (11 ≤ k ∧ k ≤ 14)), .bool (decide (k = 11 ∨ k = 14))]

/-! ### what stands behind a piece of code, behind a variable -/
section
variable {P : Program} {c : Code} {Q : Exit → Act → World → Prop} {K : Act → World → Prop} {a : Act} {w : World} {n id : Nat}
theorem wp_hid (h : ∀ Q' : Exit → Act → World → Prop, Hid (∀ e a w, Q e a w → Q' e a w) → c.wp P Q' a w) : c.wp P Q a w := h Q (Lib.hid fun _ _ _ q => q)
theorem ex_then (h : Q (.exit n) a w) : Exit.then K Q (.exit n) a w := h
theorem nm_then (h : K a w) : Exit.then K Q .normal a w := h
theorem nm_blk (h : Q .normal a w) : Exit.inBlock id Q .normal a w := h
theorem ex_blk_eq (h : Q .normal a w) : Exit.inBlock id Q (.exit id) a w := by simp only [Exit.inBlock, ↓reduceIte]; exact h
theorem ex_blk_ne (hn : (n == id) = false) (h : Q (.exit n) a w) : Exit.inBlock id Q (.exit n) a w := by
  have hn : n ≠ id := by simpa using hn
  simp only [Exit.inBlock, hn, ↓reduceIte]; exact h
end

set_option maxRecDepth 100000 in
set_option maxHeartbeats 2000000 in
theorem taken_1 {w : World} :
    Calls Tryz.prog 87 #[.int .i64 1] w fun e w' => e = .returned (.tuple #[.agg #[.bool true, .bool false, .bool true, .bool true, .bool false, .bool false, .bool false, .bool false], .bool true]) ∧ Keeps (fun _ => False) w w' := by
  go_enter Tryz.func87, Tryz.ntmps87
  go_upto_block 1 with fail
  refine wp_block ?_
  refine wp_hid (fun _ HQ => ?_)
  go_wp2_with fail
  refine HQ.out _ _ _ ?_
  clear HQ
  repeat (first | refine ex_then ?_ | refine nm_then ?_ | refine nm_blk ?_ | refine ex_blk_eq ?_ | refine ex_blk_ne rfl ?_)
  go_upto_region 21 with fail
  refine wp_hid (fun _ HQ => ?_)
  go_wp2_with fail
  refine HQ.out _ _ _ ?_
  clear HQ
  repeat (first | refine ex_then ?_ | refine nm_then ?_ | refine nm_blk ?_ | refine ex_blk_eq ?_ | refine ex_blk_ne rfl ?_)
  go_upto_region 22 with fail
  refine wp_hid (fun _ HQ => ?_)
  go_wp2_with fail
  refine HQ.out _ _ _ ?_
  clear HQ
  repeat (first | refine ex_then ?_ | refine nm_then ?_ | refine nm_blk ?_ | refine ex_blk_eq ?_ | refine ex_blk_ne rfl ?_)
  go_upto_region 23 with fail
  refine wp_hid (fun _ HQ => ?_)
  go_wp2_with fail
  refine HQ.out _ _ _ ?_
  clear HQ
  repeat (first | refine ex_then ?_ | refine nm_then ?_ | refine nm_blk ?_ | refine ex_blk_eq ?_ | refine ex_blk_ne rfl ?_)
  go_wp2_with fail
  refine bodyPost_ret (v := .tuple #[.agg #[.bool true, .bool false, .bool true, .bool true, .bool false, .bool false, .bool false, .bool false], .bool true]) (by simp [results, Tryz.results87, go_sem]) rfl ?_
  exact ⟨rfl, ((Keeps.refl _ _).alloc _).alloc _⟩
set_option maxRecDepth 100000 in
set_option maxHeartbeats 2000000 in
theorem taken_2 {w : World} :
    Calls Tryz.prog 87 #[.int .i64 2] w fun e w' => e = .returned (.tuple #[.agg #[.bool true, .bool false, .bool false, .bool true, .bool true, .bool false, .bool false, .bool false], .bool true]) ∧ Keeps (fun _ => False) w w' := by
  go_enter Tryz.func87, Tryz.ntmps87
  go_upto_block 1 with fail
  refine wp_block ?_
  refine wp_hid (fun _ HQ => ?_)
  go_wp2_with fail
  refine HQ.out _ _ _ ?_
  clear HQ
  repeat (first | refine ex_then ?_ | refine nm_then ?_ | refine nm_blk ?_ | refine ex_blk_eq ?_ | refine ex_blk_ne rfl ?_)
  go_upto_region 24 with fail
  refine wp_hid (fun _ HQ => ?_)
  go_wp2_with fail
  refine HQ.out _ _ _ ?_
  clear HQ
  repeat (first | refine ex_then ?_ | refine nm_then ?_ | refine nm_blk ?_ | refine ex_blk_eq ?_ | refine ex_blk_ne rfl ?_)
  go_upto_region 25 with fail
  refine wp_hid (fun _ HQ => ?_)
  go_wp2_with fail
  refine HQ.out _ _ _ ?_
  clear HQ
  repeat (first | refine ex_then ?_ | refine nm_then ?_ | refine nm_blk ?_ | refine ex_blk_eq ?_ | refine ex_blk_ne rfl ?_)
  go_wp2_with fail
  refine bodyPost_ret (v := .tuple #[.agg #[.bool true, .bool false, .bool false, .bool true, .bool true, .bool false, .bool false, .bool false], .bool true]) (by simp [results, Tryz.results87, go_sem]) rfl ?_
  exact ⟨rfl, ((Keeps.refl _ _).alloc _).alloc _⟩
set_option maxRecDepth 100000 in
set_option maxHeartbeats 2000000 in
theorem taken_3 {w : World} :
    Calls Tryz.prog 87 #[.int .i64 3] w fun e w' => e = .returned (.tuple #[.agg #[.bool true, .bool false, .bool false, .bool true, .bool false, .bool false, .bool false, .bool false], .bool true]) ∧ Keeps (fun _ => False) w w' := by
  go_enter Tryz.func87, Tryz.ntmps87
  go_upto_block 1 with fail
  refine wp_block ?_
  refine wp_hid (fun _ HQ => ?_)
  go_wp2_with fail
  refine HQ.out _ _ _ ?_
  clear HQ
  repeat (first | refine ex_then ?_ | refine nm_then ?_ | refine nm_blk ?_ | refine ex_blk_eq ?_ | refine ex_blk_ne rfl ?_)
  go_upto_region 25 with fail
  refine wp_hid (fun _ HQ => ?_)
  go_wp2_with fail
  refine HQ.out _ _ _ ?_
  clear HQ
  repeat (first | refine ex_then ?_ | refine nm_then ?_ | refine nm_blk ?_ | refine ex_blk_eq ?_ | refine ex_blk_ne rfl ?_)
  go_wp2_with fail
  refine bodyPost_ret (v := .tuple #[.agg #[.bool true, .bool false, .bool false, .bool true, .bool false, .bool false, .bool false, .bool false], .bool true]) (by simp [results, Tryz.results87, go_sem]) rfl ?_
  exact ⟨rfl, ((Keeps.refl _ _).alloc _).alloc _⟩
set_option maxRecDepth 100000 in
set_option maxHeartbeats 2000000 in
theorem taken_4 {w : World} :
    Calls Tryz.prog 87 #[.int .i64 4] w fun e w' => e = .returned (.tuple #[.agg #[.bool true, .bool false, .bool true, .bool true, .bool false, .bool false, .bool false, .bool false], .bool true]) ∧ Keeps (fun _ => False) w w' := by
  go_enter Tryz.func87, Tryz.ntmps87
  go_upto_block 1 with fail
  refine wp_block ?_
  refine wp_hid (fun _ HQ => ?_)
  go_wp2_with fail
  refine HQ.out _ _ _ ?_
  clear HQ
  repeat (first | refine ex_then ?_ | refine nm_then ?_ | refine nm_blk ?_ | refine ex_blk_eq ?_ | refine ex_blk_ne rfl ?_)
  go_upto_region 21 with fail
  refine wp_hid (fun _ HQ => ?_)
  go_wp2_with fail
  refine HQ.out _ _ _ ?_
  clear HQ
  repeat (first | refine ex_then ?_ | refine nm_then ?_ | refine nm_blk ?_ | refine ex_blk_eq ?_ | refine ex_blk_ne rfl ?_)
  go_upto_region 22 with fail
  refine wp_hid (fun _ HQ => ?_)
  go_wp2_with fail
  refine HQ.out _ _ _ ?_
  clear HQ
  repeat (first | refine ex_then ?_ | refine nm_then ?_ | refine nm_blk ?_ | refine ex_blk_eq ?_ | refine ex_blk_ne rfl ?_)
  go_upto_region 23 with fail
  refine wp_hid (fun _ HQ => ?_)
  go_wp2_with fail
  refine HQ.out _ _ _ ?_
  clear HQ
  repeat (first | refine ex_then ?_ | refine nm_then ?_ | refine nm_blk ?_ | refine ex_blk_eq ?_ | refine ex_blk_ne rfl ?_)
  go_wp2_with fail
  refine bodyPost_ret (v := .tuple #[.agg #[.bool true, .bool false, .bool true, .bool true, .bool false, .bool false, .bool false, .bool false], .bool true]) (by simp [results, Tryz.results87, go_sem]) rfl ?_
  exact ⟨rfl, ((Keeps.refl _ _).alloc _).alloc _⟩
set_option maxRecDepth 100000 in
set_option maxHeartbeats 2000000 in
theorem taken_5 {w : World} :
    Calls Tryz.prog 87 #[.int .i64 5] w fun e w' => e = .returned (.tuple #[.agg #[.bool true, .bool false, .bool true, .bool false, .bool false, .bool false, .bool false, .bool false], .bool true]) ∧ Keeps (fun _ => False) w w' := by
  go_enter Tryz.func87, Tryz.ntmps87
  go_upto_block 1 with fail
  refine wp_block ?_
  refine wp_hid (fun _ HQ => ?_)
  go_wp2_with fail
  refine HQ.out _ _ _ ?_
  clear HQ
  repeat (first | refine ex_then ?_ | refine nm_then ?_ | refine nm_blk ?_ | refine ex_blk_eq ?_ | refine ex_blk_ne rfl ?_)
  go_upto_region 22 with fail
  refine wp_hid (fun _ HQ => ?_)
  go_wp2_with fail
  refine HQ.out _ _ _ ?_
  clear HQ
  repeat (first | refine ex_then ?_ | refine nm_then ?_ | refine nm_blk ?_ | refine ex_blk_eq ?_ | refine ex_blk_ne rfl ?_)
  go_upto_region 23 with fail
  refine wp_hid (fun _ HQ => ?_)
  go_wp2_with fail
  refine HQ.out _ _ _ ?_
  clear HQ
  repeat (first | refine ex_then ?_ | refine nm_then ?_ | refine nm_blk ?_ | refine ex_blk_eq ?_ | refine ex_blk_ne rfl ?_)
  go_wp2_with fail
  refine bodyPost_ret (v := .tuple #[.agg #[.bool true, .bool false, .bool true, .bool false, .bool false, .bool false, .bool false, .bool false], .bool true]) (by simp [results, Tryz.results87, go_sem]) rfl ?_
  exact ⟨rfl, ((Keeps.refl _ _).alloc _).alloc _⟩
set_option maxRecDepth 100000 in
set_option maxHeartbeats 2000000 in
theorem taken_6 {w : World} :
    Calls Tryz.prog 87 #[.int .i64 6] w fun e w' => e = .returned (.tuple #[.agg #[.bool true, .bool true, .bool true, .bool true, .bool false, .bool false, .bool false, .bool false], .bool true]) ∧ Keeps (fun _ => False) w w' := by
  go_enter Tryz.func87, Tryz.ntmps87
  go_upto_block 1 with fail
  refine wp_block ?_
  refine wp_hid (fun _ HQ => ?_)
  go_wp2_with fail
  refine HQ.out _ _ _ ?_
  clear HQ
  repeat (first | refine ex_then ?_ | refine nm_then ?_ | refine nm_blk ?_ | refine ex_blk_eq ?_ | refine ex_blk_ne rfl ?_)
  go_upto_region 20 with fail
  refine wp_hid (fun _ HQ => ?_)
  go_wp2_with fail
  refine HQ.out _ _ _ ?_
  clear HQ
  repeat (first | refine ex_then ?_ | refine nm_then ?_ | refine nm_blk ?_ | refine ex_blk_eq ?_ | refine ex_blk_ne rfl ?_)
  go_upto_region 21 with fail
  refine wp_hid (fun _ HQ => ?_)
  go_wp2_with fail
  refine HQ.out _ _ _ ?_
  clear HQ
  repeat (first | refine ex_then ?_ | refine nm_then ?_ | refine nm_blk ?_ | refine ex_blk_eq ?_ | refine ex_blk_ne rfl ?_)
  go_upto_region 22 with fail
  refine wp_hid (fun _ HQ => ?_)
  go_wp2_with fail
  refine HQ.out _ _ _ ?_
  clear HQ
  repeat (first | refine ex_then ?_ | refine nm_then ?_ | refine nm_blk ?_ | refine ex_blk_eq ?_ | refine ex_blk_ne rfl ?_)
  go_upto_region 23 with fail
  refine wp_hid (fun _ HQ => ?_)
  go_wp2_with fail
  refine HQ.out _ _ _ ?_
  clear HQ
  repeat (first | refine ex_then ?_ | refine nm_then ?_ | refine nm_blk ?_ | refine ex_blk_eq ?_ | refine ex_blk_ne rfl ?_)
  go_wp2_with fail
  refine bodyPost_ret (v := .tuple #[.agg #[.bool true, .bool true, .bool true, .bool true, .bool false, .bool false, .bool false, .bool false], .bool true]) (by simp [results, Tryz.results87, go_sem]) rfl ?_
  exact ⟨rfl, ((Keeps.refl _ _).alloc _).alloc _⟩
set_option maxRecDepth 100000 in
set_option maxHeartbeats 2000000 in
theorem taken_7 {w : World} :
    Calls Tryz.prog 87 #[.int .i64 7] w fun e w' => e = .returned (.tuple #[.agg #[.bool true, .bool true, .bool true, .bool true, .bool true, .bool false, .bool false, .bool false], .bool true]) ∧ Keeps (fun _ => False) w w' := by
  go_enter Tryz.func87, Tryz.ntmps87
  go_upto_block 1 with fail
  refine wp_block ?_
  refine wp_hid (fun _ HQ => ?_)
  go_wp2_with fail
  refine HQ.out _ _ _ ?_
  clear HQ
  repeat (first | refine ex_then ?_ | refine nm_then ?_ | refine nm_blk ?_ | refine ex_blk_eq ?_ | refine ex_blk_ne rfl ?_)
  go_upto_region 19 with fail
  refine wp_hid (fun _ HQ => ?_)
  go_wp2_with fail
  refine HQ.out _ _ _ ?_
  clear HQ
  repeat (first | refine ex_then ?_ | refine nm_then ?_ | refine nm_blk ?_ | refine ex_blk_eq ?_ | refine ex_blk_ne rfl ?_)
  go_upto_region 20 with fail
  refine wp_hid (fun _ HQ => ?_)
  go_wp2_with fail
  refine HQ.out _ _ _ ?_
  clear HQ
  repeat (first | refine ex_then ?_ | refine nm_then ?_ | refine nm_blk ?_ | refine ex_blk_eq ?_ | refine ex_blk_ne rfl ?_)
  go_upto_region 21 with fail
  refine wp_hid (fun _ HQ => ?_)
  go_wp2_with fail
  refine HQ.out _ _ _ ?_
  clear HQ
  repeat (first | refine ex_then ?_ | refine nm_then ?_ | refine nm_blk ?_ | refine ex_blk_eq ?_ | refine ex_blk_ne rfl ?_)
  go_upto_region 22 with fail
  refine wp_hid (fun _ HQ => ?_)
  go_wp2_with fail
  refine HQ.out _ _ _ ?_
  clear HQ
  repeat (first | refine ex_then ?_ | refine nm_then ?_ | refine nm_blk ?_ | refine ex_blk_eq ?_ | refine ex_blk_ne rfl ?_)
  go_upto_region 23 with fail
  refine wp_hid (fun _ HQ => ?_)
  go_wp2_with fail
  refine HQ.out _ _ _ ?_
  clear HQ
  repeat (first | refine ex_then ?_ | refine nm_then ?_ | refine nm_blk ?_ | refine ex_blk_eq ?_ | refine ex_blk_ne rfl ?_)
  go_wp2_with fail
  refine bodyPost_ret (v := .tuple #[.agg #[.bool true, .bool true, .bool true, .bool true, .bool true, .bool false, .bool false, .bool false], .bool true]) (by simp [results, Tryz.results87, go_sem]) rfl ?_
  exact ⟨rfl, ((Keeps.refl _ _).alloc _).alloc _⟩
set_option maxRecDepth 100000 in
set_option maxHeartbeats 2000000 in
theorem taken_8 {w : World} :
    Calls Tryz.prog 87 #[.int .i64 8] w fun e w' => e = .returned (.tuple #[.agg #[.bool true, .bool false, .bool false, .bool false, .bool false, .bool false, .bool false, .bool false], .bool true]) ∧ Keeps (fun _ => False) w w' := by
  go_enter Tryz.func87, Tryz.ntmps87
  go_upto_block 1 with fail
  refine wp_block ?_
  refine wp_hid (fun _ HQ => ?_)
  go_wp2_with fail
  refine HQ.out _ _ _ ?_
  clear HQ
  repeat (first | refine ex_then ?_ | refine nm_then ?_ | refine nm_blk ?_ | refine ex_blk_eq ?_ | refine ex_blk_ne rfl ?_)
  go_upto_region 23 with fail
  refine wp_hid (fun _ HQ => ?_)
  go_wp2_with fail
  refine HQ.out _ _ _ ?_
  clear HQ
  repeat (first | refine ex_then ?_ | refine nm_then ?_ | refine nm_blk ?_ | refine ex_blk_eq ?_ | refine ex_blk_ne rfl ?_)
  go_wp2_with fail
  refine bodyPost_ret (v := .tuple #[.agg #[.bool true, .bool false, .bool false, .bool false, .bool false, .bool false, .bool false, .bool false], .bool true]) (by simp [results, Tryz.results87, go_sem]) rfl ?_
  exact ⟨rfl, ((Keeps.refl _ _).alloc _).alloc _⟩
set_option maxRecDepth 100000 in
set_option maxHeartbeats 2000000 in
theorem taken_9 {w : World} :
    Calls Tryz.prog 87 #[.int .i64 9] w fun e w' => e = .returned (.tuple #[.agg #[.bool false, .bool false, .bool true, .bool true, .bool false, .bool false, .bool false, .bool false], .bool true]) ∧ Keeps (fun _ => False) w w' := by
  go_enter Tryz.func87, Tryz.ntmps87
  go_upto_block 1 with fail
  refine wp_block ?_
  refine wp_hid (fun _ HQ => ?_)
  go_wp2_with fail
  refine HQ.out _ _ _ ?_
  clear HQ
  repeat (first | refine ex_then ?_ | refine nm_then ?_ | refine nm_blk ?_ | refine ex_blk_eq ?_ | refine ex_blk_ne rfl ?_)
  go_upto_region 27 with fail
  refine wp_hid (fun _ HQ => ?_)
  go_wp2_with fail
  refine HQ.out _ _ _ ?_
  clear HQ
  repeat (first | refine ex_then ?_ | refine nm_then ?_ | refine nm_blk ?_ | refine ex_blk_eq ?_ | refine ex_blk_ne rfl ?_)
  go_wp2_with fail
  refine bodyPost_ret (v := .tuple #[.agg #[.bool false, .bool false, .bool true, .bool true, .bool false, .bool false, .bool false, .bool false], .bool true]) (by simp [results, Tryz.results87, go_sem]) rfl ?_
  exact ⟨rfl, ((Keeps.refl _ _).alloc _).alloc _⟩
set_option maxRecDepth 100000 in
set_option maxHeartbeats 2000000 in
theorem taken_10 {w : World} :
    Calls Tryz.prog 87 #[.int .i64 10] w fun e w' => e = .returned (.tuple #[.agg #[.bool false, .bool false, .bool true, .bool true, .bool true, .bool false, .bool false, .bool false], .bool true]) ∧ Keeps (fun _ => False) w w' := by
  go_enter Tryz.func87, Tryz.ntmps87
  go_upto_block 1 with fail
  refine wp_block ?_
  refine wp_hid (fun _ HQ => ?_)
  go_wp2_with fail
  refine HQ.out _ _ _ ?_
  clear HQ
  repeat (first | refine ex_then ?_ | refine nm_then ?_ | refine nm_blk ?_ | refine ex_blk_eq ?_ | refine ex_blk_ne rfl ?_)
  go_upto_region 26 with fail
  refine wp_hid (fun _ HQ => ?_)
  go_wp2_with fail
  refine HQ.out _ _ _ ?_
  clear HQ
  repeat (first | refine ex_then ?_ | refine nm_then ?_ | refine nm_blk ?_ | refine ex_blk_eq ?_ | refine ex_blk_ne rfl ?_)
  go_upto_region 27 with fail
  refine wp_hid (fun _ HQ => ?_)
  go_wp2_with fail
  refine HQ.out _ _ _ ?_
  clear HQ
  repeat (first | refine ex_then ?_ | refine nm_then ?_ | refine nm_blk ?_ | refine ex_blk_eq ?_ | refine ex_blk_ne rfl ?_)
  go_wp2_with fail
  refine bodyPost_ret (v := .tuple #[.agg #[.bool false, .bool false, .bool true, .bool true, .bool true, .bool false, .bool false, .bool false], .bool true]) (by simp [results, Tryz.results87, go_sem]) rfl ?_
  exact ⟨rfl, ((Keeps.refl _ _).alloc _).alloc _⟩
set_option maxRecDepth 100000 in
set_option maxHeartbeats 2000000 in
theorem taken_11 {w : World} :
    Calls Tryz.prog 87 #[.int .i64 11] w fun e w' => e = .returned (.tuple #[.agg #[.bool false, .bool false, .bool false, .bool true, .bool true, .bool false, .bool true, .bool true], .bool true]) ∧ Keeps (fun _ => False) w w' := by
  go_enter Tryz.func87, Tryz.ntmps87
  go_upto_block 1 with fail
  refine wp_block ?_
  refine wp_hid (fun _ HQ => ?_)
  go_wp2_with fail
  refine HQ.out _ _ _ ?_
  clear HQ
  repeat (first | refine ex_then ?_ | refine nm_then ?_ | refine nm_blk ?_ | refine ex_blk_eq ?_ | refine ex_blk_ne rfl ?_)
  go_upto_region 28 with fail
  refine wp_hid (fun _ HQ => ?_)
  go_wp2_with fail
  refine HQ.out _ _ _ ?_
  clear HQ
  repeat (first | refine ex_then ?_ | refine nm_then ?_ | refine nm_blk ?_ | refine ex_blk_eq ?_ | refine ex_blk_ne rfl ?_)
  go_upto_region 29 with fail
  refine wp_hid (fun _ HQ => ?_)
  go_wp2_with fail
  refine HQ.out _ _ _ ?_
  clear HQ
  repeat (first | refine ex_then ?_ | refine nm_then ?_ | refine nm_blk ?_ | refine ex_blk_eq ?_ | refine ex_blk_ne rfl ?_)
  go_upto_region 30 with fail
  refine wp_hid (fun _ HQ => ?_)
  go_wp2_with fail
  refine HQ.out _ _ _ ?_
  clear HQ
  repeat (first | refine ex_then ?_ | refine nm_then ?_ | refine nm_blk ?_ | refine ex_blk_eq ?_ | refine ex_blk_ne rfl ?_)
  go_wp2_with fail
  refine bodyPost_ret (v := .tuple #[.agg #[.bool false, .bool false, .bool false, .bool true, .bool true, .bool false, .bool true, .bool true], .bool true]) (by simp [results, Tryz.results87, go_sem]) rfl ?_
  exact ⟨rfl, ((Keeps.refl _ _).alloc _).alloc _⟩
set_option maxRecDepth 100000 in
set_option maxHeartbeats 2000000 in
theorem taken_12 {w : World} :
    Calls Tryz.prog 87 #[.int .i64 12] w fun e w' => e = .returned (.tuple #[.agg #[.bool false, .bool false, .bool false, .bool false, .bool false, .bool true, .bool true, .bool false], .bool true]) ∧ Keeps (fun _ => False) w w' := by
  go_enter Tryz.func87, Tryz.ntmps87
  go_upto_block 1 with fail
  refine wp_block ?_
  refine wp_hid (fun _ HQ => ?_)
  go_wp2_with fail
  refine HQ.out _ _ _ ?_
  clear HQ
  repeat (first | refine ex_then ?_ | refine nm_then ?_ | refine nm_blk ?_ | refine ex_blk_eq ?_ | refine ex_blk_ne rfl ?_)
  go_upto_region 31 with fail
  refine wp_hid (fun _ HQ => ?_)
  go_wp2_with fail
  refine HQ.out _ _ _ ?_
  clear HQ
  repeat (first | refine ex_then ?_ | refine nm_then ?_ | refine nm_blk ?_ | refine ex_blk_eq ?_ | refine ex_blk_ne rfl ?_)
  go_wp2_with fail
  refine bodyPost_ret (v := .tuple #[.agg #[.bool false, .bool false, .bool false, .bool false, .bool false, .bool true, .bool true, .bool false], .bool true]) (by simp [results, Tryz.results87, go_sem]) rfl ?_
  exact ⟨rfl, ((Keeps.refl _ _).alloc _).alloc _⟩
set_option maxRecDepth 100000 in
set_option maxHeartbeats 2000000 in
theorem taken_13 {w : World} :
    Calls Tryz.prog 87 #[.int .i64 13] w fun e w' => e = .returned (.tuple #[.agg #[.bool false, .bool false, .bool false, .bool false, .bool false, .bool false, .bool true, .bool false], .bool true]) ∧ Keeps (fun _ => False) w w' := by
  go_enter Tryz.func87, Tryz.ntmps87
  go_upto_block 1 with fail
  refine wp_block ?_
  refine wp_hid (fun _ HQ => ?_)
  go_wp2_with fail
  refine HQ.out _ _ _ ?_
  clear HQ
  repeat (first | refine ex_then ?_ | refine nm_then ?_ | refine nm_blk ?_ | refine ex_blk_eq ?_ | refine ex_blk_ne rfl ?_)
  go_upto_region 30 with fail
  refine wp_hid (fun _ HQ => ?_)
  go_wp2_with fail
  refine HQ.out _ _ _ ?_
  clear HQ
  repeat (first | refine ex_then ?_ | refine nm_then ?_ | refine nm_blk ?_ | refine ex_blk_eq ?_ | refine ex_blk_ne rfl ?_)
  go_wp2_with fail
  refine bodyPost_ret (v := .tuple #[.agg #[.bool false, .bool false, .bool false, .bool false, .bool false, .bool false, .bool true, .bool false], .bool true]) (by simp [results, Tryz.results87, go_sem]) rfl ?_
  exact ⟨rfl, ((Keeps.refl _ _).alloc _).alloc _⟩
set_option maxRecDepth 100000 in
set_option maxHeartbeats 2000000 in
theorem taken_14 {w : World} :
    Calls Tryz.prog 87 #[.int .i64 14] w fun e w' => e = .returned (.tuple #[.agg #[.bool false, .bool false, .bool false, .bool false, .bool false, .bool false, .bool true, .bool true], .bool true]) ∧ Keeps (fun _ => False) w w' := by
  go_enter Tryz.func87, Tryz.ntmps87
  go_upto_block 1 with fail
  refine wp_block ?_
  refine wp_hid (fun _ HQ => ?_)
  go_wp2_with fail
  refine HQ.out _ _ _ ?_
  clear HQ
  repeat (first | refine ex_then ?_ | refine nm_then ?_ | refine nm_blk ?_ | refine ex_blk_eq ?_ | refine ex_blk_ne rfl ?_)
  go_upto_region 29 with fail
  refine wp_hid (fun _ HQ => ?_)
  go_wp2_with fail
  refine HQ.out _ _ _ ?_
  clear HQ
  repeat (first | refine ex_then ?_ | refine nm_then ?_ | refine nm_blk ?_ | refine ex_blk_eq ?_ | refine ex_blk_ne rfl ?_)
  go_upto_region 30 with fail
  refine wp_hid (fun _ HQ => ?_)
  go_wp2_with fail
  refine HQ.out _ _ _ ?_
  clear HQ
  repeat (first | refine ex_then ?_ | refine nm_then ?_ | refine nm_blk ?_ | refine ex_blk_eq ?_ | refine ex_blk_ne rfl ?_)
  go_wp2_with fail
  refine bodyPost_ret (v := .tuple #[.agg #[.bool false, .bool false, .bool false, .bool false, .bool false, .bool false, .bool true, .bool true], .bool true]) (by simp [results, Tryz.results87, go_sem]) rfl ?_
  exact ⟨rfl, ((Keeps.refl _ _).alloc _).alloc _⟩
set_option maxRecDepth 100000 in
set_option maxHeartbeats 2000000 in
theorem taken_15 {w : World} :
    Calls Tryz.prog 87 #[.int .i64 15] w fun e w' => e = .returned (.tuple #[.agg #[.bool false, .bool false, .bool false, .bool false, .bool false, .bool false, .bool false, .bool false], .bool true]) ∧ Keeps (fun _ => False) w w' := by
  go_enter Tryz.func87, Tryz.ntmps87
  go_upto_block 1 with fail
  refine wp_block ?_
  refine wp_hid (fun _ HQ => ?_)
  go_wp2_with fail
  refine HQ.out _ _ _ ?_
  clear HQ
  repeat (first | refine ex_then ?_ | refine nm_then ?_ | refine nm_blk ?_ | refine ex_blk_eq ?_ | refine ex_blk_ne rfl ?_)
  go_wp2_with fail
  refine bodyPost_ret (v := .tuple #[.agg #[.bool false, .bool false, .bool false, .bool false, .bool false, .bool false, .bool false, .bool false], .bool true]) (by simp [results, Tryz.results87, go_sem]) rfl ?_
  exact ⟨rfl, ((Keeps.refl _ _).alloc _).alloc _⟩
set_option maxRecDepth 100000 in
set_option maxHeartbeats 2000000 in
theorem taken_16 {w : World} :
    Calls Tryz.prog 87 #[.int .i64 16] w fun e w' => e = .returned (.tuple #[.agg #[.bool false, .bool false, .bool false, .bool false, .bool false, .bool false, .bool false, .bool false], .bool true]) ∧ Keeps (fun _ => False) w w' := by
  go_enter Tryz.func87, Tryz.ntmps87
  go_upto_block 1 with fail
  refine wp_block ?_
  refine wp_hid (fun _ HQ => ?_)
  go_wp2_with fail
  refine HQ.out _ _ _ ?_
  clear HQ
  repeat (first | refine ex_then ?_ | refine nm_then ?_ | refine nm_blk ?_ | refine ex_blk_eq ?_ | refine ex_blk_ne rfl ?_)
  go_wp2_with fail
  refine bodyPost_ret (v := .tuple #[.agg #[.bool false, .bool false, .bool false, .bool false, .bool false, .bool false, .bool false, .bool false], .bool true]) (by simp [results, Tryz.results87, go_sem]) rfl ?_
  exact ⟨rfl, ((Keeps.refl _ _).alloc _).alloc _⟩
set_option maxRecDepth 100000 in
set_option maxHeartbeats 2000000 in
theorem taken_none {w : World} {k : Int} (h : ¬ (1 ≤ k ∧ k ≤ 16)) :
    Calls Tryz.prog 87 #[.int .i64 k] w fun e w' => e = .returned (.tuple #[.agg #[.bool false, .bool false, .bool false, .bool false, .bool false, .bool false, .bool false, .bool false], .bool false]) ∧ Keeps (fun _ => False) w w' := by
  have h1 : (k == 1) = false := by simp; omega
  have h2 : (k == 2) = false := by simp; omega
  have h3 : (k == 3) = false := by simp; omega
  have h4 : (k == 4) = false := by simp; omega
  have h5 : (k == 5) = false := by simp; omega
  have h6 : (k == 6) = false := by simp; omega
  have h7 : (k == 7) = false := by simp; omega
  have h8 : (k == 8) = false := by simp; omega
  have h9 : (k == 9) = false := by simp; omega
  have h10 : (k == 10) = false := by simp; omega
  have h11 : (k == 11) = false := by simp; omega
  have h12 : (k == 12) = false := by simp; omega
  have h13 : (k == 13) = false := by simp; omega
  have h14 : (k == 14) = false := by simp; omega
  have h15 : (k == 15) = false := by simp; omega
  have h16 : (k == 16) = false := by simp; omega
  clear h
  go_enter Tryz.func87, Tryz.ntmps87
  go_upto_block 1 with fail
  refine wp_block ?_
  refine wp_hid (fun _ HQ => ?_)
  go_wp2_with fail
  refine HQ.out _ _ _ ?_
  clear HQ
  repeat (first | refine ex_then ?_ | refine nm_then ?_ | refine nm_blk ?_ | refine ex_blk_eq ?_ | refine ex_blk_ne rfl ?_)
  go_wp2_with fail
  refine bodyPost_ret (v := .tuple #[.agg #[.bool false, .bool false, .bool false, .bool false, .bool false, .bool false, .bool false, .bool false], .bool false]) (by simp [results, Tryz.results87, go_sem]) rfl ?_
  exact ⟨rfl, ((Keeps.refl _ _).alloc _).alloc _⟩

theorem tks_none {k : Int} (h : ¬ (1 ≤ k ∧ k ≤ 16)) : tks k = #[.bool false, .bool false, .bool false, .bool false, .bool false, .bool false, .bool false, .bool false] := by
  have ne : ∀ x : Int, 1 ≤ x → x ≤ 16 → (x == k) = false := fun x h1 h2 => by simp; omega
  unfold tks inL
  simp only [List.any_cons, List.any_nil, ne 1 (by omega) (by omega), ne 2 (by omega) (by omega), ne 3 (by omega) (by omega), ne 4 (by omega) (by omega), ne 5 (by omega) (by omega), ne 6 (by omega) (by omega), ne 7 (by omega) (by omega), ne 9 (by omega) (by omega), ne 10 (by omega) (by omega), ne 11 (by omega) (by omega), Bool.or_false]
  rw [decide_eq_false (by omega), decide_eq_false (by omega), decide_eq_false (by omega), decide_eq_false (by omega), decide_eq_false (by omega)]
theorem taken_any {w : World} (k : Int) :
    Calls Tryz.prog 87 #[.int .i64 k] w fun e w' => e = .returned (.tuple #[.agg (tks k), .bool (decide (1 ≤ k ∧ k ≤ 16))]) ∧ Keeps (fun _ => False) w w' := by
  by_cases h : 1 ≤ k ∧ k ≤ 16
  · rw [decide_eq_true h]
    have hk : k = 1 ∨ k = 2 ∨ k = 3 ∨ k = 4 ∨ k = 5 ∨ k = 6 ∨ k = 7 ∨ k = 8 ∨ k = 9 ∨ k = 10 ∨ k = 11 ∨ k = 12 ∨ k = 13 ∨ k = 14 ∨ k = 15 ∨ k = 16 := by omega
    rcases hk with rfl | rfl | rfl | rfl | rfl | rfl | rfl | rfl | rfl | rfl | rfl | rfl | rfl | rfl | rfl | rfl
    · exact taken_1
    · exact taken_2
    · exact taken_3
    · exact taken_4
    · exact taken_5
    · exact taken_6
    · exact taken_7
    · exact taken_8
    · exact taken_9
    · exact taken_10
    · exact taken_11
    · exact taken_12
    · exact taken_13
    · exact taken_14
    · exact taken_15
    · exact taken_16
  · rw [decide_eq_false h, tks_none h]
    exact taken_none h
end Go.Proofs.YthidipigpfcbbaaGreatDoor

namespace Go.Proofs.YthidipigpfcbbaaGreatDoor
open Go.RowKit Go.Extern.Stop Go.Stop Go.Extern

theorem argR_yes (r n : Int) (w : World) :
    Calls Tryz.prog 91 #[.bool true, .agg #[.int .i64 r, .int .i64 n]] w fun e w' => e = .returned (.bool (argOk r n true)) ∧ Keeps (fun _ => False) w w' := by
  have k : Hid (Keeps (fun _ => False) w (w.alloc (.cells #[.int .i64 r, .int .i64 n] 38))) := Lib.hid ((Keeps.refl _ w).alloc _)
  obtain ⟨x, hx⟩ : ∃ x, argOk r n true = x := ⟨_, rfl⟩
  rw [hx]
  have e : x = decide (0 ≤ r ∧ r ≤ 8 ∧ -999 ≤ n ∧ n ≤ 999) := by rw [← hx]; rfl
  have e' := Lib.hid e
  clear hx e
  by_cases h0 : 0 ≤ r
  · by_cases h1 : r ≤ 8
    · by_cases h2 : -999 ≤ n
      · by_cases h3 : n ≤ 999
        · obtain rfl : x = true := by rw [e'.out]; exact decide_eq_true ⟨h0, h1, h2, h3⟩
          go_enter Tryz.func91, Tryz.ntmps91
          go_wp2
          go_ret
          exact ⟨rfl, k.out⟩
        · obtain rfl : x = false := by rw [e'.out]; exact decide_eq_false (by omega)
          go_enter Tryz.func91, Tryz.ntmps91
          go_wp2
          go_ret
          exact ⟨rfl, k.out⟩
      · obtain rfl : x = false := by rw [e'.out]; exact decide_eq_false (by omega)
        go_enter Tryz.func91, Tryz.ntmps91
        go_wp2
        go_ret
        exact ⟨rfl, k.out⟩
    · obtain rfl : x = false := by rw [e'.out]; exact decide_eq_false (by omega)
      go_enter Tryz.func91, Tryz.ntmps91
      go_wp2
      go_ret
      exact ⟨rfl, k.out⟩
  · obtain rfl : x = false := by rw [e'.out]; exact decide_eq_false (by omega)
    go_enter Tryz.func91, Tryz.ntmps91
    go_wp2
    go_ret
    exact ⟨rfl, k.out⟩
theorem argR_no (r n : Int) (w : World) :
    Calls Tryz.prog 91 #[.bool false, .agg #[.int .i64 r, .int .i64 n]] w fun e w' => e = .returned (.bool (argOk r n false)) ∧ Keeps (fun _ => False) w w' := by
  have k : Hid (Keeps (fun _ => False) w (w.alloc (.cells #[.int .i64 r, .int .i64 n] 38))) := Lib.hid ((Keeps.refl _ w).alloc _)
  obtain ⟨x, hx⟩ : ∃ x, argOk r n false = x := ⟨_, rfl⟩
  rw [hx]
  have e : x = decide (r = 0 ∧ n = 0) := by rw [← hx]; rfl
  have e' := Lib.hid e
  clear hx e
  by_cases h1 : r = 0
  · by_cases h2 : n = 0
    · obtain rfl : x = true := by rw [e'.out]; exact decide_eq_true ⟨h1, h2⟩
      subst h1
      subst h2
      go_enter Tryz.func91, Tryz.ntmps91
      go_wp2
      go_ret
      exact ⟨rfl, k.out⟩
    · obtain rfl : x = false := by rw [e'.out]; exact decide_eq_false (by omega)
      subst h1
      have hb : (n == 0) = false := by simpa using h2
      go_enter Tryz.func91, Tryz.ntmps91
      go_wp2
      go_ret
      exact ⟨rfl, k.out⟩
  · obtain rfl : x = false := by rw [e'.out]; exact decide_eq_false (by omega)
    have hb : (r == 0) = false := by simpa using h1
    go_enter Tryz.func91, Tryz.ntmps91
    go_wp2
    go_ret
    exact ⟨rfl, k.out⟩
theorem argR_any (r n : Int) (b : Bool) (w : World) :
    Calls Tryz.prog 91 #[.bool b, .agg #[.int .i64 r, .int .i64 n]] w fun e w' => e = .returned (.bool (argOk r n b)) ∧ Keeps (fun _ => False) w w' := by
  cases b
  · exact argR_no r n w
  · exact argR_yes r n w
theorem regR_any (b0 b1 b2 b3 b4 b5 b6 b7 : Bool) (r : Int) {w : World} :
    Calls Tryz.prog 89 #[.agg #[.bool b0, .bool b1, .bool b2, .bool b3, .bool b4, .bool b5, .bool b6, .bool b7], .int .i64 r] w fun e w' => e = .returned (.bool (if b2 then decide (1 ≤ r ∧ r ≤ 8) else decide (r = 0))) ∧ Keeps (fun _ => False) w w' := by
  have k : Hid (Keeps (fun _ => False) w (w.alloc (.cells #[.bool b0, .bool b1, .bool b2, .bool b3, .bool b4, .bool b5, .bool b6, .bool b7] 174))) := Lib.hid ((Keeps.refl _ w).alloc _)
  cases b2 with
  | false =>
    simp only [Bool.false_eq_true, ↓reduceIte]
    by_cases h : r = 0
    · rw [decide_eq_true h]
      subst h
      go_enter Tryz.func89, Tryz.ntmps89
      go_wp2
      go_ret
      exact ⟨rfl, k.out⟩
    · rw [decide_eq_false h]
      have hb : (r == 0) = false := by simpa using h
      go_enter Tryz.func89, Tryz.ntmps89
      go_wp2
      go_ret
      exact ⟨rfl, k.out⟩
  | true =>
    simp only [↓reduceIte]
    by_cases h1 : 1 ≤ r
    · by_cases h2 : r ≤ 8
      · rw [decide_eq_true ⟨h1, h2⟩]
        go_enter Tryz.func89, Tryz.ntmps89
        go_wp2
        go_ret
        exact ⟨rfl, k.out⟩
      · rw [decide_eq_false (by omega)]
        go_enter Tryz.func89, Tryz.ntmps89
        go_wp2
        go_ret
        exact ⟨rfl, k.out⟩
    · rw [decide_eq_false (by omega)]
      go_enter Tryz.func89, Tryz.ntmps89
      go_wp2
      go_ret
      exact ⟨rfl, k.out⟩
theorem aR_any (b0 b1 b2 b3 b4 b5 b6 b7 : Bool) (r n : Int) {w : World} :
    Calls Tryz.prog 90 #[.agg #[.bool b0, .bool b1, .bool b2, .bool b3, .bool b4, .bool b5, .bool b6, .bool b7], .agg #[.int .i64 r, .int .i64 n]] w fun e w' => e = .returned (.bool (if b5 then decide (r = 0 ∧ 0 ≤ n ∧ n ≤ 5) else argOk r n b3)) ∧ Keeps (fun _ => False) w w' := by
  have k : Hid (Keeps (fun _ => False) w ((w.alloc (.cells #[.bool b0, .bool b1, .bool b2, .bool b3, .bool b4, .bool b5, .bool b6, .bool b7] 174)).alloc (.cells #[.int .i64 r, .int .i64 n] 38))) := Lib.hid (((Keeps.refl _ w).alloc _).alloc _)
  cases b5 with
  | false =>
    simp only [Bool.false_eq_true, ↓reduceIte]
    have ca := Lib.hid (fun V => argR_any r n b3 V)
    go_enter Tryz.func90, Tryz.ntmps90
    go_wp2_with fail
    refine (ca.out _).mono ?_
    rintro e w2 ⟨rfl, hK⟩
    have K2 := Lib.hid (k.out.trans hK fun _ _ => id)
    clear hK
    go_wp2_with fail
    go_ret
    exact ⟨rfl, K2.out⟩
  | true =>
    simp only [↓reduceIte]
    by_cases h0 : r = 0
    · subst h0
      by_cases h1 : 0 ≤ n
      · by_cases h2 : n ≤ 5
        · rw [decide_eq_true ⟨rfl, h1, h2⟩]
          go_enter Tryz.func90, Tryz.ntmps90
          go_wp2
          go_ret
          exact ⟨rfl, k.out⟩
        · rw [decide_eq_false (by omega)]
          go_enter Tryz.func90, Tryz.ntmps90
          go_wp2
          go_ret
          exact ⟨rfl, k.out⟩
      · rw [decide_eq_false (by omega)]
        go_enter Tryz.func90, Tryz.ntmps90
        go_wp2
        go_ret
        exact ⟨rfl, k.out⟩
    · rw [decide_eq_false (by omega)]
      have hb : (r == 0) = false := by simpa using h0
      go_enter Tryz.func90, Tryz.ntmps90
      go_wp2
      go_ret
      exact ⟨rfl, k.out⟩
theorem collR_any {w : World} (b0 b1 b2 b3 b4 b5 b6 b7 : Bool) (c : Int) {ko : Option Addr} {kn kc : Nat} {K : List Int} (hK : IntL w ko kn K) (few : kn ≤ 1000)  :
    Calls Tryz.prog 88 #[.agg #[.bool b0, .bool b1, .bool b2, .bool b3, .bool b4, .bool b5, .bool b6, .bool b7], .int .i64 c, .slice ko kn kc] w fun e w' => e = .returned (.bool (if b0 then decide (0 ≤ c ∧ c < (K.length : Int)) && (!b1 || K.getD c.toNat 0 == 3) else decide (c = 0))) ∧ Keeps (fun _ => False) w w' := by
  have k : Hid (Keeps (fun _ => False) w (w.alloc (.cells #[.bool b0, .bool b1, .bool b2, .bool b3, .bool b4, .bool b5, .bool b6, .bool b7] 174))) := Lib.hid ((Keeps.refl _ w).alloc _)
  have hl : K.length = kn := hK.1
  have k1000 : (kn : Int) ≤ 1000 := by omega
  cases b0 with
  | false =>
    simp only [Bool.false_eq_true, ↓reduceIte]
    clear hK hl
    by_cases h : c = 0
    · rw [decide_eq_true h]
      subst h
      go_enter Tryz.func88, Tryz.ntmps88
      go_wp2
      go_ret
      exact ⟨rfl, k.out⟩
    · rw [decide_eq_false h]
      have hb : (c == 0) = false := by simpa using h
      go_enter Tryz.func88, Tryz.ntmps88
      go_wp2
      go_ret
      exact ⟨rfl, k.out⟩
  | true =>
    simp only [↓reduceIte]
    rw [hl]
    by_cases h1 : 0 ≤ c
    · by_cases h2 : c < (kn : Int)
      · rw [decide_eq_true ⟨h1, h2⟩]
        obtain ⟨i, hi⟩ : ∃ i : Nat, c = (i : Int) := ⟨c.toNat, by omega⟩
        obtain ⟨x, hx⟩ : ∃ x, K[i]? = some x := ⟨_, List.getElem?_eq_getElem (by omega)⟩
        have hg : K.getD c.toNat 0 = x := by rw [hi, Int.toNat_natCast, List.getD, hx]; rfl
        rw [hg]
        subst hi
        cases b1 with
        | false =>
          clear hK hl hx hg
          go_enter Tryz.func88, Tryz.ntmps88
          go_wp2
          go_ret
          exact ⟨rfl, k.out⟩
        | true =>
          obtain ⟨bb, oo, rfl, hc⟩ := hK.at_ (by omega)
          have c0 := (k.out.cell (cell_lt (hc i x hx)) id).trans (hc i x hx)
          clear hK hl hx hg hc
          by_cases h3 : x = 3
          · subst h3
            go_enter Tryz.func88, Tryz.ntmps88
            go_wp2
            go_ret
            exact ⟨rfl, k.out⟩
          · have hb : (x == 3) = false := by simpa using h3
            rw [hb]
            go_enter Tryz.func88, Tryz.ntmps88
            go_wp2
            go_ret
            exact ⟨rfl, k.out⟩
      · rw [decide_eq_false (by omega)]
        clear hK hl
        go_enter Tryz.func88, Tryz.ntmps88
        go_wp2
        go_ret
        exact ⟨rfl, k.out⟩
    · rw [decide_eq_false (by omega)]
      clear hK hl
      go_enter Tryz.func88, Tryz.ntmps88
      go_wp2
      go_ret
      exact ⟨rfl, k.out⟩
end Go.Proofs.YthidipigpfcbbaaGreatDoor

namespace Go.Proofs.YthidipigpfcbbaaGreatDoor
open Go.RowKit Go.Extern.Stop Go.Stop Go.Extern

/-- What the program asks of a statement. -/
def oneB (s : St7) (nb ne : Nat) (K : List Int) (b0 b1 b2 b3 b4 b5 b6 b7 kn : Bool) : Bool :=
  kn && ((if b0 then decide (0 ≤ s.c ∧ s.c < (K.length : Int)) && (!b1 || K.getD s.c.toNat 0 == 3) else decide (s.c = 0)) && ((if b2 then decide (1 ≤ s.r ∧ s.r ≤ 8) else decide (s.r = 0)) && ((if b5 then decide (s.ar = 0 ∧ 0 ≤ s.an ∧ s.an ≤ 5) else argOk s.ar s.an b3) && (argOk s.br s.bn b4 && ((b6 || decide (nb = 0)) && (b7 || decide (ne = 0)))))))

theorem loop_arg (r n : Int) : (argOk r n true && decide (r = 0 ∧ 0 ≤ n ∧ n ≤ 5)) = decide (r = 0 ∧ 0 ≤ n ∧ n ≤ 5) := by
  by_cases h : r = 0 ∧ 0 ≤ n ∧ n ≤ 5
  · have h2 : argOk r n true = true := by simp [argOk]; omega
    rw [h2]; rfl
  · rw [decide_eq_false h, Bool.and_false]

theorem one_eq (s : St7) (nb ne : Nat) (K : List Int) : one s nb ne K = oneB s nb ne K (decide (1 ≤ s.k ∧ s.k ≤ 8)) (decide (s.k = 6 ∨ s.k = 7)) (inL s.k [1, 4, 5, 6, 7, 9, 10]) (inL s.k [1, 2, 3, 4, 6, 7, 9, 10, 11]) (inL s.k [2, 7, 10, 11]) (decide (s.k = 12)) (decide (11 ≤ s.k ∧ s.k ≤ 14)) (decide (s.k = 11 ∨ s.k = 14)) (decide (1 ≤ s.k ∧ s.k ≤ 16)) := by
  obtain ⟨k, c, r, ar, an, br, bn⟩ := s
  by_cases h : 1 ≤ k ∧ k ≤ 16
  · have hk : k = 1 ∨ k = 2 ∨ k = 3 ∨ k = 4 ∨ k = 5 ∨ k = 6 ∨ k = 7 ∨ k = 8 ∨ k = 9 ∨ k = 10 ∨ k = 11 ∨ k = 12 ∨ k = 13 ∨ k = 14 ∨ k = 15 ∨ k = 16 := by omega
    rcases hk with rfl | rfl | rfl | rfl | rfl | rfl | rfl | rfl | rfl | rfl | rfl | rfl | rfl | rfl | rfl | rfl
    all_goals simp [one, oneB, inL, Bool.and_assoc]
    have h12 := loop_arg ar an
    simp only [Bool.decide_and] at h12
    generalize decide (ar = 0) = p at *
    generalize decide (0 ≤ an) = q at *
    generalize decide (an ≤ 5) = u at *
    generalize argOk ar an true = A at *
    generalize decide (c = 0) = c0
    generalize decide (r = 0) = r0
    generalize argOk br bn false = z0
    generalize decide (ne = 0) = y0
    cases p <;> cases q <;> cases u <;> cases A <;> first | (cases h12; done) | (cases c0 <;> cases r0 <;> cases z0 <;> rfl)
  · unfold one oneB
    simp only
    rw [decide_eq_false h]
    simp only [Bool.false_and]

set_option maxRecDepth 100000 in
set_option maxHeartbeats 1000000 in
theorem right_any {w : World} (s : St7) (b e : Sl) {ko : Option Addr} {kn kc : Nat} {K : List Int} (hK : IntL w ko kn K) (few : kn ≤ 1000) :
    Calls Tryz.prog 69 #[.agg (stAgg s b e), .slice ko kn kc] w fun e' w' => e' = .returned (.bool (one s b.2.1 e.2.1 K)) ∧ Keeps (fun _ => False) w w' := by
  rw [one_eq]
  have CT := Lib.hid (fun V => taken_any (w := V) s.k)
  unfold tks at CT
  generalize decide (1 ≤ s.k ∧ s.k ≤ 8) = b0 at *
  generalize decide (s.k = 6 ∨ s.k = 7) = b1 at *
  generalize inL s.k [1, 4, 5, 6, 7, 9, 10] = b2 at *
  generalize inL s.k [1, 2, 3, 4, 6, 7, 9, 10, 11] = b3 at *
  generalize inL s.k [2, 7, 10, 11] = b4 at *
  generalize decide (s.k = 12) = b5 at *
  generalize decide (11 ≤ s.k ∧ s.k ≤ 14) = b6 at *
  generalize decide (s.k = 11 ∨ s.k = 14) = b7 at *
  generalize decide (1 ≤ s.k ∧ s.k ≤ 16) = kk at *
  obtain ⟨k, c, r, ar, an, br, bn⟩ := s
  obtain ⟨x1, x2, x3⟩ := b
  obtain ⟨y1, y2, y3⟩ := e
  unfold stAgg slv oneB
  simp only at CT ⊢
  have CC := Lib.hid (fun V (q : Keeps (fun _ => False) w V) => collR_any b0 b1 b2 b3 b4 b5 b6 b7 c (w := V) (kc := kc) (hK.same q) few)
  have CR := Lib.hid (fun V => regR_any (w := V) b0 b1 b2 b3 b4 b5 b6 b7 r)
  have CA := Lib.hid (fun V => aR_any (w := V) b0 b1 b2 b3 b4 b5 b6 b7 ar an)
  have CB := Lib.hid (fun V => argR_any br bn b4 V)
  generalize (if b0 then decide (0 ≤ c ∧ c < (K.length : Int)) && (!b1 || K.getD c.toNat 0 == 3) else decide (c = 0)) = q1 at *
  generalize (if b2 then decide (1 ≤ r ∧ r ≤ 8) else decide (r = 0)) = q2 at *
  generalize (if b5 then decide (ar = 0 ∧ 0 ≤ an ∧ an ≤ 5) else argOk ar an b3) = q3 at *
  generalize argOk br bn b4 = q4 at *
  clear hK few
  go_enter Tryz.func69, Tryz.ntmps69
  go_wp2_with fail
  refine (CT.out _).mono ?_
  rintro e w2 ⟨rfl, hK⟩
  have K2 := Lib.hid (((Keeps.refl (fun _ => False) w).alloc _).trans hK fun _ _ => id)
  have S2 := Lib.hid ((Whole.made w 40 #[.int .i64 k, .int .i64 c, .int .i64 r, .int .i64 ar, .int .i64 an, .int .i64 br, .int .i64 bn, .slice x1 x2 x3, .slice y1 y2 y3]).keeps hK id)
  have SB : Hid (w.heap.size < w2.heap.size) := Lib.hid S2.out.lt
  clear hK CT
  go_upto_region 2 with fail
  obtain ⟨W3, hW3⟩ : ∃ V, V = w2.alloc (.cells #[.bool b0, .bool b1, .bool b2, .bool b3, .bool b4, .bool b5, .bool b6, .bool b7] 174) := ⟨_, rfl⟩
  have k3 : Keeps (fun _ => False) w2 W3 := by rw [hW3]; exact (Keeps.refl _ w2).alloc _
  have T3 : Whole W3 w2.heap.size 174 #[.bool b0, .bool b1, .bool b2, .bool b3, .bool b4, .bool b5, .bool b6, .bool b7] := by rw [hW3]; exact Whole.made _ _ _
  have S3 := S2.out.keeps k3 id
  have K3 := Lib.hid (K2.out.trans k3 fun _ _ => id)
  have FA : Hid (∀ V, Keeps (fun _ => False) W3 V → Whole V w2.heap.size 174 #[.bool b0, .bool b1, .bool b2, .bool b3, .bool b4, .bool b5, .bool b6, .bool b7] ∧ Whole V w.heap.size 40 #[.int .i64 k, .int .i64 c, .int .i64 r, .int .i64 ar, .int .i64 an, .int .i64 br, .int .i64 bn, .slice x1 x2 x3, .slice y1 y2 y3]) := Lib.hid fun V kV => ⟨T3.keeps kV id, S3.keeps kV id⟩
  rw [← hW3]
  obtain ⟨tb, htb⟩ : ∃ b, w2.heap.size = b := ⟨_, rfl⟩
  obtain ⟨sb, hsb⟩ : ∃ b, w.heap.size = b := ⟨_, rfl⟩
  rw [htb] at FA
  rw [hsb] at FA
  rw [htb, hsb]
  clear hW3 T3 S3 S2 k3 SB htb hsb
  have JJ : Hid (Keeps (fun _ => False) W3 W3) := Lib.hid (Keeps.refl _ _)
  cases kk with
  | false =>
    go_wp2_with fail
    go_ret
    exact ⟨by simp, K3.out⟩
  | true =>
    obtain ⟨tt, ss⟩ := FA.out _ JJ.out
    have t0 : W3.cell? ⟨tb, 0, none⟩ = some (.bool b0) := tt.at_ 0
    have t1 : W3.cell? ⟨tb, 1, none⟩ = some (.bool b1) := tt.at_ 1
    have t2 : W3.cell? ⟨tb, 2, none⟩ = some (.bool b2) := tt.at_ 2
    have t3 : W3.cell? ⟨tb, 3, none⟩ = some (.bool b3) := tt.at_ 3
    have t4 : W3.cell? ⟨tb, 4, none⟩ = some (.bool b4) := tt.at_ 4
    have t5 : W3.cell? ⟨tb, 5, none⟩ = some (.bool b5) := tt.at_ 5
    have t6 : W3.cell? ⟨tb, 6, none⟩ = some (.bool b6) := tt.at_ 6
    have t7 : W3.cell? ⟨tb, 7, none⟩ = some (.bool b7) := tt.at_ 7
    have s0 : W3.cell? ⟨sb, 0, none⟩ = some (.int .i64 k) := ss.at_ 0
    have s1 : W3.cell? ⟨sb, 1, none⟩ = some (.int .i64 c) := ss.at_ 1
    have s2 : W3.cell? ⟨sb, 2, none⟩ = some (.int .i64 r) := ss.at_ 2
    have s3 : W3.cell? ⟨sb, 3, none⟩ = some (.int .i64 ar) := ss.at_ 3
    have s4 : W3.cell? ⟨sb, 4, none⟩ = some (.int .i64 an) := ss.at_ 4
    have s5 : W3.cell? ⟨sb, 5, none⟩ = some (.int .i64 br) := ss.at_ 5
    have s6 : W3.cell? ⟨sb, 6, none⟩ = some (.int .i64 bn) := ss.at_ 6
    have s7 : W3.cell? ⟨sb, 7, none⟩ = some (.slice x1 x2 x3) := ss.at_ 7
    have s8 : W3.cell? ⟨sb, 8, none⟩ = some (.slice y1 y2 y3) := ss.at_ 8
    clear tt ss
    go_wp2_with fail
    refine (CC.out _ K3.out).mono ?_
    rintro e V0 ⟨rfl, hK⟩
    have J0 := Lib.hid (JJ.out.trans hK fun _ _ => id)
    have L0 := Lib.hid (K3.out.trans hK fun _ _ => id)
    clear hK t0 t1 t2 t3 t4 t5 t6 t7 s0 s1 s2 s3 s4 s5 s6 s7 s8
    cases q1 with
    | false =>
      go_wp2_with fail
      go_ret
      exact ⟨by simp, L0.out⟩
    | true =>
      obtain ⟨tt, ss⟩ := FA.out _ J0.out
      have t0 : V0.cell? ⟨tb, 0, none⟩ = some (.bool b0) := tt.at_ 0
      have t1 : V0.cell? ⟨tb, 1, none⟩ = some (.bool b1) := tt.at_ 1
      have t2 : V0.cell? ⟨tb, 2, none⟩ = some (.bool b2) := tt.at_ 2
      have t3 : V0.cell? ⟨tb, 3, none⟩ = some (.bool b3) := tt.at_ 3
      have t4 : V0.cell? ⟨tb, 4, none⟩ = some (.bool b4) := tt.at_ 4
      have t5 : V0.cell? ⟨tb, 5, none⟩ = some (.bool b5) := tt.at_ 5
      have t6 : V0.cell? ⟨tb, 6, none⟩ = some (.bool b6) := tt.at_ 6
      have t7 : V0.cell? ⟨tb, 7, none⟩ = some (.bool b7) := tt.at_ 7
      have s0 : V0.cell? ⟨sb, 0, none⟩ = some (.int .i64 k) := ss.at_ 0
      have s1 : V0.cell? ⟨sb, 1, none⟩ = some (.int .i64 c) := ss.at_ 1
      have s2 : V0.cell? ⟨sb, 2, none⟩ = some (.int .i64 r) := ss.at_ 2
      have s3 : V0.cell? ⟨sb, 3, none⟩ = some (.int .i64 ar) := ss.at_ 3
      have s4 : V0.cell? ⟨sb, 4, none⟩ = some (.int .i64 an) := ss.at_ 4
      have s5 : V0.cell? ⟨sb, 5, none⟩ = some (.int .i64 br) := ss.at_ 5
      have s6 : V0.cell? ⟨sb, 6, none⟩ = some (.int .i64 bn) := ss.at_ 6
      have s7 : V0.cell? ⟨sb, 7, none⟩ = some (.slice x1 x2 x3) := ss.at_ 7
      have s8 : V0.cell? ⟨sb, 8, none⟩ = some (.slice y1 y2 y3) := ss.at_ 8
      clear tt ss
      go_wp2_with fail
      refine (CR.out _).mono ?_
      rintro e V1 ⟨rfl, hK⟩
      have J1 := Lib.hid (J0.out.trans hK fun _ _ => id)
      have L1 := Lib.hid (L0.out.trans hK fun _ _ => id)
      clear hK t0 t1 t2 t3 t4 t5 t6 t7 s0 s1 s2 s3 s4 s5 s6 s7 s8
      cases q2 with
      | false =>
        go_wp2_with fail
        go_ret
        exact ⟨by simp, L1.out⟩
      | true =>
        obtain ⟨tt, ss⟩ := FA.out _ J1.out
        have t0 : V1.cell? ⟨tb, 0, none⟩ = some (.bool b0) := tt.at_ 0
        have t1 : V1.cell? ⟨tb, 1, none⟩ = some (.bool b1) := tt.at_ 1
        have t2 : V1.cell? ⟨tb, 2, none⟩ = some (.bool b2) := tt.at_ 2
        have t3 : V1.cell? ⟨tb, 3, none⟩ = some (.bool b3) := tt.at_ 3
        have t4 : V1.cell? ⟨tb, 4, none⟩ = some (.bool b4) := tt.at_ 4
        have t5 : V1.cell? ⟨tb, 5, none⟩ = some (.bool b5) := tt.at_ 5
        have t6 : V1.cell? ⟨tb, 6, none⟩ = some (.bool b6) := tt.at_ 6
        have t7 : V1.cell? ⟨tb, 7, none⟩ = some (.bool b7) := tt.at_ 7
        have s0 : V1.cell? ⟨sb, 0, none⟩ = some (.int .i64 k) := ss.at_ 0
        have s1 : V1.cell? ⟨sb, 1, none⟩ = some (.int .i64 c) := ss.at_ 1
        have s2 : V1.cell? ⟨sb, 2, none⟩ = some (.int .i64 r) := ss.at_ 2
        have s3 : V1.cell? ⟨sb, 3, none⟩ = some (.int .i64 ar) := ss.at_ 3
        have s4 : V1.cell? ⟨sb, 4, none⟩ = some (.int .i64 an) := ss.at_ 4
        have s5 : V1.cell? ⟨sb, 5, none⟩ = some (.int .i64 br) := ss.at_ 5
        have s6 : V1.cell? ⟨sb, 6, none⟩ = some (.int .i64 bn) := ss.at_ 6
        have s7 : V1.cell? ⟨sb, 7, none⟩ = some (.slice x1 x2 x3) := ss.at_ 7
        have s8 : V1.cell? ⟨sb, 8, none⟩ = some (.slice y1 y2 y3) := ss.at_ 8
        clear tt ss
        go_wp2_with fail
        refine (CA.out _).mono ?_
        rintro e V2 ⟨rfl, hK⟩
        have J2 := Lib.hid (J1.out.trans hK fun _ _ => id)
        have L2 := Lib.hid (L1.out.trans hK fun _ _ => id)
        clear hK t0 t1 t2 t3 t4 t5 t6 t7 s0 s1 s2 s3 s4 s5 s6 s7 s8
        cases q3 with
        | false =>
          go_wp2_with fail
          go_ret
          exact ⟨by simp, L2.out⟩
        | true =>
          obtain ⟨tt, ss⟩ := FA.out _ J2.out
          have t0 : V2.cell? ⟨tb, 0, none⟩ = some (.bool b0) := tt.at_ 0
          have t1 : V2.cell? ⟨tb, 1, none⟩ = some (.bool b1) := tt.at_ 1
          have t2 : V2.cell? ⟨tb, 2, none⟩ = some (.bool b2) := tt.at_ 2
          have t3 : V2.cell? ⟨tb, 3, none⟩ = some (.bool b3) := tt.at_ 3
          have t4 : V2.cell? ⟨tb, 4, none⟩ = some (.bool b4) := tt.at_ 4
          have t5 : V2.cell? ⟨tb, 5, none⟩ = some (.bool b5) := tt.at_ 5
          have t6 : V2.cell? ⟨tb, 6, none⟩ = some (.bool b6) := tt.at_ 6
          have t7 : V2.cell? ⟨tb, 7, none⟩ = some (.bool b7) := tt.at_ 7
          have s0 : V2.cell? ⟨sb, 0, none⟩ = some (.int .i64 k) := ss.at_ 0
          have s1 : V2.cell? ⟨sb, 1, none⟩ = some (.int .i64 c) := ss.at_ 1
          have s2 : V2.cell? ⟨sb, 2, none⟩ = some (.int .i64 r) := ss.at_ 2
          have s3 : V2.cell? ⟨sb, 3, none⟩ = some (.int .i64 ar) := ss.at_ 3
          have s4 : V2.cell? ⟨sb, 4, none⟩ = some (.int .i64 an) := ss.at_ 4
          have s5 : V2.cell? ⟨sb, 5, none⟩ = some (.int .i64 br) := ss.at_ 5
          have s6 : V2.cell? ⟨sb, 6, none⟩ = some (.int .i64 bn) := ss.at_ 6
          have s7 : V2.cell? ⟨sb, 7, none⟩ = some (.slice x1 x2 x3) := ss.at_ 7
          have s8 : V2.cell? ⟨sb, 8, none⟩ = some (.slice y1 y2 y3) := ss.at_ 8
          clear tt ss
          go_wp2_with fail
          refine (CB.out _).mono ?_
          rintro e V3 ⟨rfl, hK⟩
          have J3 := Lib.hid (J2.out.trans hK fun _ _ => id)
          have L3 := Lib.hid (L2.out.trans hK fun _ _ => id)
          clear hK t0 t1 t2 t3 t4 t5 t6 t7 s0 s1 s2 s3 s4 s5 s6 s7 s8
          cases q4 with
          | false =>
            go_wp2_with fail
            go_ret
            exact ⟨by simp, L3.out⟩
          | true =>
            obtain ⟨tt, ss⟩ := FA.out _ J3.out
            have t0 : V3.cell? ⟨tb, 0, none⟩ = some (.bool b0) := tt.at_ 0
            have t1 : V3.cell? ⟨tb, 1, none⟩ = some (.bool b1) := tt.at_ 1
            have t2 : V3.cell? ⟨tb, 2, none⟩ = some (.bool b2) := tt.at_ 2
            have t3 : V3.cell? ⟨tb, 3, none⟩ = some (.bool b3) := tt.at_ 3
            have t4 : V3.cell? ⟨tb, 4, none⟩ = some (.bool b4) := tt.at_ 4
            have t5 : V3.cell? ⟨tb, 5, none⟩ = some (.bool b5) := tt.at_ 5
            have t6 : V3.cell? ⟨tb, 6, none⟩ = some (.bool b6) := tt.at_ 6
            have t7 : V3.cell? ⟨tb, 7, none⟩ = some (.bool b7) := tt.at_ 7
            have s0 : V3.cell? ⟨sb, 0, none⟩ = some (.int .i64 k) := ss.at_ 0
            have s1 : V3.cell? ⟨sb, 1, none⟩ = some (.int .i64 c) := ss.at_ 1
            have s2 : V3.cell? ⟨sb, 2, none⟩ = some (.int .i64 r) := ss.at_ 2
            have s3 : V3.cell? ⟨sb, 3, none⟩ = some (.int .i64 ar) := ss.at_ 3
            have s4 : V3.cell? ⟨sb, 4, none⟩ = some (.int .i64 an) := ss.at_ 4
            have s5 : V3.cell? ⟨sb, 5, none⟩ = some (.int .i64 br) := ss.at_ 5
            have s6 : V3.cell? ⟨sb, 6, none⟩ = some (.int .i64 bn) := ss.at_ 6
            have s7 : V3.cell? ⟨sb, 7, none⟩ = some (.slice x1 x2 x3) := ss.at_ 7
            have s8 : V3.cell? ⟨sb, 8, none⟩ = some (.slice y1 y2 y3) := ss.at_ 8
            clear tt ss
            cases b6 with
            | true =>
              cases b7 with
              | true =>
                go_wp2_with fail
                go_ret
                exact ⟨by simp, L3.out⟩
              | false =>
                by_cases hy : y2 = 0
                · subst hy
                  go_wp2_with fail
                  go_ret
                  exact ⟨by simp, L3.out⟩
                · have hy0 : ((y2 : Int) == 0) = false := by simp; omega
                  go_wp2_with fail
                  go_ret
                  exact ⟨by first | (simp; done) | simp [hy], L3.out⟩
            | false =>
              by_cases hx : x2 = 0
              · subst hx
                cases b7 with
                | true =>
                  go_wp2_with fail
                  go_ret
                  exact ⟨by simp, L3.out⟩
                | false =>
                  by_cases hy : y2 = 0
                  · subst hy
                    go_wp2_with fail
                    go_ret
                    exact ⟨by simp, L3.out⟩
                  · have hy0 : ((y2 : Int) == 0) = false := by simp; omega
                    go_wp2_with fail
                    go_ret
                    exact ⟨by first | (simp; done) | simp [hy], L3.out⟩
              · have hx0 : ((x2 : Int) == 0) = false := by simp; omega
                go_wp2_with fail
                go_ret
                exact ⟨by first | (simp; done) | simp [hx], L3.out⟩
end Go.Proofs.YthidipigpfcbbaaGreatDoor
