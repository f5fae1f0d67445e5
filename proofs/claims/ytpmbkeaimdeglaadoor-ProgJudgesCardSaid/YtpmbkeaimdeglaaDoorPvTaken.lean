/-
  prog.taken by contract: what the statements of a kind take.
-/
import Derived.Test.YtpmbkeaimdeglaaDoorPgOneAll
namespace Go.Proofs.YtpmbkeaimdeglaaDoor
open Go.RowKit Go.Extern.Stop Go.Stop Go.Extern

/-- What a kind takes: a collection, an ordered one, a register, A, B, how often, Body, Else. -/
def tks (k : Int) : Array Value := #[.bool (decide (1 ≤ k ∧ k ≤ 8)), .bool (decide (k = 6 ∨ k = 7)), .bool (inL k [1, 4, 5, 6, 7, 9, 10]), .bool (inL k [1, 2, 3, 4, 6, 7, 9, 10, 11]), .bool (inL k [2, 7, 10, 11]), .bool (decide (k = 12)), .bool (decide (11 ≤ k ∧ k ≤ 14)), .bool (decide (k = 11 ∨ k = 14))]

/-! ### what stands behind a piece of code, behind a variable -/
section
variable {P : Program} {c : Code} {Q : Exit → Act → World → Prop} {K : Act → World → Prop} {a : Act} {w : World} {n id : Nat}
theorem wp_hid (h : ∀ Q' : Exit → Act → World → Prop, Hid (∀ e a w, Q e a w → Q' e a w) → c.wp P Q' a w) : c.wp P Q a w := h Q (Lib.hid fun _ _ _ q => q)
theorem ex_then (h : Q (.exit n) a w) : Exit.then K Q (.exit n) a w := h
theorem nm_then (h : K a w) : Exit.then K Q .normal a w := h
theorem nm_blk (h : Q .normal a w) : Exit.inBlock id Q .normal a w := h
theorem ex_blk_eq (h : Q .normal a w) : Exit.inBlock id Q (.exit id) a w := by simp only [Exit.inBlock, ↓reduceIte]; exact h
theorem ex_blk_ne (hn : (n == id) = false) (h : Q (.exit n) a w) : Exit.inBlock id Q (.exit n) a w := by
  have hn : n ≠ id := by simpa using hn
  simp only [Exit.inBlock, hn, ↓reduceIte]; exact h
end

set_option maxRecDepth 100000 in
set_option maxHeartbeats 2000000 in
theorem taken_1 {w : World} :
    Calls Tryd.prog 36 #[.int .i64 1] w fun e w' => e = .returned (.tuple #[.agg #[.bool true, .bool false, .bool true, .bool true, .bool false, .bool false, .bool false, .bool false], .bool true]) ∧ Keeps (fun _ => False) w w' := by
  go_enter Tryd.func36, Tryd.ntmps36
  go_upto_block 1 with fail
  refine wp_block ?_
  refine wp_hid (fun _ HQ => ?_)
  go_wp2_with fail
  refine HQ.out _ _ _ ?_
  clear HQ
  repeat (first | refine ex_then ?_ | refine nm_then ?_ | refine nm_blk ?_ | refine ex_blk_eq ?_ | refine ex_blk_ne rfl ?_)
  go_upto_region 21 with fail
  refine wp_hid (fun _ HQ => ?_)
  go_wp2_with fail
  refine HQ.out _ _ _ ?_
  clear HQ
  repeat (first | refine ex_then ?_ | refine nm_then ?_ | refine nm_blk ?_ | refine ex_blk_eq ?_ | refine ex_blk_ne rfl ?_)
  go_upto_region 22 with fail
  refine wp_hid (fun _ HQ => ?_)
  go_wp2_with fail
  refine HQ.out _ _ _ ?_
  clear HQ
  repeat (first | refine ex_then ?_ | refine nm_then ?_ | refine nm_blk ?_ | refine ex_blk_eq ?_ | refine ex_blk_ne rfl ?_)
  go_upto_region 23 with fail
  refine wp_hid (fun _ HQ => ?_)
  go_wp2_with fail
  refine HQ.out _ _ _ ?_
  clear HQ
  repeat (first | refine ex_then ?_ | refine nm_then ?_ | refine nm_blk ?_ | refine ex_blk_eq ?_ | refine ex_blk_ne rfl ?_)
  go_wp2_with fail
  refine bodyPost_ret (v := .tuple #[.agg #[.bool true, .bool false, .bool true, .bool true, .bool false, .bool false, .bool false, .bool false], .bool true]) (by simp [results, Tryd.results36, go_sem]) rfl ?_
  exact ⟨rfl, ((Keeps.refl _ _).alloc _).alloc _⟩
set_option maxRecDepth 100000 in
set_option maxHeartbeats 2000000 in
theorem taken_2 {w : World} :
    Calls Tryd.prog 36 #[.int .i64 2] w fun e w' => e = .returned (.tuple #[.agg #[.bool true, .bool false, .bool false, .bool true, .bool true, .bool false, .bool false, .bool false], .bool true]) ∧ Keeps (fun _ => False) w w' := by
  go_enter Tryd.func36, Tryd.ntmps36
  go_upto_block 1 with fail
  refine wp_block ?_
  refine wp_hid (fun _ HQ => ?_)
  go_wp2_with fail
  refine HQ.out _ _ _ ?_
  clear HQ
  repeat (first | refine ex_then ?_ | refine nm_then ?_ | refine nm_blk ?_ | refine ex_blk_eq ?_ | refine ex_blk_ne rfl ?_)
  go_upto_region 24 with fail
  refine wp_hid (fun _ HQ => ?_)
  go_wp2_with fail
  refine HQ.out _ _ _ ?_
  clear HQ
  repeat (first | refine ex_then ?_ | refine nm_then ?_ | refine nm_blk ?_ | refine ex_blk_eq ?_ | refine ex_blk_ne rfl ?_)
  go_upto_region 25 with fail
  refine wp_hid (fun _ HQ => ?_)
  go_wp2_with fail
  refine HQ.out _ _ _ ?_
  clear HQ
  repeat (first | refine ex_then ?_ | refine nm_then ?_ | refine nm_blk ?_ | refine ex_blk_eq ?_ | refine ex_blk_ne rfl ?_)
  go_wp2_with fail
  refine bodyPost_ret (v := .tuple #[.agg #[.bool true, .bool false, .bool false, .bool true, .bool true, .bool false, .bool false, .bool false], .bool true]) (by simp [results, Tryd.results36, go_sem]) rfl ?_
  exact ⟨rfl, ((Keeps.refl _ _).alloc _).alloc _⟩
set_option maxRecDepth 100000 in
set_option maxHeartbeats 2000000 in
theorem taken_3 {w : World} :
    Calls Tryd.prog 36 #[.int .i64 3] w fun e w' => e = .returned (.tuple #[.agg #[.bool true, .bool false, .bool false, .bool true, .bool false, .bool false, .bool false, .bool false], .bool true]) ∧ Keeps (fun _ => False) w w' := by
  go_enter Tryd.func36, Tryd.ntmps36
  go_upto_block 1 with fail
  refine wp_block ?_
  refine wp_hid (fun _ HQ => ?_)
  go_wp2_with fail
  refine HQ.out _ _ _ ?_
  clear HQ
  repeat (first | refine ex_then ?_ | refine nm_then ?_ | refine nm_blk ?_ | refine ex_blk_eq ?_ | refine ex_blk_ne rfl ?_)
  go_upto_region 25 with fail
  refine wp_hid (fun _ HQ => ?_)
  go_wp2_with fail
  refine HQ.out _ _ _ ?_
  clear HQ
  repeat (first | refine ex_then ?_ | refine nm_then ?_ | refine nm_blk ?_ | refine ex_blk_eq ?_ | refine ex_blk_ne rfl ?_)
  go_wp2_with fail
  refine bodyPost_ret (v := .tuple #[.agg #[.bool true, .bool false, .bool false, .bool true, .bool false, .bool false, .bool false, .bool false], .bool true]) (by simp [results, Tryd.results36, go_sem]) rfl ?_
  exact ⟨rfl, ((Keeps.refl _ _).alloc _).alloc _⟩
set_option maxRecDepth 100000 in
set_option maxHeartbeats 2000000 in
theorem taken_4 {w : World} :
    Calls Tryd.prog 36 #[.int .i64 4] w fun e w' => e = .returned (.tuple #[.agg #[.bool true, .bool false, .bool true, .bool true, .bool false, .bool false, .bool false, .bool false], .bool true]) ∧ Keeps (fun _ => False) w w' := by
  go_enter Tryd.func36, Tryd.ntmps36
  go_upto_block 1 with fail
  refine wp_block ?_
  refine wp_hid (fun _ HQ => ?_)
  go_wp2_with fail
  refine HQ.out _ _ _ ?_
  clear HQ
  repeat (first | refine ex_then ?_ | refine nm_then ?_ | refine nm_blk ?_ | refine ex_blk_eq ?_ | refine ex_blk_ne rfl ?_)
  go_upto_region 21 with fail
  refine wp_hid (fun _ HQ => ?_)
  go_wp2_with fail
  refine HQ.out _ _ _ ?_
  clear HQ
  repeat (first | refine ex_then ?_ | refine nm_then ?_ | refine nm_blk ?_ | refine ex_blk_eq ?_ | refine ex_blk_ne rfl ?_)
  go_upto_region 22 with fail
  refine wp_hid (fun _ HQ => ?_)
  go_wp2_with fail
  refine HQ.out _ _ _ ?_
  clear HQ
  repeat (first | refine ex_then ?_ | refine nm_then ?_ | refine nm_blk ?_ | refine ex_blk_eq ?_ | refine ex_blk_ne rfl ?_)
  go_upto_region 23 with fail
  refine wp_hid (fun _ HQ => ?_)
  go_wp2_with fail
  refine HQ.out _ _ _ ?_
  clear HQ
  repeat (first | refine ex_then ?_ | refine nm_then ?_ | refine nm_blk ?_ | refine ex_blk_eq ?_ | refine ex_blk_ne rfl ?_)
  go_wp2_with fail
  refine bodyPost_ret (v := .tuple #[.agg #[.bool true, .bool false, .bool true, .bool true, .bool false, .bool false, .bool false, .bool false], .bool true]) (by simp [results, Tryd.results36, go_sem]) rfl ?_
  exact ⟨rfl, ((Keeps.refl _ _).alloc _).alloc _⟩
set_option maxRecDepth 100000 in
set_option maxHeartbeats 2000000 in
theorem taken_5 {w : World} :
    Calls Tryd.prog 36 #[.int .i64 5] w fun e w' => e = .returned (.tuple #[.agg #[.bool true, .bool false, .bool true, .bool false, .bool false, .bool false, .bool false, .bool false], .bool true]) ∧ Keeps (fun _ => False) w w' := by
  go_enter Tryd.func36, Tryd.ntmps36
  go_upto_block 1 with fail
  refine wp_block ?_
  refine wp_hid (fun _ HQ => ?_)
  go_wp2_with fail
  refine HQ.out _ _ _ ?_
  clear HQ
  repeat (first | refine ex_then ?_ | refine nm_then ?_ | refine nm_blk ?_ | refine ex_blk_eq ?_ | refine ex_blk_ne rfl ?_)
  go_upto_region 22 with fail
  refine wp_hid (fun _ HQ => ?_)
  go_wp2_with fail
  refine HQ.out _ _ _ ?_
  clear HQ
  repeat (first | refine ex_then ?_ | refine nm_then ?_ | refine nm_blk ?_ | refine ex_blk_eq ?_ | refine ex_blk_ne rfl ?_)
  go_upto_region 23 with fail
  refine wp_hid (fun _ HQ => ?_)
  go_wp2_with fail
  refine HQ.out _ _ _ ?_
  clear HQ
  repeat (first | refine ex_then ?_ | refine nm_then ?_ | refine nm_blk ?_ | refine ex_blk_eq ?_ | refine ex_blk_ne rfl ?_)
  go_wp2_with fail
  refine bodyPost_ret (v := .tuple #[.agg #[.bool true, .bool false, .bool true, .bool false, .bool false, .bool false, .bool false, .bool false], .bool true]) (by simp [results, Tryd.results36, go_sem]) rfl ?_
  exact ⟨rfl, ((Keeps.refl _ _).alloc _).alloc _⟩
set_option maxRecDepth 100000 in
set_option maxHeartbeats 2000000 in
theorem taken_6 {w : World} :
    Calls Tryd.prog 36 #[.int .i64 6] w fun e w' => e = .returned (.tuple #[.agg #[.bool true, .bool true, .bool true, .bool true, .bool false, .bool false, .bool false, .bool false], .bool true]) ∧ Keeps (fun _ => False) w w' := by
  go_enter Tryd.func36, Tryd.ntmps36
  go_upto_block 1 with fail
  refine wp_block ?_
  refine wp_hid (fun _ HQ => ?_)
  go_wp2_with fail
  refine HQ.out _ _ _ ?_
  clear HQ
  repeat (first | refine ex_then ?_ | refine nm_then ?_ | refine nm_blk ?_ | refine ex_blk_eq ?_ | refine ex_blk_ne rfl ?_)
  go_upto_region 20 with fail
  refine wp_hid (fun _ HQ => ?_)
  go_wp2_with fail
  refine HQ.out _ _ _ ?_
  clear HQ
  repeat (first | refine ex_then ?_ | refine nm_then ?_ | refine nm_blk ?_ | refine ex_blk_eq ?_ | refine ex_blk_ne rfl ?_)
  go_upto_region 21 with fail
  refine wp_hid (fun _ HQ => ?_)
  go_wp2_with fail
  refine HQ.out _ _ _ ?_
  clear HQ
  repeat (first | refine ex_then ?_ | refine nm_then ?_ | refine nm_blk ?_ | refine ex_blk_eq ?_ | refine ex_blk_ne rfl ?_)
  go_upto_region 22 with fail
  refine wp_hid (fun _ HQ => ?_)
  go_wp2_with fail
  refine HQ.out _ _ _ ?_
  clear HQ
  repeat (first | refine ex_then ?_ | refine nm_then ?_ | refine nm_blk ?_ | refine ex_blk_eq ?_ | refine ex_blk_ne rfl ?_)
  go_upto_region 23 with fail
  refine wp_hid (fun _ HQ => ?_)
  go_wp2_with fail
  refine HQ.out _ _ _ ?_
  clear HQ
  repeat (first | refine ex_then ?_ | refine nm_then ?_ | refine nm_blk ?_ | refine ex_blk_eq ?_ | refine ex_blk_ne rfl ?_)
  go_wp2_with fail
  refine bodyPost_ret (v := .tuple #[.agg #[.bool true, .bool true, .bool true, .bool true, .bool false, .bool false, .bool false, .bool false], .bool true]) (by simp [results, Tryd.results36, go_sem]) rfl ?_
  exact ⟨rfl, ((Keeps.refl _ _).alloc _).alloc _⟩
set_option maxRecDepth 100000 in
set_option maxHeartbeats 2000000 in
theorem taken_7 {w : World} :
    Calls Tryd.prog 36 #[.int .i64 7] w fun e w' => e = .returned (.tuple #[.agg #[.bool true, .bool true, .bool true, .bool true, .bool true, .bool false, .bool false, .bool false], .bool true]) ∧ Keeps (fun _ => False) w w' := by
  go_enter Tryd.func36, Tryd.ntmps36
  go_upto_block 1 with fail
  refine wp_block ?_
  refine wp_hid (fun _ HQ => ?_)
  go_wp2_with fail
  refine HQ.out _ _ _ ?_
  clear HQ
  repeat (first | refine ex_then ?_ | refine nm_then ?_ | refine nm_blk ?_ | refine ex_blk_eq ?_ | refine ex_blk_ne rfl ?_)
  go_upto_region 19 with fail
  refine wp_hid (fun _ HQ => ?_)
  go_wp2_with fail
  refine HQ.out _ _ _ ?_
  clear HQ
  repeat (first | refine ex_then ?_ | refine nm_then ?_ | refine nm_blk ?_ | refine ex_blk_eq ?_ | refine ex_blk_ne rfl ?_)
  go_upto_region 20 with fail
  refine wp_hid (fun _ HQ => ?_)
  go_wp2_with fail
  refine HQ.out _ _ _ ?_
  clear HQ
  repeat (first | refine ex_then ?_ | refine nm_then ?_ | refine nm_blk ?_ | refine ex_blk_eq ?_ | refine ex_blk_ne rfl ?_)
  go_upto_region 21 with fail
  refine wp_hid (fun _ HQ => ?_)
  go_wp2_with fail
  refine HQ.out _ _ _ ?_
  clear HQ
  repeat (first | refine ex_then ?_ | refine nm_then ?_ | refine nm_blk ?_ | refine ex_blk_eq ?_ | refine ex_blk_ne rfl ?_)
  go_upto_region 22 with fail
  refine wp_hid (fun _ HQ => ?_)
  go_wp2_with fail
  refine HQ.out _ _ _ ?_
  clear HQ
  repeat (first | refine ex_then ?_ | refine nm_then ?_ | refine nm_blk ?_ | refine ex_blk_eq ?_ | refine ex_blk_ne rfl ?_)
  go_upto_region 23 with fail
  refine wp_hid (fun _ HQ => ?_)
  go_wp2_with fail
  refine HQ.out _ _ _ ?_
  clear HQ
  repeat (first | refine ex_then ?_ | refine nm_then ?_ | refine nm_blk ?_ | refine ex_blk_eq ?_ | refine ex_blk_ne rfl ?_)
  go_wp2_with fail
  refine bodyPost_ret (v := .tuple #[.agg #[.bool true, .bool true, .bool true, .bool true, .bool true, .bool false, .bool false, .bool false], .bool true]) (by simp [results, Tryd.results36, go_sem]) rfl ?_
  exact ⟨rfl, ((Keeps.refl _ _).alloc _).alloc _⟩
set_option maxRecDepth 100000 in
set_option maxHeartbeats 2000000 in
theorem taken_8 {w : World} :
    Calls Tryd.prog 36 #[.int .i64 8] w fun e w' => e = .returned (.tuple #[.agg #[.bool true, .bool false, .bool false, .bool false, .bool false, .bool false, .bool false, .bool false], .bool true]) ∧ Keeps (fun _ => False) w w' := by
  go_enter Tryd.func36, Tryd.ntmps36
  go_upto_block 1 with fail
  refine wp_block ?_
  refine wp_hid (fun _ HQ => ?_)
  go_wp2_with fail
  refine HQ.out _ _ _ ?_
  clear HQ
  repeat (first | refine ex_then ?_ | refine nm_then ?_ | refine nm_blk ?_ | refine ex_blk_eq ?_ | refine ex_blk_ne rfl ?_)
  go_upto_region 23 with fail
  refine wp_hid (fun _ HQ => ?_)
  go_wp2_with fail
  refine HQ.out _ _ _ ?_
  clear HQ
  repeat (first | refine ex_then ?_ | refine nm_then ?_ | refine nm_blk ?_ | refine ex_blk_eq ?_ | refine ex_blk_ne rfl ?_)
  go_wp2_with fail
  refine bodyPost_ret (v := .tuple #[.agg #[.bool true, .bool false, .bool false, .bool false, .bool false, .bool false, .bool false, .bool false], .bool true]) (by simp [results, Tryd.results36, go_sem]) rfl ?_
  exact ⟨rfl, ((Keeps.refl _ _).alloc _).alloc _⟩
set_option maxRecDepth 100000 in
set_option maxHeartbeats 2000000 in
theorem taken_9 {w : World} :
    Calls Tryd.prog 36 #[.int .i64 9] w fun e w' => e = .returned (.tuple #[.agg #[.bool false, .bool false, .bool true, .bool true, .bool false, .bool false, .bool false, .bool false], .bool true]) ∧ Keeps (fun _ => False) w w' := by
  go_enter Tryd.func36, Tryd.ntmps36
  go_upto_block 1 with fail
  refine wp_block ?_
  refine wp_hid (fun _ HQ => ?_)
  go_wp2_with fail
  refine HQ.out _ _ _ ?_
  clear HQ
  repeat (first | refine ex_then ?_ | refine nm_then ?_ | refine nm_blk ?_ | refine ex_blk_eq ?_ | refine ex_blk_ne rfl ?_)
  go_upto_region 27 with fail
  refine wp_hid (fun _ HQ => ?_)
  go_wp2_with fail
  refine HQ.out _ _ _ ?_
  clear HQ
  repeat (first | refine ex_then ?_ | refine nm_then ?_ | refine nm_blk ?_ | refine ex_blk_eq ?_ | refine ex_blk_ne rfl ?_)
  go_wp2_with fail
  refine bodyPost_ret (v := .tuple #[.agg #[.bool false, .bool false, .bool true, .bool true, .bool false, .bool false, .bool false, .bool false], .bool true]) (by simp [results, Tryd.results36, go_sem]) rfl ?_
  exact ⟨rfl, ((Keeps.refl _ _).alloc _).alloc _⟩
set_option maxRecDepth 100000 in
set_option maxHeartbeats 2000000 in
theorem taken_10 {w : World} :
    Calls Tryd.prog 36 #[.int .i64 10] w fun e w' => e = .returned (.tuple #[.agg #[.bool false, .bool false, .bool true, .bool true, .bool true, .bool false, .bool false, .bool false], .bool true]) ∧ Keeps (fun _ => False) w w' := by
  go_enter Tryd.func36, Tryd.ntmps36
  go_upto_block 1 with fail
  refine wp_block ?_
  refine wp_hid (fun _ HQ => ?_)
  go_wp2_with fail
  refine HQ.out _ _ _ ?_
  clear HQ
  repeat (first | refine ex_then ?_ | refine nm_then ?_ | refine nm_blk ?_ | refine ex_blk_eq ?_ | refine ex_blk_ne rfl ?_)
  go_upto_region 26 with fail
  refine wp_hid (fun _ HQ => ?_)
  go_wp2_with fail
  refine HQ.out _ _ _ ?_
  clear HQ
  repeat (first | refine ex_then ?_ | refine nm_then ?_ | refine nm_blk ?_ | refine ex_blk_eq ?_ | refine ex_blk_ne rfl ?_)
  go_upto_region 27 with fail
  refine wp_hid (fun _ HQ => ?_)
  go_wp2_with fail
  refine HQ.out _ _ _ ?_
  clear HQ
  repeat (first | refine ex_then ?_ | refine nm_then ?_ | refine nm_blk ?_ | refine ex_blk_eq ?_ | refine ex_blk_ne rfl ?_)
  go_wp2_with fail
  refine bodyPost_ret (v := .tuple #[.agg #[.bool false, .bool false, .bool true, .bool true, .bool true, .bool false, .bool false, .bool false], .bool true]) (by simp [results, Tryd.results36, go_sem]) rfl ?_
  exact ⟨rfl, ((Keeps.refl _ _).alloc _).alloc _⟩
set_option maxRecDepth 100000 in
set_option maxHeartbeats 2000000 in
theorem taken_11 {w : World} :
    Calls Tryd.prog 36 #[.int .i64 11] w fun e w' => e = .returned (.tuple #[.agg #[.bool false, .bool false, .bool false, .bool true, .bool true, .bool false, .bool true, .bool true], .bool true]) ∧ Keeps (fun _ => False) w w' := by
  go_enter Tryd.func36, Tryd.ntmps36
  go_upto_block 1 with fail
  refine wp_block ?_
  refine wp_hid (fun _ HQ => ?_)
  go_wp2_with fail
  refine HQ.out _ _ _ ?_
  clear HQ
  repeat (first | refine ex_then ?_ | refine nm_then ?_ | refine nm_blk ?_ | refine ex_blk_eq ?_ | refine ex_blk_ne rfl ?_)
  go_upto_region 28 with fail
  refine wp_hid (fun _ HQ => ?_)
  go_wp2_with fail
  refine HQ.out _ _ _ ?_
  clear HQ
  repeat (first | refine ex_then ?_ | refine nm_then ?_ | refine nm_blk ?_ | refine ex_blk_eq ?_ | refine ex_blk_ne rfl ?_)
  go_upto_region 29 with fail
  refine wp_hid (fun _ HQ => ?_)
  go_wp2_with fail
  refine HQ.out _ _ _ ?_
  clear HQ
  repeat (first | refine ex_then ?_ | refine nm_then ?_ | refine nm_blk ?_ | refine ex_blk_eq ?_ | refine ex_blk_ne rfl ?_)
  go_upto_region 30 with fail
  refine wp_hid (fun _ HQ => ?_)
  go_wp2_with fail
  refine HQ.out _ _ _ ?_
  clear HQ
  repeat (first | refine ex_then ?_ | refine nm_then ?_ | refine nm_blk ?_ | refine ex_blk_eq ?_ | refine ex_blk_ne rfl ?_)
  go_wp2_with fail
  refine bodyPost_ret (v := .tuple #[.agg #[.bool false, .bool false, .bool false, .bool true, .bool true, .bool false, .bool true, .bool true], .bool true]) (by simp [results, Tryd.results36, go_sem]) rfl ?_
  exact ⟨rfl, ((Keeps.refl _ _).alloc _).alloc _⟩
set_option maxRecDepth 100000 in
set_option maxHeartbeats 2000000 in
theorem taken_12 {w : World} :
    Calls Tryd.prog 36 #[.int .i64 12] w fun e w' => e = .returned (.tuple #[.agg #[.bool false, .bool false, .bool false, .bool false, .bool false, .bool true, .bool true, .bool false], .bool true]) ∧ Keeps (fun _ => False) w w' := by
  go_enter Tryd.func36, Tryd.ntmps36
  go_upto_block 1 with fail
  refine wp_block ?_
  refine wp_hid (fun _ HQ => ?_)
  go_wp2_with fail
  refine HQ.out _ _ _ ?_
  clear HQ
  repeat (first | refine ex_then ?_ | refine nm_then ?_ | refine nm_blk ?_ | refine ex_blk_eq ?_ | refine ex_blk_ne rfl ?_)
  go_upto_region 31 with fail
  refine wp_hid (fun _ HQ => ?_)
  go_wp2_with fail
  refine HQ.out _ _ _ ?_
  clear HQ
  repeat (first | refine ex_then ?_ | refine nm_then ?_ | refine nm_blk ?_ | refine ex_blk_eq ?_ | refine ex_blk_ne rfl ?_)
  go_wp2_with fail
  refine bodyPost_ret (v := .tuple #[.agg #[.bool false, .bool false, .bool false, .bool false, .bool false, .bool true, .bool true, .bool false], .bool true]) (by simp [results, Tryd.results36, go_sem]) rfl ?_
  exact ⟨rfl, ((Keeps.refl _ _).alloc _).alloc _⟩
set_option maxRecDepth 100000 in
set_option maxHeartbeats 2000000 in
theorem taken_13 {w : World} :
    Calls Tryd.prog 36 #[.int .i64 13] w fun e w' => e = .returned (.tuple #[.agg #[.bool false, .bool false, .bool false, .bool false, .bool false, .bool false, .bool true, .bool false], .bool true]) ∧ Keeps (fun _ => False) w w' := by
  go_enter Tryd.func36, Tryd.ntmps36
  go_upto_block 1 with fail
  refine wp_block ?_
  refine wp_hid (fun _ HQ => ?_)
  go_wp2_with fail
  refine HQ.out _ _ _ ?_
  clear HQ
  repeat (first | refine ex_then ?_ | refine nm_then ?_ | refine nm_blk ?_ | refine ex_blk_eq ?_ | refine ex_blk_ne rfl ?_)
  go_upto_region 30 with fail
  refine wp_hid (fun _ HQ => ?_)
  go_wp2_with fail
  refine HQ.out _ _ _ ?_
  clear HQ
  repeat (first | refine ex_then ?_ | refine nm_then ?_ | refine nm_blk ?_ | refine ex_blk_eq ?_ | refine ex_blk_ne rfl ?_)
  go_wp2_with fail
  refine bodyPost_ret (v := .tuple #[.agg #[.bool false, .bool false, .bool false, .bool false, .bool false, .bool false, .bool true, .bool false], .bool true]) (by simp [results, Tryd.results36, go_sem]) rfl ?_
  exact ⟨rfl, ((Keeps.refl _ _).alloc _).alloc _⟩
set_option maxRecDepth 100000 in
set_option maxHeartbeats 2000000 in
theorem taken_14 {w : World} :
    Calls Tryd.prog 36 #[.int .i64 14] w fun e w' => e = .returned (.tuple #[.agg #[.bool false, .bool false, .bool false, .bool false, .bool false, .bool false, .bool true, .bool true], .bool true]) ∧ Keeps (fun _ => False) w w' := by
  go_enter Tryd.func36, Tryd.ntmps36
  go_upto_block 1 with fail
  refine wp_block ?_
  refine wp_hid (fun _ HQ => ?_)
  go_wp2_with fail
  refine HQ.out _ _ _ ?_
  clear HQ
  repeat (first | refine ex_then ?_ | refine nm_then ?_ | refine nm_blk ?_ | refine ex_blk_eq ?_ | refine ex_blk_ne rfl ?_)
  go_upto_region 29 with fail
  refine wp_hid (fun _ HQ => ?_)
  go_wp2_with fail
  refine HQ.out _ _ _ ?_
  clear HQ
  repeat (first | refine ex_then ?_ | refine nm_then ?_ | refine nm_blk ?_ | refine ex_blk_eq ?_ | refine ex_blk_ne rfl ?_)
  go_upto_region 30 with fail
  refine wp_hid (fun _ HQ => ?_)
  go_wp2_with fail
  refine HQ.out _ _ _ ?_
  clear HQ
  repeat (first | refine ex_then ?_ | refine nm_then ?_ | refine nm_blk ?_ | refine ex_blk_eq ?_ | refine ex_blk_ne rfl ?_)
  go_wp2_with fail
  refine bodyPost_ret (v := .tuple #[.agg #[.bool false, .bool false, .bool false, .bool false, .bool false, .bool false, .bool true, .bool true], .bool true]) (by simp [results, Tryd.results36, go_sem]) rfl ?_
  exact ⟨rfl, ((Keeps.refl _ _).alloc _).alloc _⟩
set_option maxRecDepth 100000 in
set_option maxHeartbeats 2000000 in
theorem taken_15 {w : World} :
    Calls Tryd.prog 36 #[.int .i64 15] w fun e w' => e = .returned (.tuple #[.agg #[.bool false, .bool false, .bool false, .bool false, .bool false, .bool false, .bool false, .bool false], .bool true]) ∧ Keeps (fun _ => False) w w' := by
  go_enter Tryd.func36, Tryd.ntmps36
  go_upto_block 1 with fail
  refine wp_block ?_
  refine wp_hid (fun _ HQ => ?_)
  go_wp2_with fail
  refine HQ.out _ _ _ ?_
  clear HQ
  repeat (first | refine ex_then ?_ | refine nm_then ?_ | refine nm_blk ?_ | refine ex_blk_eq ?_ | refine ex_blk_ne rfl ?_)
  go_wp2_with fail
  refine bodyPost_ret (v := .tuple #[.agg #[.bool false, .bool false, .bool false, .bool false, .bool false, .bool false, .bool false, .bool false], .bool true]) (by simp [results, Tryd.results36, go_sem]) rfl ?_
  exact ⟨rfl, ((Keeps.refl _ _).alloc _).alloc _⟩
set_option maxRecDepth 100000 in
set_option maxHeartbeats 2000000 in
theorem taken_16 {w : World} :
    Calls Tryd.prog 36 #[.int .i64 16] w fun e w' => e = .returned (.tuple #[.agg #[.bool false, .bool false, .bool false, .bool false, .bool false, .bool false, .bool false, .bool false], .bool true]) ∧ Keeps (fun _ => False) w w' := by
  go_enter Tryd.func36, Tryd.ntmps36
  go_upto_block 1 with fail
  refine wp_block ?_
  refine wp_hid (fun _ HQ => ?_)
  go_wp2_with fail
  refine HQ.out _ _ _ ?_
  clear HQ
  repeat (first | refine ex_then ?_ | refine nm_then ?_ | refine nm_blk ?_ | refine ex_blk_eq ?_ | refine ex_blk_ne rfl ?_)
  go_wp2_with fail
  refine bodyPost_ret (v := .tuple #[.agg #[.bool false, .bool false, .bool false, .bool false, .bool false, .bool false, .bool false, .bool false], .bool true]) (by simp [results, Tryd.results36, go_sem]) rfl ?_
  exact ⟨rfl, ((Keeps.refl _ _).alloc _).alloc _⟩
set_option maxRecDepth 100000 in
set_option maxHeartbeats 2000000 in
theorem taken_none {w : World} {k : Int} (h : ¬ (1 ≤ k ∧ k ≤ 16)) :
    Calls Tryd.prog 36 #[.int .i64 k] w fun e w' => e = .returned (.tuple #[.agg #[.bool false, .bool false, .bool false, .bool false, .bool false, .bool false, .bool false, .bool false], .bool false]) ∧ Keeps (fun _ => False) w w' := by
  have h1 : (k == 1) = false := by simp; omega
  have h2 : (k == 2) = false := by simp; omega
  have h3 : (k == 3) = false := by simp; omega
  have h4 : (k == 4) = false := by simp; omega
  have h5 : (k == 5) = false := by simp; omega
  have h6 : (k == 6) = false := by simp; omega
  have h7 : (k == 7) = false := by simp; omega
  have h8 : (k == 8) = false := by simp; omega
  have h9 : (k == 9) = false := by simp; omega
  have h10 : (k == 10) = false := by simp; omega
  have h11 : (k == 11) = false := by simp; omega
  have h12 : (k == 12) = false := by simp; omega
  have h13 : (k == 13) = false := by simp; omega
  have h14 : (k == 14) = false := by simp; omega
  have h15 : (k == 15) = false := by simp; omega
  have h16 : (k == 16) = false := by simp; omega
  clear h
  go_enter Tryd.func36, Tryd.ntmps36
  go_upto_block 1 with fail
  refine wp_block ?_
  refine wp_hid (fun _ HQ => ?_)
  go_wp2_with fail
  refine HQ.out _ _ _ ?_
  clear HQ
  repeat (first | refine ex_then ?_ | refine nm_then ?_ | refine nm_blk ?_ | refine ex_blk_eq ?_ | refine ex_blk_ne rfl ?_)
  go_wp2_with fail
  refine bodyPost_ret (v := .tuple #[.agg #[.bool false, .bool false, .bool false, .bool false, .bool false, .bool false, .bool false, .bool false], .bool false]) (by simp [results, Tryd.results36, go_sem]) rfl ?_
  exact ⟨rfl, ((Keeps.refl _ _).alloc _).alloc _⟩

theorem tks_none {k : Int} (h : ¬ (1 ≤ k ∧ k ≤ 16)) : tks k = #[.bool false, .bool false, .bool false, .bool false, .bool false, .bool false, .bool false, .bool false] := by
  have ne : ∀ x : Int, 1 ≤ x → x ≤ 16 → (x == k) = false := fun x h1 h2 => by simp; omega
  unfold tks inL
  simp only [List.any_cons, List.any_nil, ne 1 (by omega) (by omega), ne 2 (by omega) (by omega), ne 3 (by omega) (by omega), ne 4 (by omega) (by omega), ne 5 (by omega) (by omega), ne 6 (by omega) (by omega), ne 7 (by omega) (by omega), ne 9 (by omega) (by omega), ne 10 (by omega) (by omega), ne 11 (by omega) (by omega), Bool.or_false]
  rw [decide_eq_false (by omega), decide_eq_false (by omega), decide_eq_false (by omega), decide_eq_false (by omega), decide_eq_false (by omega)]
theorem taken_any {w : World} (k : Int) :
    Calls Tryd.prog 36 #[.int .i64 k] w fun e w' => e = .returned (.tuple #[.agg (tks k), .bool (decide (1 ≤ k ∧ k ≤ 16))]) ∧ Keeps (fun _ => False) w w' := by
  by_cases h : 1 ≤ k ∧ k ≤ 16
  · rw [decide_eq_true h]
    have hk : k = 1 ∨ k = 2 ∨ k = 3 ∨ k = 4 ∨ k = 5 ∨ k = 6 ∨ k = 7 ∨ k = 8 ∨ k = 9 ∨ k = 10 ∨ k = 11 ∨ k = 12 ∨ k = 13 ∨ k = 14 ∨ k = 15 ∨ k = 16 := by omega
    rcases hk with rfl | rfl | rfl | rfl | rfl | rfl | rfl | rfl | rfl | rfl | rfl | rfl | rfl | rfl | rfl | rfl
    · exact taken_1
    · exact taken_2
    · exact taken_3
    · exact taken_4
    · exact taken_5
    · exact taken_6
    · exact taken_7
    · exact taken_8
    · exact taken_9
    · exact taken_10
    · exact taken_11
    · exact taken_12
    · exact taken_13
    · exact taken_14
    · exact taken_15
    · exact taken_16
  · rw [decide_eq_false h, tks_none h]
    exact taken_none h
end Go.Proofs.YtpmbkeaimdeglaaDoor
