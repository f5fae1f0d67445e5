/-
  queue: inOrder (by cmp.Compare and cmp.Or) tells just as the order of timers says; it makes blocks and changes none.
-/
import Derived.Test.YtjmkfloaagppdaaDoorQuCmp
import Derived.Deep.RegionHeld3
import Derived.Sort.Grow
namespace Go.Proofs.YtjmkfloaagppdaaDoor
open Go.RowKit Go.Extern.Stop Go.Stop Go.Extern

/-- w' is w but for draws and new blocks. -/
def Grew (w w' : World) : Prop := ∃ q os, w' = Go.Sort.grow (w.drewN q) os
theorem Grew.refl (w : World) : Grew w w := ⟨0, #[], by simp [World.drewN]⟩
theorem Grew.alloc {w w' : World} (h : Grew w w') (o : Obj) : Grew w (w'.alloc o) := by
  obtain ⟨q, os, rfl⟩ := h
  exact ⟨q, os ++ #[o], by rw [Go.Sort.alloc_eq_grow, Go.Sort.grow_grow]⟩
theorem Grew.drew {w w' : World} (h : Grew w w') : Grew w w'.drew := by
  obtain ⟨q, os, rfl⟩ := h
  exact ⟨q + 1, os, rfl⟩
theorem Grew.trans {w w' w'' : World} (h : Grew w w') (k : Grew w' w'') : Grew w w'' := by
  obtain ⟨q, os, rfl⟩ := h
  obtain ⟨q', os', rfl⟩ := k
  exact ⟨q + q', os ++ os', by simp [Go.Sort.grow, World.drewN, Nat.add_assoc, Array.append_assoc]⟩
theorem Grew.keeps {w w' : World} (h : Grew w w') : Keeps (fun _ => False) w w' := by
  obtain ⟨q, os, rfl⟩ := h
  refine ⟨rfl, rfl, rfl, by simp [Go.Sort.grow, World.drewN], fun k hk _ => ?_⟩
  simp only [Go.Sort.grow, World.drewN]
  rw [Array.getElem?_append_left hk]

theorem Grew.cell {w w' : World} (h : Grew w w') {p : Addr} {v : Value} (hc : w.cell? p = some v) : w'.cell? p = some v :=
  (h.keeps.cell (cell_lt hc) id).trans hc

/-- How the two stand: below 0 just if the first one is ahead. -/
def ordI (t u : Tm) : Int := if cmpI t.1 u.1 = 0 then cmpI t.2 u.2 else cmpI t.1 u.1

theorem cmpI_zero (x y : Int) : cmpI x y = 0 ↔ x = y := by unfold cmpI; split <;> (try split) <;> omega
theorem cmpI_neg (x y : Int) : cmpI x y < 0 ↔ x < y := by unfold cmpI; split <;> (try split) <;> omega
theorem ordI_neg (t u : Tm) : decide (ordI t u < 0) = ahead t u := by
  rw [Bool.eq_iff_iff, decide_eq_true_eq, ahead_iff]
  unfold ordI
  by_cases h : t.1 = u.1
  · rw [if_pos ((cmpI_zero _ _).2 h), cmpI_neg]; omega
  · rw [if_neg (fun e => h ((cmpI_zero _ _).1 e)), cmpI_neg]; omega

theorem or_any' (b c : Nat) (x y : Int) (w : World) (r : Int) (hr : (if x = 0 then y else x) = r) (h0 : w.cell? ⟨b, 0, none⟩ = some (.int .i64 x)) (h1 : w.cell? ⟨b, 1, none⟩ = some (.int .i64 y)) :
    Calls Tryd.prog 44 #[.slice (some ⟨b, 0, none⟩) 2 c] w fun e w' => e = .returned (.int .i64 r) ∧ w' = w := by
  subst hr
  exact or_any b c x y w h0 h1

theorem ord_cells {W : World} {a b : Nat} {ty : TypeId} {x y x' y' : Value} (h : Whole W a ty #[x, y]) (k : Whole W b ty #[x', y']) :
    W.cell? ⟨a, 0, none⟩ = some x ∧ W.cell? ⟨a, 1, none⟩ = some y ∧ W.cell? ⟨b, 0, none⟩ = some x' ∧ W.cell? ⟨b, 1, none⟩ = some y' := ⟨h.at_ 0, h.at_ 1, k.at_ 0, k.at_ 1⟩

set_option maxRecDepth 100000 in
theorem ord_any (t u : Tm) (w : World) :
    Calls Tryd.prog 31 #[tmVal t, tmVal u] w fun e w' => e = .returned (.int .i64 (ordI t u)) ∧ Grew w w' := by
  unfold tmVal
  go_enter Tryd.func31, Tryd.ntmps31
  go_wp2_with fail
  obtain ⟨W, hW⟩ : ∃ W, W = (w.alloc (.cells #[.int .i64 t.1, .int .i64 t.2] 31)).alloc (.cells #[.int .i64 u.1, .int .i64 u.2] 31) := ⟨_, rfl⟩
  have kW := Lib.hid (show Grew w W by rw [hW]; exact ((Grew.refl w).alloc _).alloc _)
  have hT := Lib.hid (show Whole W w.heap.size 31 #[.int .i64 t.1, .int .i64 t.2] by rw [hW]; exact (Whole.made _ _ _).alloc _)
  have hU := Lib.hid (show Whole W (w.heap.size + 1) 31 #[.int .i64 u.1, .int .i64 u.2] by rw [hW]; have := Whole.made (w.alloc (.cells #[.int .i64 t.1, .int .i64 t.2] 31)) 31 #[.int .i64 u.1, .int .i64 u.2]; rw [World.size_alloc] at this; exact this)
  rw [← hW]
  clear hW
  generalize w.heap.size = a at hT hU ⊢
  go_region_held3 (fun V => V.cell? ⟨a, 0, none⟩ = some (.int .i64 t.1) ∧ V.cell? ⟨a, 1, none⟩ = some (.int .i64 t.2) ∧ V.cell? ⟨a + 1, 0, none⟩ = some (.int .i64 u.1) ∧ V.cell? ⟨a + 1, 1, none⟩ = some (.int .i64 u.2)) (first | exact ord_cells hT.out hU.out | exact ord_cells (hT.out.alloc _).drew (hU.out.alloc _).drew)
    (first
      | (go_at_call 45; refine (compare_any _ _ _).mono ?_; rintro e w' ⟨rfl, rfl⟩)
      | (go_at_call 44; refine (or_any' _ _ _ _ _ (ordI t u) rfl ((Whole.made W 3 #[.int .i64 (cmpI t.1 u.1), .int .i64 (cmpI t.2 u.2)]).drew.at_ 0) ((Whole.made W 3 #[.int .i64 (cmpI t.1 u.1), .int .i64 (cmpI t.2 u.2)]).drew.at_ 1)).mono ?_; rintro e w' ⟨rfl, rfl⟩))
  all_goals
    rename_i hHd
    clear hHd
    go_wp2_with fail
    go_ret
    exact ⟨rfl, (kW.out.alloc _).drew⟩
end Go.Proofs.YtjmkfloaagppdaaDoor
