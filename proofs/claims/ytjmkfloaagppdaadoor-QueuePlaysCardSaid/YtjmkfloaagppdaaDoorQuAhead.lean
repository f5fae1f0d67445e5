/-
  concordref04.Ahead by contract.
-/
import Derived.Test.YtjmkfloaagppdaaDoorQuSame
namespace Go.Proofs.YtjmkfloaagppdaaDoor
open Go.RowKit Go.Extern.Stop Go.Stop Go.Extern

set_option maxRecDepth 100000 in
theorem ref_ahead (a b : Tm) (r : Bool) (hr : ahead a b = r) (w : World) :
    Calls Tryd.prog 19 #[.agg #[.int .i64 a.1, .int .i64 a.2], .agg #[.int .i64 b.1, .int .i64 b.2]] w fun e w' => e = .returned (.bool r) ∧ Keeps (fun _ => False) w w' := by
  obtain ⟨a1, a2⟩ := a
  obtain ⟨b1, b2⟩ := b
  subst hr
  have k1 : Keeps (fun _ => False) w ((w.alloc (.cells #[.int .i64 a1, .int .i64 a2] 31)).alloc (.cells #[.int .i64 b1, .int .i64 b2] 31)) := ((Keeps.refl _ w).alloc _).alloc _
  have mA := (Whole.made w 31 #[.int .i64 a1, .int .i64 a2]).alloc (.cells #[.int .i64 b1, .int .i64 b2] 31)
  have mB := Whole.made (w.alloc (.cells #[.int .i64 a1, .int .i64 a2] 31)) 31 #[.int .i64 b1, .int .i64 b2]
  rw [World.size_alloc] at mB
  obtain ⟨W, hW⟩ : ∃ W, W = (w.alloc (.cells #[.int .i64 a1, .int .i64 a2] 31)).alloc (.cells #[.int .i64 b1, .int .i64 b2] 31) := ⟨_, rfl⟩
  rw [← hW] at k1 mA mB
  have x0 : W.cell? ⟨w.heap.size, 0, none⟩ = some (.int .i64 a1) := mA.at_ 0
  have x1 : W.cell? ⟨w.heap.size, 1, none⟩ = some (.int .i64 a2) := mA.at_ 1
  have y0 : W.cell? ⟨w.heap.size + 1, 0, none⟩ = some (.int .i64 b1) := mB.at_ 0
  have y1 : W.cell? ⟨w.heap.size + 1, 1, none⟩ = some (.int .i64 b2) := mB.at_ 1
  have k1' := Lib.hid k1
  have hW' := Lib.hid hW
  clear k1 mA mB hW
  by_cases h1 : a1 < b1
  · have hr : ahead (a1, a2) (b1, b2) = true := (ahead_iff _ _).2 (.inl h1)
    rw [hr]
    go_enter Tryd.func19, Tryd.ntmps19
    go_wp2_with fail
    rw [← hW'.out]
    go_wp2_with fail
    go_ret
    exact ⟨rfl, k1'.out⟩
  · by_cases h2 : a1 = b1
    · subst h2
      have hb : (a1 == a1) = true := by simp
      by_cases h3 : a2 < b2
      · have hr : ahead (a1, a2) (a1, b2) = true := (ahead_iff _ _).2 (.inr ⟨rfl, h3⟩)
        rw [hr]
        go_enter Tryd.func19, Tryd.ntmps19
        go_wp2_with fail
        rw [← hW'.out]
        go_wp2_with fail
        go_ret
        exact ⟨by simp, k1'.out⟩
      · have hr : ahead (a1, a2) (a1, b2) = false := (ahead_not _ _).2 (.inr ⟨rfl, by simp only; omega⟩)
        rw [hr]
        go_enter Tryd.func19, Tryd.ntmps19
        go_wp2_with fail
        rw [← hW'.out]
        go_wp2_with fail
        go_ret
        exact ⟨by simp, k1'.out⟩
    · have hb : (a1 == b1) = false := by simpa using h2
      have hr : ahead (a1, a2) (b1, b2) = false := (ahead_not _ _).2 (.inl (by simp only; omega))
      rw [hr]
      go_enter Tryd.func19, Tryd.ntmps19
      go_wp2_with fail
      rw [← hW'.out]
      go_wp2_with fail
      go_ret
      exact ⟨rfl, k1'.out⟩
end Go.Proofs.YtjmkfloaagppdaaDoor
