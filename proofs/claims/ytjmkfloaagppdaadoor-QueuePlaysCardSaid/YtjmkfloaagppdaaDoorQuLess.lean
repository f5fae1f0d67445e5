/-
  queue: (*line).Len and Less by contract.
-/
import Derived.Test.YtjmkfloaagppdaaDoorQuOrd
namespace Go.Proofs.YtjmkfloaagppdaaDoor
open Go.RowKit Go.Extern.Stop Go.Stop Go.Extern

theorem line_len {w : World} {q : Nat} {l : List Tm} {X : Nat → Prop} (h : Line w q l X) :
    Calls Tryd.prog 28 #[.pointer (some ⟨q, 0, none⟩)] w fun e w' => e = .returned (.int .i64 l.length) ∧ w' = w := by
  obtain ⟨mb, v, f, h⟩ := h
  obtain ⟨o, c, rfl, _⟩ := TRow.shape h.row
  have c0 := h.blk.at_ 0
  clear h
  go_enter Tryd.func28, Tryd.ntmps28
  go_wp2
  go_ret
  exact ⟨rfl, rfl⟩


theorem five_cells {w w' : World} {a b c d e : Addr} {u v x y z : Value} (h : w.cell? a = some u ∧ w.cell? b = some v ∧ w.cell? c = some x ∧ w.cell? d = some y ∧ w.cell? e = some z) (k : Grew w w') :
    w'.cell? a = some u ∧ w'.cell? b = some v ∧ w'.cell? c = some x ∧ w'.cell? d = some y ∧ w'.cell? e = some z :=
  ⟨k.cell h.1, k.cell h.2.1, k.cell h.2.2.1, k.cell h.2.2.2.1, k.cell h.2.2.2.2⟩

set_option maxRecDepth 100000 in
theorem line_less {w : World} {q : Nat} {l : List Tm} {X : Nat → Prop} (h : Line w q l X) (i j : Nat) (hi : i < l.length) (hj : j < l.length) :
    Calls Tryd.prog 97 #[.pointer (some ⟨q, 0, none⟩), .int .i64 i, .int .i64 j] w fun e w' => e = .returned (.bool (ahead (at_ l i) (at_ l j))) ∧ Grew w w' := by
  obtain ⟨mb, v, f, h⟩ := h
  obtain ⟨g, c, rfl⟩ := TRow.form h.row (by omega)
  have few := h.few
  have c0 := h.blk.at_ 0
  have i0 := TRow.when h.row i hi
  have i1 := TRow.id h.row i hi
  have j0 := TRow.when h.row j hj
  have j1 := TRow.id h.row j hj
  have hr := ordI_neg (at_ l i) (at_ l j)
  clear h
  generalize at_ l i = t at *
  generalize at_ l j = u at *
  have hc := ord_any t u
  generalize l.length = n at *
  generalize ordI t u = r at hc hr
  have s0 := Lib.hid (show w.cell? ⟨q, 0, none⟩ = some (.slice (some ⟨g, 0, none⟩) n c) ∧ w.cell? ⟨g, i * 2, none⟩ = some (.int .i64 t.1) ∧ w.cell? ⟨g, i * 2 + 1, none⟩ = some (.int .i64 t.2) ∧ w.cell? ⟨g, j * 2, none⟩ = some (.int .i64 u.1) ∧ w.cell? ⟨g, j * 2 + 1, none⟩ = some (.int .i64 u.2) from ⟨c0, i0, i1, j0, j1⟩)
  clear c0 i0 i1 j0 j1
  have hil : (i : Int) < n := by omega
  have hjl : (j : Int) < n := by omega
  rw [← hr]
  clear hr
  by_cases hlt : r < 0
  all_goals
    go_enter Tryd.func97, Tryd.ntmps97
    go_wp2_with fail
    go_region_held3 (fun V => V.cell? ⟨q, 0, none⟩ = some (.slice (some ⟨g, 0, none⟩) n c) ∧ V.cell? ⟨g, i * 2, none⟩ = some (.int .i64 t.1) ∧ V.cell? ⟨g, i * 2 + 1, none⟩ = some (.int .i64 t.2) ∧ V.cell? ⟨g, j * 2, none⟩ = some (.int .i64 u.1) ∧ V.cell? ⟨g, j * 2 + 1, none⟩ = some (.int .i64 u.2)) (first | exact s0.out | exact s1.out)
      (first
        | (go_at_call 31; refine (hc _).mono ?_; rintro e w' ⟨rfl, hG⟩; have s1 := Lib.hid (five_cells (by first | exact s0.out | assumption) hG)))
    all_goals
      rename_i hHd
      clear hHd
      go_wp2_with fail
      go_ret
      exact ⟨by simp [hlt], (Grew.refl w).drew.trans hG⟩
end Go.Proofs.YtjmkfloaagppdaaDoor
