/-
  A row of uint64s of one's own, as an array of numbers; what stays and what an exchange of two does to it; cmp.Less at uint64 by contract. (The plain functions of the sort are the library's.)
-/
import Derived.Test.YtkolkimmhlmlgaaDoorWdCell
import Derived.Test.YtkolkimmhlmlgaaDoorProg
import Derived.Sort.Defs
import Derived.Sort.Lot0
import Derived.LoopTactic
import Derived.WalkKit
import Derived.BigGuard
import Derived.BigCall
import Derived.CellFam
import Derived.Deep.Draws
import Derived.Deep.QuietTactic
import Derived.BigQuiet
import Derived.Lib.Hide
namespace Go.Proofs.YtkolkimmhlmlgaaDoor
open Go.RowKit
open Go.Sort (swp)

/-- A uint64 as a value. -/
abbrev encU (x : Int) : Value := .int .u64 x

/-- The row in block g, n long, of one's own, holds d. (o is 0: a name for the offset, which the walk's families of cells want.) -/
def URow (w : World) (g o n cap : Nat) (d : Array Int) : Prop := o = 0 ∧ d.size = n ∧ w.ownsRow 0 23 1 (.slice (some ⟨g, 0, none⟩) n cap) n (d.toList.map encU)

/-- From w to w': the row in g holds d now, and all that was is as it was but for the row. -/
structure Srt (w w' : World) (g o n cap : Nat) (d : Array Int) : Prop where
  row : URow w' g o n cap d
  keeps : Keeps (fun x => x = g) w w'

section
variable {w w' u : World} {g o n cap : Nat} {d d' : Array Int}

theorem URow.lt (h : URow w g o n cap d) : g < w.heap.size := (h.2.2.lt g rfl).2
theorem URow.cell (h : URow w g o n cap d) (k : Nat) (hk : k < n) : w.cell? ⟨g, o + k, none⟩ = some (encU d[k]!) := by
  obtain ⟨rfl, rfl, h⟩ := h
  rw [Nat.zero_add, h.cellAt k (by omega)]
  simp [hk]
theorem URow.free (h : URow w g o n cap d) (k : Nat) : w.frozen? ⟨g, o + k, none⟩ = false := by obtain ⟨rfl, _, h⟩ := h; rw [Nat.zero_add]; exact h.frozenAt k
theorem URow.drew (h : URow w g o n cap d) : URow w.drew g o n cap d := h
theorem URow.drewN (h : URow w g o n cap d) (k : Nat) : URow (w.drewN k) g o n cap d := h
theorem URow.set (h : URow w g o n cap d) (k : Nat) (hk : k < n) (x : Int) : URow (w.setCell ⟨g, o + k, none⟩ (encU x)) g o n cap (d.setIfInBounds k x) := by
  obtain ⟨rfl, rfl, h⟩ := h
  rw [Nat.zero_add]
  have h1 := (h.stored k (encU x)).1
  refine ⟨rfl, by simp, ?_⟩
  have e : (d.setIfInBounds k x).toList.map encU = (d.toList.map encU).set k (encU x) := by simp [Array.toList_setIfInBounds, List.map_set]
  rw [e]
  exact h1
theorem URow.keepsU {S : Nat → Prop} (h : URow w g o n cap d) (k : Keeps S w w') (hS : ¬ S g) : URow w' g o n cap d := by
  obtain ⟨h0, h1, h2, h3⟩ := h
  refine ⟨h0, h1, h2, ?_⟩
  rcases h3 with ⟨hn, _⟩ | ⟨g', c', cur, hv, hb, hgg, rest⟩
  · cases hn
  · injection hv with hv _ hc
    injection hv with hv
    injection hv with hv
    subst hv
    exact .inr ⟨g, c', cur, by rw [hc], hb, (k.block g (lt_of_block hgg) hS).trans hgg, rest⟩

theorem Srt.refl (h : URow w g o n cap d) : Srt w w g o n cap d := ⟨h, Keeps.refl _ _⟩
theorem Srt.size (h : Srt w w' g o n cap d) : d.size = n := h.row.2.1
theorem Srt.lt (h : Srt w w' g o n cap d) : g < w'.heap.size := h.row.lt
theorem Srt.trans (h : Srt w w' g o n cap d) (k : Srt w' u g o n cap d') : Srt w u g o n cap d' := ⟨k.row, h.keeps.trans_ k.keeps⟩
theorem Srt.drewN (h : Srt w w' g o n cap d) (k : Nat) : Srt w (w'.drewN k) g o n cap d := ⟨h.row, h.keeps.drewN k⟩
theorem Srt.drew (h : Srt w w' g o n cap d) : Srt w w'.drew g o n cap d := ⟨h.row, h.keeps.drew⟩
theorem Srt.cell (h : Srt w w' g o n cap d) (k : Nat) (hk : k < n) : w'.cell? ⟨g, o + k, none⟩ = some (encU d[k]!) := h.row.cell k hk
theorem Srt.free (h : Srt w w' g o n cap d) (k : Nat) : w'.frozen? ⟨g, o + k, none⟩ = false := h.row.free k
theorem Srt.swap (h : Srt w w' g o n cap d) (i j : Nat) (hi : i < n) (hj : j < n) :
    Srt w (((w'.setCell ⟨g, o + i, none⟩ (encU d[j]!)).setCell ⟨g, o + j, none⟩ (encU d[i]!))) g o n cap (swp d i j) :=
  ⟨(h.row.set i hi _).set j hj _, (h.keeps.setCell (p := ⟨g, o + i, none⟩) (fun _ => rfl) _).setCell (p := ⟨g, o + j, none⟩) (fun _ => rfl) _⟩
/-- The row's cells as a family of opaque numbers. -/
theorem Srt.fam (h : Srt w w' g o n cap d) : ∃ G : Nat → Int, (∀ t, G t = d[t]!) ∧ (∀ t, t < n → w'.cell? ⟨g, o + t, none⟩ = some (encU (G t))) ∧ ∀ t, t < n → w'.frozen? ⟨g, o + t, none⟩ = false :=
  ⟨fun t => d[t]!, fun _ => rfl, fun t ht => h.cell t ht, fun t _ => h.free t⟩
theorem Srt.keepsU {S : Nat → Prop} (h : Srt w w' g o n cap d) (k : Keeps S w' u) (hS : ∀ x, x < w.heap.size → ¬ S x) (hg : ¬ S g) : Srt w u g o n cap d :=
  ⟨h.row.keepsU k hg, h.keeps.trans k fun x hx hs => absurd hs (hS x hx)⟩
end

abbrev ltI : Int → Int → Bool := Go.Sort.ltInt

theorem nan_u (x : Int) (w : World) : Calls Tryd.prog 71 #[encU x] w fun e w' => e = .returned (.bool false) ∧ w = w' := by
  go_enter Tryd.func71, Tryd.ntmps71
  go_wp2
  go_ret
  exact ⟨by simp, rfl⟩

theorem less_u (x y : Int) (w : World) : Calls Tryd.prog 61 #[encU x, encU y] w fun e w' => e = .returned (.bool (ltI x y)) ∧ w' = w := by
  go_enter Tryd.func61, Tryd.ntmps61
  go_wp2_with (go_at_call 71; refine (nan_u _ _).mono ?_; rintro e w' ⟨rfl, rfl⟩)
  go_ret
  exact ⟨rfl, rfl⟩
end Go.Proofs.YtkolkimmhlmlgaaDoor
