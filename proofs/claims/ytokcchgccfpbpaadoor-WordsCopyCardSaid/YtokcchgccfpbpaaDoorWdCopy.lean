/-
  words: Copy by contract: another arena of the same words, accessed as often; nothing that was there has changed.
-/
import Derived.Test.YtokcchgccfpbpaaDoorWdPlay
import Derived.Deep.RegionWith
namespace Go.Proofs.YtokcchgccfpbpaaDoor
open Go.RowKit Go.Extern.Stop Go.Stop Go.Extern

/-- What Copy leaves. -/
def Copied (w : World) (ws : List Int) (cnt : Nat) (e : Ending) (w' : World) : Prop :=
  ∃ a bw, e = .returned (.pointer (some ⟨a, 0, none⟩)) ∧ Arena w' a bw ws cnt ∧ w.heap.size ≤ a ∧ w.heap.size ≤ bw ∧ Keeps (fun _ => False) w w'

theorem words_cells (a bw : Nat) (ws : List Int) (cnt : Nat) (lk la lo ln : Int) (ld : Bool) (w : World) (h : Arena w a bw ws cnt) (h1 : Whole w a 53 (arenaCells bw ws.length cnt lk la lo ln ld)) :
    Calls Tryd.prog 8 #[.pointer (some ⟨a, 0, none⟩)] w fun e w' => ∃ g, e = .returned (.slice (some ⟨g, 0, none⟩) ws.length ws.length) ∧ Whole w' g 35 (wordCells ws) ∧ w.heap.size ≤ g ∧ Keeps (fun _ => False) w w' ∧ Whole w' a 53 (arenaCells bw ws.length cnt lk la lo ln ld) := by
  refine (words_there a bw ws cnt w h).mono ?_
  rintro e w' ⟨g, rfl, hW, hg, hK⟩
  exact ⟨g, rfl, hW, hg, hK, h1.keeps hK id⟩

set_option maxHeartbeats 1000000 in
theorem copy_there (a bw : Nat) (ws : List Int) (cnt : Nat) (w : World) (h : Arena w a bw ws cnt) :
    Calls Tryd.prog 6 #[.pointer (some ⟨a, 0, none⟩)] w fun e w' => Copied w ws cnt e w' := by
  have c := h
  obtain ⟨⟨lk, la, lo, ln, ld, h1⟩, h2, h3, h4⟩ := h
  have cw := fun (n : Nat) => words_cells a bw ws cnt lk la lo ln ld (w.drewN n) (c.keeps ((Keeps.refl (fun _ => False) w).drewN n) id id) (h1.drewN n)
  have ha := h1.lt
  have c0 : w.cell? ⟨a, 0, none⟩ = some (.slice (some ⟨bw, 0, none⟩) ws.length ws.length) := h1.at_ 0
  have c1 : w.cell? ⟨a, 1, none⟩ = some (.int .i64 cnt) := h1.at_ 1
  have c2 : w.cell? ⟨a, 2, none⟩ = some (.int .i64 lk) := h1.at_ 2
  have c3 : w.cell? ⟨a, 3, none⟩ = some (.int .i64 la) := h1.at_ 3
  have c4 : w.cell? ⟨a, 4, none⟩ = some (.int .u64 lo) := h1.at_ 4
  have c5 : w.cell? ⟨a, 5, none⟩ = some (.int .u64 ln) := h1.at_ 5
  have c6 : w.cell? ⟨a, 6, none⟩ = some (.bool ld) := h1.at_ 6
  have cw' := Lib.hid cw
  have h3' := Lib.hid h3
  have h4' := Lib.hid h4
  clear c h1 h2 h3 h4 cw
  go_enter Tryd.func6, Tryd.ntmps6
  go_wp2_with (go_at_call 16; refine (none_there a ⟨bw, 0, none⟩ ws.length ws.length h3'.out h4'.out _ c0).mono ?_; rintro e w' ⟨rfl, rfl⟩)
  go_region_with (go_at_call 8; refine (cw'.out _).mono ?_; rintro e w1 ⟨g, rfl, hW, hg, hK, hA⟩; have d1 : w1.cell? ⟨a, 1, none⟩ = some (.int .i64 cnt) := hA.at_ 1; have d2 : w1.cell? ⟨a, 2, none⟩ = some (.int .i64 lk) := hA.at_ 2; have d3 : w1.cell? ⟨a, 3, none⟩ = some (.int .i64 la) := hA.at_ 3; have d4 : w1.cell? ⟨a, 4, none⟩ = some (.int .u64 lo) := hA.at_ 4; have d5 : w1.cell? ⟨a, 5, none⟩ = some (.int .u64 ln) := hA.at_ 5; have d6 : w1.cell? ⟨a, 6, none⟩ = some (.bool ld) := hA.at_ 6; have W1 := Lib.hid hW; have k1 := Lib.hid hK; have g1 := Lib.hid hg; clear hW hK hg hA)
  all_goals go_wp2
  all_goals go_ret
  all_goals
    have hs : w.heap.size ≤ w1.heap.size := k1.out.size
    have m2 := Whole.made w1 53 (arenaCells g ws.length cnt lk la lo ln ld)
    refine ⟨w1.heap.size, g, rfl, ⟨⟨lk, la, lo, ln, ld, ?_⟩, W1.out.alloc _, h3'.out, h4'.out⟩, hs, g1.out, ?_⟩
  any_goals exact (((Keeps.refl (fun _ => False) w).drewN _).trans_ k1.out).alloc _
  all_goals
    simpa [arenaCells] using m2
end Go.Proofs.YtokcchgccfpbpaaDoor
