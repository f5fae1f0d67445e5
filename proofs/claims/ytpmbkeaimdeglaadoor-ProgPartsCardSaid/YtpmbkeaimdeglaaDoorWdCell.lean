/-
  A cell of a block that was kept reads as it did. Of no program.
-/
import Derived.Test.YtpmbkeaimdeglaaDoorWdLib
namespace Go.Proofs.YtpmbkeaimdeglaaDoor
open Go.RowKit

theorem Keeps.cell {S : Nat → Prop} {w w' : World} (h : Keeps S w w') {p : Addr} (hp : p.block < w.heap.size) (hS : ¬ S p.block) : w'.cell? p = w.cell? p :=
  World.cell?_of_block (w := w) (h.block p.block hp hS)

theorem cell_lt {w : World} {p : Addr} {v : Value} (h : w.cell? p = some v) : p.block < w.heap.size := by
  rcases Nat.lt_or_ge p.block w.heap.size with h' | h'
  · exact h'
  · simp [World.cell?, Array.getElem?_eq_none h'] at h
end Go.Proofs.YtpmbkeaimdeglaaDoor
