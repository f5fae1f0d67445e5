/-
  api.Place of a pointer to a Fault is the Fault's place; nothing that was there has changed. It reads the library's variable errors.errorType.
-/
import Derived.Test.YtpmbkeaimdeglaaDoorWdAs
namespace Go.Proofs.YtpmbkeaimdeglaaDoor
open Go.RowKit Go.Extern.Stop Go.Stop Go.Extern

/-- The library's variable errors.errorType holds the handle of the type error. -/
def Glob (w : World) : Prop := w.cell? ⟨0, 0, none⟩ = some (.iface 99 (.agg #[.pointer (some ⟨1, 27, none⟩)]))

theorem Glob.lt {w : World} (h : Glob w) : 0 < w.heap.size := by
  rcases Nat.lt_or_ge 0 w.heap.size with h' | h'
  · exact h'
  · simp [Glob, World.cell?, Array.getElem?_eq_none h'] at h
theorem Glob.keeps {w w' : World} {S : Nat → Prop} (h : Glob w) (k : Keeps S w w') (hS : ¬ S 0) : Glob w' :=
  (World.cell?_of_block (w := w) (k.block _ h.lt hS)).trans h

theorem as_set (e : Addr) (b : Nat) (w : World) (hg : Glob w) (hb : Whole w b 53 #[.pointer none]) :
    Calls Tryd.prog 32 #[.iface 53 (.pointer (some e)), .iface 60 (.pointer (some ⟨b, 0, none⟩))] w fun ev w' => ev = .returned (.bool true) ∧ Whole w' b 53 #[.pointer (some e)] ∧ Keeps (fun k => k = b) w w' := by
  refine (as_hit e ⟨b, 0, none⟩ (.pointer none) w hg (hb.at_ 0) (hb.free 0)).mono ?_
  rintro ev w' ⟨rfl, rfl⟩
  exact ⟨rfl, ((((hb.alloc _).alloc _).alloc _).alloc _).set_ 0 _, (((((Keeps.refl (fun k => k = b) w).alloc _).alloc _).alloc _).alloc _).setCell (p := ⟨b, 0, none⟩) (fun _ => rfl) _⟩

theorem place_fault (p : Nat) (i : Int) (k : Value) (w : World) (hg : Glob w) (h : Whole w p 55 #[.int .i64 i, k]) :
    Calls Tryd.prog 13 #[.iface 53 (.pointer (some ⟨p, 0, none⟩))] w fun e w' => e = .returned (.int .i64 i) ∧ Keeps (fun _ => False) w w' := by
  have g1 := Lib.hid (hg.keeps ((Keeps.refl (fun _ => False) w).alloc (.cells #[.pointer none] 53)) id)
  have m1 := Lib.hid (Whole.made w 53 #[.pointer none])
  have p1 := Lib.hid (h.alloc (.cells #[.pointer none] 53))
  have hp := Lib.hid h.lt
  clear hg h
  go_enter Tryd.func13, Tryd.ntmps13
  go_wp2_with fail
  refine (as_set ⟨p, 0, none⟩ w.heap.size _ g1.out m1.out).mono ?_
  rintro e w2 ⟨rfl, hW, hK⟩
  have c1 : w2.cell? ⟨w.heap.size, 0, none⟩ = some (.pointer (some ⟨p, 0, none⟩)) := hW.at_ 0
  have c2 : w2.cell? ⟨p, 0, none⟩ = some (.int .i64 i) := (p1.out.keeps hK (by have := hp.out; omega)).at_ 0
  have k2 := Lib.hid (((Keeps.refl (fun _ => False) w).alloc (.cells #[.pointer none] 53)).trans hK (fun x hx e => by omega))
  clear hW hK
  go_wp2_with fail
  go_ret
  exact ⟨rfl, k2.out⟩
end Go.Proofs.YtpmbkeaimdeglaaDoor
