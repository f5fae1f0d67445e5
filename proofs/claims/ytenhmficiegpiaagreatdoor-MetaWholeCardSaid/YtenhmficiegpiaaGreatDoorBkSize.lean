/-
  blocks: Size, Word, Top by contract, of a good ref, of a stale one, of a word that is not there, and of no blocks.
-/
import Derived.Test.YtenhmficiegpiaaGreatDoorBkFind
namespace Go.Proofs.YtenhmficiegpiaaGreatDoor
open Go.RowKit Go.Extern.Stop Go.Stop Go.Extern

/-- A Fault with a place and a number; nothing that was there has changed. -/
def FaultOf (w : World) (f : Value → Ending) (i k : Int) (e : Ending) (w' : World) : Prop :=
  ∃ p, e = f (.iface 96 (.pointer (some ⟨p, 0, none⟩))) ∧ Whole w' p 99 #[.int .i64 i, .int .i64 k] ∧ Keeps (fun _ => False) w w'

theorem Bk.cell0 {w : World} {b : Nat} {ws : List Int} {cnt : Nat} {st : St} {X : Nat → Prop} (h : Bk w b ws cnt st X) : ∃ a, w.cell? ⟨b, 0, none⟩ = some (.pointer (some ⟨a, 0, none⟩)) := by
  obtain ⟨a, bw, mb, fb, rows, h⟩ := h
  exact ⟨a, h.blk.at_ 0⟩

theorem Whole.made2 (w : World) (o : Obj) (t : TypeId) (cs : Array Value) : Whole ((w.alloc o).alloc (.cells cs t)) (w.heap.size + 1) t cs := by
  have := Whole.made (w.alloc o) t cs
  simpa using this

theorem size_nil (r : Int) (w : World) :
    Calls Tryz.prog 23 #[.pointer none, .int .u64 r] w fun e w' => e = .returned (.tuple #[.int .i64 0, .iface 71 (.int .i64 1)]) ∧ w = w' := by
  go_enter Tryz.func23, Tryz.ntmps23
  go_wp2_with (go_at_call 35; refine (none_bk_nil _).mono ?_; rintro e w' ⟨rfl, rfl⟩)
  go_ret2
  exact ⟨rfl, rfl⟩

theorem size_hit {b : Nat} {ws : List Int} {cnt : Nat} {st : St} {X : Nat → Prop} (ref : Nat) (hr : ref < 18446744073709551616) (B : Blk) (hB : st.get ref = some B) (w : World) (h : Bk w b ws cnt st X) :
    Calls Tryz.prog 23 #[.pointer (some ⟨b, 0, none⟩), .int .u64 ref] w fun e w' => e = .returned (.tuple #[.int .i64 B.size, .nilIface]) ∧ Keeps (fun _ => False) w w' := by
  obtain ⟨a, c0⟩ := h.cell0
  have cf := find_hit ref hr B hB w h
  unfold Blk.val at cf
  generalize B.size = sz at cf ⊢
  generalize B.gen = gn at cf
  generalize B.live = lv at cf
  have cf' := Lib.hid cf
  clear cf h hB
  go_enter Tryz.func23, Tryz.ntmps23
  go_wp2_with (first
    | (go_at_call 35; refine (none_bk _ c0).mono ?_; rintro e w' ⟨rfl, rfl⟩)
    | (go_at_call 36; refine cf'.out.mono ?_; rintro e w' ⟨rfl, hK⟩; have hK' := Lib.hid hK; clear hK))
  go_ret2
  exact ⟨rfl, hK'.out.alloc _⟩

theorem size_miss {b : Nat} {ws : List Int} {cnt : Nat} {st : St} {X : Nat → Prop} (ref : Nat) (hr : ref < 18446744073709551616) (hB : st.get ref = none) (w : World) (h : Bk w b ws cnt st X) :
    Calls Tryz.prog 23 #[.pointer (some ⟨b, 0, none⟩), .int .u64 ref] w fun e w' => FaultOf w (fun x => .returned (.tuple #[.int .i64 0, x])) ((ref % 4294967296 : Nat) : Int) 5 e w' := by
  obtain ⟨a, c0⟩ := h.cell0
  have cf := find_miss ref hr hB w h
  have cp := placeOf_any ref hr
  generalize ((ref % 4294967296 : Nat) : Int) = p at cp ⊢
  have cf' := Lib.hid cf
  clear cf h hB
  go_enter Tryz.func23, Tryz.ntmps23
  go_wp2_with (first
    | (go_at_call 35; refine (none_bk _ c0).mono ?_; rintro e w' ⟨rfl, rfl⟩)
    | (go_at_call 37; refine (cp _).mono ?_; rintro e w' ⟨rfl, rfl⟩)
    | (go_at_call 36; refine cf'.out.mono ?_; rintro e w' ⟨rfl, hK⟩; have hK' := Lib.hid hK; clear hK))
  go_ret2
  exact ⟨_, rfl, Whole.made2 _ _ _ _, (hK'.out.alloc _).alloc _⟩

theorem word_nil (r i : Int) (w : World) :
    Calls Tryz.prog 64 #[.pointer none, .int .u64 r, .int .i64 i] w fun e w' => e = .returned (.tuple #[.int .i64 0, .iface 71 (.int .i64 1)]) ∧ w = w' := by
  go_enter Tryz.func64, Tryz.ntmps64
  go_wp2_with (go_at_call 23; refine (size_nil _ _).mono ?_; rintro e w' ⟨rfl, rfl⟩)
  go_ret2
  exact ⟨rfl, rfl⟩

theorem word_hit {b : Nat} {ws : List Int} {cnt : Nat} {st : St} {X : Nat → Prop} (ref : Nat) (hr : ref < 18446744073709551616) (B : Blk) (hB : st.get ref = some B) (i : Nat) (hi : i < B.size) (w : World) (h : Bk w b ws cnt st X) :
    Calls Tryz.prog 64 #[.pointer (some ⟨b, 0, none⟩), .int .u64 ref, .int .i64 i] w fun e w' => e = .returned (.tuple #[.int .i64 ((B.place + 1 + i : Nat) : Int), .nilIface]) ∧ Keeps (fun _ => False) w w' := by
  have cf := size_hit ref hr B hB w h
  have cp := placeOf_any ref hr
  have hp := (St.get_some hB).2.1
  have hs : B.size ≤ 64 := by obtain ⟨a, bw, mb, fb, rows, h⟩ := h; exact (h.ok.fits B (St.get_some hB).1).2.1
  have hlt : ref % 4294967296 < 4294967296 := Nat.mod_lt _ (by decide)
  rw [← hp] at cp hlt
  generalize B.place = p at cp hlt ⊢
  generalize B.size = sz at cf hi hs
  have cf' := Lib.hid cf
  clear cf h hB hp
  have t1 : ¬ ((i : Int) < 0) := by omega
  have t2 : ¬ ((sz : Int) ≤ (i : Int)) := by omega
  go_enter Tryz.func64, Tryz.ntmps64
  go_wp2_with (first
    | (go_at_call 37; refine (cp _).mono ?_; rintro e w' ⟨rfl, rfl⟩)
    | (go_at_call 23; refine cf'.out.mono ?_; rintro e w' ⟨rfl, hK⟩; have hK' := Lib.hid hK; clear hK))
  go_ret2
  exact ⟨rfl, hK'.out⟩

theorem word_miss {b : Nat} {ws : List Int} {cnt : Nat} {st : St} {X : Nat → Prop} (ref : Nat) (hr : ref < 18446744073709551616) (hB : st.get ref = none) (i : Int) (w : World) (h : Bk w b ws cnt st X) :
    Calls Tryz.prog 64 #[.pointer (some ⟨b, 0, none⟩), .int .u64 ref, .int .i64 i] w fun e w' => FaultOf w (fun x => .returned (.tuple #[.int .i64 0, x])) ((ref % 4294967296 : Nat) : Int) 5 e w' := by
  have cf := size_miss ref hr hB w h
  have cf' := Lib.hid cf
  clear cf h hB
  go_enter Tryz.func64, Tryz.ntmps64
  go_wp2_with (first
    | (go_at_call 23; refine cf'.out.mono ?_; rintro e w' ⟨p, rfl, hW, hK⟩; have hK' := Lib.hid hK; have hW' := Lib.hid hW; clear hK hW))
  go_ret2
  exact ⟨_, rfl, hW'.out, hK'.out⟩
end Go.Proofs.YtenhmficiegpiaaGreatDoor
