/-
  thread: what a thread is in memory; note by contract: an entry is laid behind the log, with its error's number, and the place that it names.
-/
import Derived.Test.YtenhmficiegpiaaGreatDoorThRow
import Derived.Test.YtenhmficiegpiaaGreatDoorThAs2
import Derived.Test.YtenhmficiegpiaaGreatDoorWdTail
import Derived.StillTailTactics
namespace Go.Proofs.YtenhmficiegpiaaGreatDoor
open Go.RowKit Go.Extern.Stop Go.Stop Go.Extern

theorem num_no (k : Int) (b : Nat) (w : World) (hg : Glob w) (hb : Whole w b 71 #[.int .i64 0]) :
    Calls Tryz.prog 76 #[.iface 71 (.int .i64 k), .iface 157 (.pointer (some ⟨b, 0, none⟩))] w fun ev w' => ev = .returned (.bool true) ∧ Whole w' b 71 #[.int .i64 k] ∧ Keeps (fun k => k = b) w w' := by
  refine (ae_hit k ⟨b, 0, none⟩ (.int .i64 0) w hg (hb.at_ 0) (hb.free 0)).mono ?_
  rintro ev w' ⟨rfl, rfl⟩
  exact ⟨rfl, ((((hb.alloc _).alloc _).alloc _).alloc _).set_ 0 _, (((((Keeps.refl (fun k => k = b) w).alloc _).alloc _).alloc _).alloc _).setCell (p := ⟨b, 0, none⟩) (fun _ => rfl) _⟩

theorem num_fault (p : Nat) (i k : Int) (b : Nat) (w : World) (hg : Glob w) (hp : Whole w p 99 #[.int .i64 i, .int .i64 k]) (hb : Whole w b 71 #[.int .i64 0]) :
    Calls Tryz.prog 76 #[.iface 96 (.pointer (some ⟨p, 0, none⟩)), .iface 157 (.pointer (some ⟨b, 0, none⟩))] w fun ev w' => ev = .returned (.bool true) ∧ Whole w' b 71 #[.int .i64 k] ∧ Keeps (fun k => k = b) w w' := by
  refine (ae_fault p 0 k ⟨b, 0, none⟩ (.int .i64 0) w (hp.at_ 1) hg (hb.at_ 0) (hb.free 0)).mono ?_
  rintro ev w' ⟨rfl, rfl⟩
  exact ⟨rfl, ((((hb.alloc _).alloc _).alloc _).alloc _).set_ 0 _, (((((Keeps.refl (fun k => k = b) w).alloc _).alloc _).alloc _).alloc _).setCell (p := ⟨b, 0, none⟩) (fun _ => rfl) _⟩

theorem place_no (k : Int) (t : Addr) (w : World) (hg : Glob w) :
    Calls Tryz.prog 76 #[.iface 71 (.int .i64 k), .iface 158 (.pointer (some t))] w fun ev w' => ev = .returned (.bool false) ∧ Keeps (fun _ => False) w w' := by
  refine (as_errno k t w hg).mono ?_
  rintro ev w' ⟨rfl, rfl⟩
  exact ⟨rfl, ((((Keeps.refl (fun _ => False) w).alloc _).alloc _).alloc _)⟩

/-- The cells of a thread. -/
def thCells (b : Nat) (bv : Value) (round steps : Int) (lv : Value) (pl : Nat) (busy done : Bool) (ev : Value) : Array Value :=
  #[.pointer (some ⟨b, 0, none⟩), bv, .int .i64 round, .int .i64 steps, lv, .map (some pl), .bool busy, .bool done, ev]

/-- A thread: its block, its log's row, its places. -/
structure ThRaw (w : World) (t b pl : Nat) (bv : Value) (round steps : Int) (log : List Ent) (lv : Value) (busy done : Bool) (ev : Value) : Prop where
  blk : Whole w t 75 (thCells b bv round steps lv pl busy done ev)
  row : ERow w lv log
  map : HoldsM Tryz.prog 3 intE w pl (placesF log)

/-- What a thread itself has. -/
def Own3 (t pl : Nat) (lv : Value) (x : Nat) : Prop := x = t ∨ x = pl ∨ lv.ownBlock = some x

theorem ThRaw.keeps {w w' : World} {t b pl : Nat} {bv : Value} {round steps : Int} {log : List Ent} {lv : Value} {busy done : Bool} {ev : Value} {S : Nat → Prop} (h : ThRaw w t b pl bv round steps log lv busy done ev) (k : Keeps S w w') (hS : ∀ x, Own3 t pl lv x → ¬ S x) : ThRaw w' t b pl bv round steps log lv busy done ev :=
  ⟨h.blk.keeps k (hS _ (.inl rfl)), h.row.keeps k fun _ hg => hS _ (.inr (.inr hg)), h.map.keeps k (hS _ (.inr (.inl rfl)))⟩
theorem ThRaw.same {w w' : World} {t b pl : Nat} {bv : Value} {round steps : Int} {log : List Ent} {lv : Value} {busy done : Bool} {ev : Value} (h : ThRaw w t b pl bv round steps log lv busy done ev) (k : Keeps (fun _ => False) w w') : ThRaw w' t b pl bv round steps log lv busy done ev := h.keeps k fun _ _ => id
theorem ThRaw.row_ne {w : World} {t b pl : Nat} {bv : Value} {round steps : Int} {log : List Ent} {lv : Value} {busy done : Bool} {ev : Value} (h : ThRaw w t b pl bv round steps log lv busy done ev) {x : Nat} (hg : lv.ownBlock = some x) : x ≠ t ∧ x ≠ pl :=
  ⟨fun e => Go.Proofs.YtenhmficiegpiaaGreatDoor.row_ne h.row h.blk (by decide) (by rw [hg, e]), fun e => row_ne_map h.row h.map (by rw [hg, e])⟩
theorem ThRaw.ne {w : World} {t b pl : Nat} {bv : Value} {round steps : Int} {log : List Ent} {lv : Value} {busy done : Bool} {ev : Value} (h : ThRaw w t b pl bv round steps log lv busy done ev) : t ≠ pl := h.blk.ne_map h.map
theorem ThRaw.old {w : World} {t b pl : Nat} {bv : Value} {round steps : Int} {log : List Ent} {lv : Value} {busy done : Bool} {ev : Value} (h : ThRaw w t b pl bv round steps log lv busy done ev) : ∀ x, Own3 t pl lv x → x < w.heap.size := by
  rintro x (rfl | rfl | hg)
  · exact h.blk.lt
  · exact h.map.lt
  · exact (World.ownsRow.lt h.row x hg).2

/-- What note leaves. -/
def Noted (w : World) (t b pl : Nat) (bv : Value) (round steps : Int) (log : List Ent) (lv : Value) (busy done : Bool) (ev : Value) (e : Ending) (w' : World) : Prop :=
  e = .returned (.tuple #[]) ∧ (∃ lv', ThRaw w' t b pl bv round steps log lv' busy done ev ∧ (lv'.ownBlock = lv.ownBlock ∨ ∃ g, lv'.ownBlock = some g ∧ w.heap.size ≤ g)) ∧ Keeps (Own3 t pl lv) w w'

/-- Behind the append and its store. -/
theorem noted_end {w u v : World} {t b pl : Nat} {bv : Value} {round steps : Int} {log log' : List Ent} {lv lv' : Value} {busy done : Bool} {ev : Value}
    (h : Whole u t 75 (thCells b bv round steps lv pl busy done ev)) (hm : HoldsM Tryz.prog 3 intE u pl (placesF log')) (k : Keeps (Own3 t pl lv) w u) (hr : ERow u lv log) (hO : ERow v lv' log') (hG : u.grownBy v lv.ownBlock) (hl : lv'.ownBlock = lv.ownBlock ∨ lv'.ownBlock = some u.heap.size) :
    Noted w t b pl bv round steps log' lv busy done ev (.returned (.tuple #[])) (v.setCell ⟨t, 4, none⟩ lv') := by
  have n1 : ¬ lv.ownBlock = some t := Go.Proofs.YtenhmficiegpiaaGreatDoor.row_ne hr h (by decide)
  have n2 : ¬ lv.ownBlock = some pl := row_ne_map hr hm
  have n3 : t ≠ pl := h.ne_map hm
  have kv : Keeps (fun x => lv.ownBlock = some x) u v := (Keeps.refl _ u).grown hG fun x hx _ => hx
  have hv := h.keeps kv n1
  have hmv := hm.keeps kv n2
  have n4 : ¬ lv'.ownBlock = some t := by
    rcases hl with hl | hl
    · rw [hl]; exact n1
    · rw [hl]; intro e; injection e with e; have := h.lt; omega
  refine ⟨rfl, ⟨lv', ⟨hv.set_ 4 lv', ?_, ?_⟩, ?_⟩, ?_⟩
  · exact hO.keeps ((Keeps.refl (fun x => x = t) v).setCell (p := ⟨t, 4, none⟩) (fun _ => rfl) _) fun g hg e => n4 (by rw [hg, e])
  · exact hmv.keeps ((Keeps.refl (fun x => x = t) v).setCell (p := ⟨t, 4, none⟩) (fun _ => rfl) _) fun e => n3 e.symm
  · exact hl.imp id fun e => ⟨_, e, k.size⟩
  · exact (k.trans kv fun x _ hx => .inr (.inr hx)).setCell (p := ⟨t, 4, none⟩) (fun _ => .inl rfl) _
end Go.Proofs.YtenhmficiegpiaaGreatDoor
