/-
  blocks: keep and give by contract: what a block is now stands in the map of all blocks, and its head in the arena; a block that is given out has words 0.
-/
import Derived.Test.YtenhmficiegpiaaGreatDoorBkAccess
import Derived.StillTailTactics
import Derived.Deep.RegionHeld3
namespace Go.Proofs.YtenhmficiegpiaaGreatDoor
open Go.RowKit Go.Extern.Stop Go.Stop Go.Extern

/-- The map of all blocks is written. -/
theorem BkRaw.putAll {w w' : World} {b a bw mb fb : Nat} {ws : List Int} {cnt : Nat} {f f' : Int → Option BV} {fr : Nat → List Nat} {top : Nat} {rows : Int → Option RowV} {X : Nat → Prop} (h : BkRaw w b a bw mb fb ws cnt f fr top rows X) (hm : HoldsM Tryz.prog 3 bvE w' mb f') (k : Keeps (fun x => x = mb) w w') : BkRaw w' b a bw mb fb ws cnt f' fr top rows X where
  blk := h.blk.keeps k (fun e => h.blk.ne_map h.all e)
  arena := by
    obtain ⟨⟨lk, la, lo, ln, ld, h1⟩, h2, h3⟩ := h.arena
    exact ⟨⟨lk, la, lo, ln, ld, h1.keeps k fun e => h1.ne_map h.all e⟩, h2.keeps k fun e => h2.ne_map h.all e, h3⟩
  all := hm
  freed := h.freed.keeps k fun e => h.ne e.symm
  own := fun n => ownsRow_keeps (h.own n) k fun g hg e => row_ne_map (h.own n) h.all (by rw [hg, e])
  apart := h.apart
  keys := h.keys
  ne := h.ne
  inX := h.inX
  rowX := h.rowX
  old := fun x hx => Nat.lt_of_lt_of_le (h.old x hx) k.size

theorem Keeps.of_grown {w w' : World} {g : Nat} (h : w.grownBy w' (some g)) : Keeps (fun x => x = g) w w' :=
  (Keeps.refl (fun x => x = g) w).grown h fun k hk _ => by injection hk with hk; exact hk.symm

theorem four {w : World} {b a bw mb fb r : Nat} {ws : List Int} {cnt : Nat} {f : Int → Option BV} {fr : Nat → List Nat} {top : Nat} {rows : Int → Option RowV} {X : Nat → Prop} {t : TypeId} {x y z : Value} (h : BkRaw w b a bw mb fb ws cnt f fr top rows X) (hr : Whole w r t #[x, y, z]) :
    w.cell? ⟨b, 0, none⟩ = some (.pointer (some ⟨a, 0, none⟩)) ∧ w.cell? ⟨r, 0, none⟩ = some x ∧ w.cell? ⟨r, 1, none⟩ = some y ∧ w.cell? ⟨r, 2, none⟩ = some z :=
  ⟨h.blk.at_ 0, hr.at_ 0, hr.at_ 1, hr.at_ 2⟩

/-- A drawn region whose head only reads and whose end is in one order, in a world of its own name. -/
theorem still_tail_at {P : Program} {id : Nat} {Q : Exit → Act → World → Prop} {a : Act} {w : World} {l : List Oper} (n : Nat) (hm : P.follows .mixedOrders = true) (hB : Region.lexTailB .any l.toArray n = true) (W : World) (hW : W = w.drew)
    (h : wpStill P l.toArray W (fun a' => wpList P l.toArray Q (l.drop n) a' W) (l.take n) a) : (Code.region id l.toArray true).wp P Q a w := by
  subst hW
  exact wp_region_still_tail n hm hB h

set_option maxRecDepth 100000 in
theorem keep_raw {w : World} {b a bw mb fb : Nat} {ws : List Int} {cnt : Nat} {f : Int → Option BV} {fr : Nat → List Nat} {top : Nat} {rows : Int → Option RowV} {X : Nat → Prop} (h : BkRaw w b a bw mb fb ws cnt f fr top rows X) (place sz gn : Nat) (lv : Bool) (hp : place < ws.length) (l : List Int) (hl : ∀ j, (f j).isSome = true → j ∈ l) (hlen : l.length < maxLen) (hcnt : cnt ≤ 1000000) :
    Calls Tryz.prog 77 #[.pointer (some ⟨b, 0, none⟩), .int .i64 place, .agg #[.int .i64 sz, .int .u32 gn, .bool lv]] w fun e w' => e = .returned .nilIface ∧ (∃ hd, BkRaw w' b a bw mb fb (ws.set place hd) (cnt + 1) (upd f place ⟨sz, gn, lv⟩) fr top rows X) ∧ Keeps X w w' := by
  have c0 : w.cell? ⟨b, 0, none⟩ = some (.pointer (some ⟨a, 0, none⟩)) := h.blk.at_ 0
  have c1 : w.cell? ⟨b, 1, none⟩ = some (.map (some mb)) := h.blk.at_ 1
  have lb := h.blk.lt
  have hlen16 := h.arena.2.2.2
  have hw : (Lit.int .i64 (place : Int)).wf = true := WalkArith.wf_i64 (by omega)
  have h' := Lib.hid h
  have hl' := Lib.hid hl
  clear h hl
  obtain ⟨W, hW⟩ : ∃ W, W = (w.alloc (.cells #[.int .i64 sz, .int .u32 gn, .bool lv] 93)).drew := ⟨_, rfl⟩
  have kW : Keeps (fun _ => False) w W := by rw [hW]; exact ((Keeps.refl _ w).alloc _).drew
  have mW : Whole W w.heap.size 93 #[.int .i64 sz, .int .u32 gn, .bool lv] := by rw [hW]; exact (Whole.made _ _ _).drew
  have hW' := Lib.hid hW
  clear hW
  have d1 : W.cell? ⟨b, 1, none⟩ = some (.map (some mb)) := (h'.out.keeps kW fun _ _ => id).blk.at_ 1
  have x0 : W.cell? ⟨w.heap.size, 0, none⟩ = some (.int .i64 sz) := mW.at_ 0
  have x1 : W.cell? ⟨w.heap.size, 1, none⟩ = some (.int .u32 gn) := mW.at_ 1
  have x2 : W.cell? ⟨w.heap.size, 2, none⟩ = some (.bool lv) := mW.at_ 2
  have hW1 := Lib.hid (h'.out.keeps kW fun _ _ => id)
  have kW' := Lib.hid kW
  have mW' := Lib.hid mW
  clear kW mW
  go_enter Tryz.func77, Tryz.ntmps77
  go_wp2
  refine still_tail_at 6 (by kernel_rfl) (by kernel_rfl) W hW'.out ?_
  simp only [List.take_succ_cons, List.take_zero, List.drop_succ_cons, List.drop_zero]
  repeat still_step
  refine wpStill_nil ?_
  clear d1 x0 x1 x2
  go_wp2_with (first | (at_mapUpdate; refine wpList_upd _ rfl _ _ _ 87 rfl 3 93 bvE Tryz.underlying3 Tryz.underlying87 mb f rfl hW1.out.all l hl'.out hlen place rfl hw ⟨sz, gn, lv⟩ rfl ?_; intro W2 hM2 hG2; have M2 := Lib.hid hM2; have K2 := Lib.hid (Keeps.of_grown hG2); clear hM2 hG2))
  have la := Lib.hid h'.out.arena.lt
  have hR := Lib.hid (hW1.out.putAll M2.out K2.out)
  have hlm := h'.out.all.lt
  have m2 := mW'.out.keeps K2.out (by omega)
  have s0 := Lib.hid (four hR.out m2)
  have s1 := Lib.hid (four (hR.out.keeps ((Keeps.refl (fun _ => False) W2).drew) fun _ _ => id) m2.drew)
  have m2' := Lib.hid m2
  have lr := hW1.out.arena.lt
  clear m2 hlm
  go_region_held3 (fun V => V.cell? ⟨b, 0, none⟩ = some (.pointer (some ⟨a, 0, none⟩)) ∧ V.cell? ⟨w.heap.size, 0, none⟩ = some (.int .i64 sz) ∧ V.cell? ⟨w.heap.size, 1, none⟩ = some (.int .u32 gn) ∧ V.cell? ⟨w.heap.size, 2, none⟩ = some (.bool lv)) (first | exact s1.out | exact hHeld | exact s3.out | exact s2.out)
    (first
      | (go_at_call 87; refine (head_any _ _ _ _).mono ?_; rintro e V ⟨⟨hd, rfl⟩, hK⟩; have k3 := Lib.hid (((Keeps.refl (fun _ => False) W2).drew).trans_ hK); have s2 := Lib.hid (four (hR.out.keeps k3.out fun _ _ => id) (m2'.out.keeps k3.out id)); clear hK)
      | (go_at_call 65; refine (store_in a bw ws cnt place _ hp hcnt _ (hR.out.keeps k3.out fun _ _ => id).arena).mono ?_; rintro e V2 ⟨rfl, hA, hK⟩; have a4 := Lib.hid hA; have k4 := Lib.hid hK; have s3 := Lib.hid (four ((hR.out.keeps k3.out fun _ _ => id).accessed hA hK) ((m2'.out.keeps k3.out id).keeps hK (fun e => by have := la.out; rcases e with e | e <;> omega))); clear hA hK))
  go_wp2
  go_ret
  refine ⟨rfl, ⟨hd, (hR.out.keeps k3.out fun _ _ => id).accessed a4.out k4.out⟩, ?_⟩
  have e1 : Keeps X w W := kW'.out.mono fun _ _ => False.elim
  have e2 : Keeps X w W2 := e1.trans K2.out fun x _ e => by rw [e]; exact h'.out.inX.2.2.2.1
  have e3 := e2.trans k3.out fun _ _ => False.elim
  exact e3.trans k4.out fun x _ => h'.out.its x
end Go.Proofs.YtenhmficiegpiaaGreatDoor
