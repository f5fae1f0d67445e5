/-
  blocks: take, walked: of a size of which a place was freed; of one of which none was, with and without room.
-/
import Derived.Test.YtenhmficiegpiaaGreatDoorBkTake
namespace Go.Proofs.YtenhmficiegpiaaGreatDoor
open Go.RowKit Go.Extern.Stop Go.Stop Go.Extern

set_option maxRecDepth 100000 in
theorem take_pop {w : World} {b a bw mb fb : Nat} {ws : List Int} {cnt : Nat} {f : Int → Option BV} {fr : Nat → List Nat} {top : Nat} {rows : Int → Option RowV} {X : Nat → Prop} (h : BkRaw w b a bw mb fb ws cnt f fr top rows X) (n : Nat) (hn : 1 ≤ n ∧ n ≤ 64) (l : List Nat) (p : Nat) (hfr : fr n = l ++ [p]) :
    Calls Tryz.prog 61 #[.pointer (some ⟨b, 0, none⟩), .int .i64 n] w fun e w' => e = .returned (.tuple #[.int .i64 p, .nilIface]) ∧ (∃ rows', BkRaw w' b a bw mb fb ws cnt f (setFr fr n l) top rows' X) ∧ Keeps X w w' := by
  obtain ⟨g, cap, hrow, hc1, hc2, hg, hcell, hown⟩ := row_some h n l p hfr
  have c2 : w.cell? ⟨b, 2, none⟩ = some (.map (some fb)) := h.blk.at_ 2
  have lb := h.blk.lt
  have hw : (Lit.int .i64 (n : Int)).wf = true := WalkArith.wf_i64 (by omega)
  have hu : rowE.val ((rows (n : Int)).getD none) = .slice (some ⟨g, 0, none⟩) (l.length + 1) cap := by
    show rowVal (rowAt rows n) = _
    rw [hrow]; rfl
  have hXg : X g := h.rowX n g (by rw [hrow]; rfl)
  have hob : (rowVal (rowAt rows n)).ownBlock = some g := by rw [hrow]; rfl
  unfold maxLen at hc2
  obtain ⟨W, hW⟩ : ∃ W, W = w.drew := ⟨_, rfl⟩
  have kW : Keeps (fun _ => False) w W := by rw [hW]; exact (Keeps.refl _ w).drew
  have d2 : W.cell? ⟨b, 2, none⟩ = some (.map (some fb)) := (h.keeps kW fun _ _ => id).blk.at_ 2
  have dc : W.cell? ⟨g, l.length, none⟩ = some (.int .i64 p) := (kW.cell hg id).trans hcell
  have hW1 := Lib.hid (h.keeps kW fun _ _ => id)
  have hW' := Lib.hid hW
  have kW' := Lib.hid kW
  have h' := Lib.hid h
  have hu' := Lib.hid hu
  have hown' := Lib.hid (ownsRow_keeps hown kW fun _ _ => id)
  have hob' := Lib.hid hob
  have hl0 : (0 : Int) < (l.length : Int) + 1 := by omega
  have hqc : (l.length : Int) ≤ (cap : Int) := by omega
  have hgf : ¬ g = fb := fun e => row_ne_map (h.own n) h.freed (by rw [hob, e])
  have hgW : g < W.heap.size := Nat.lt_of_lt_of_le hg kW.size
  clear h hu hown hW kW hfr hrow hob hcell
  generalize hq : l.length = q at hl0 hqc dc hu' ⊢
  have hqH := Lib.hid hq
  clear hq hc1
  go_enter Tryz.func61, Tryz.ntmps61
  go_wp2_with (first | (at_lookup; refine wpList_look _ rfl _ _ 88 rfl 3 22 rowE Tryz.underlying3 Tryz.underlying88 none (zero_row _) fb rows rfl h'.out.freed n rfl hw _ hu'.out ?_))
  refine still_tail_at 8 (by kernel_rfl) (by kernel_rfl) W hW'.out ?_
  simp only [List.take_succ_cons, List.take_zero, List.drop_succ_cons, List.drop_zero]
  repeat still_step
  refine wpStill_nil ?_
  clear d2
  go_wp2_with (first | (at_mapUpdate; refine wpList_upd _ rfl _ _ _ 88 rfl 3 22 rowE Tryz.underlying3 Tryz.underlying88 fb rows rfl hW1.out.freed _ (rows_keys hW1.out) (by simp [maxLen]) n rfl hw (some (g, q, cap)) rfl ?_; intro W2 hM2 hG2; have M2 := Lib.hid hM2; have K2 := Lib.hid (Keeps.of_grown hG2); have dc2 := ((Keeps.of_grown hG2).cell (p := ⟨g, q, none⟩) hgW hgf).trans dc; clear hM2 hG2))
  clear dc
  go_wp2
  go_ret2
  have hR := hW1.out.row (S := fun x => x = fb) n hn g q cap l M2.out K2.out (fun x _ e => .inl e) (by rw [← hqH.out]; exact ownsRow_keeps hown'.out K2.out fun x hx e => hgf (by simp [rowVal, Value.ownBlock] at hx; rw [hx]; exact e)) (.inl hob'.out) (Nat.lt_of_lt_of_le hgW K2.out.size)
  have hX : (fun x => X x ∨ x = g) = X := by
    funext x
    exact propext ⟨fun h => h.elim id fun e => e ▸ hXg, .inl⟩
  rw [hX] at hR
  exact ⟨rfl, ⟨_, hR⟩, (kW'.out.mono fun _ _ => False.elim).trans K2.out fun x _ e => by rw [e]; exact h'.out.inX.2.2.2.2⟩

/-- A size's slice that is empty. -/
theorem row_none {w : World} {b a bw mb fb : Nat} {ws : List Int} {cnt : Nat} {f : Int → Option BV} {fr : Nat → List Nat} {top : Nat} {rows : Int → Option RowV} {X : Nat → Prop} (h : BkRaw w b a bw mb fb ws cnt f fr top rows X) (n : Nat) (hfr : fr n = []) :
    ∃ o c, rowE.val ((rows (n : Int)).getD none) = .slice o 0 c := by
  have ho := (h.own n).2
  rw [hfr] at ho
  show ∃ o c, rowVal (rowAt rows n) = .slice o 0 c
  rcases ho with ⟨hv, _⟩ | ⟨g, cap, cur, hv, _⟩
  · exact ⟨none, 0, hv⟩
  · exact ⟨_, _, hv⟩

set_option maxRecDepth 100000 in
theorem take_full {w : World} {b a bw mb fb : Nat} {ws : List Int} {cnt : Nat} {f : Int → Option BV} {fr : Nat → List Nat} {top : Nat} {rows : Int → Option RowV} {X : Nat → Prop} (h : BkRaw w b a bw mb fb ws cnt f fr top rows X) (n : Nat) (hn : 1 ≤ n ∧ n ≤ 64) (hfr : fr n = []) (htop : top ≤ ws.length) (hno : ws.length < top + 1 + n) :
    Calls Tryz.prog 61 #[.pointer (some ⟨b, 0, none⟩), .int .i64 n] w fun e w' => e = .returned (.tuple #[.int .i64 0, .iface 71 (.int .i64 4)]) ∧ w = w' := by
  obtain ⟨o, c, hu⟩ := row_none h n hfr
  have c0 : w.cell? ⟨b, 0, none⟩ = some (.pointer (some ⟨a, 0, none⟩)) := h.blk.at_ 0
  have c2 : w.cell? ⟨b, 2, none⟩ = some (.map (some fb)) := h.blk.at_ 2
  have c3 : w.cell? ⟨b, 3, none⟩ = some (.int .i64 top) := h.blk.at_ 3
  have hw : (Lit.int .i64 (n : Int)).wf = true := WalkArith.wf_i64 (by omega)
  have hlen16 := h.arena.2.2.2
  have cl := alen_there a bw ws cnt
  have t1 : (ws.length : Int) - top < 1 + n := by omega
  generalize ws.length = L at cl t1 htop hlen16
  have h' := Lib.hid h
  have hu' := Lib.hid hu
  clear h hu hfr hno
  go_enter Tryz.func61, Tryz.ntmps61
  go_wp2_with (first
    | (at_lookup; refine wpList_look _ rfl _ _ 88 rfl 3 22 rowE Tryz.underlying3 Tryz.underlying88 none (zero_row _) fb rows rfl h'.out.freed n rfl hw _ hu'.out ?_)
    | (go_at_call 34; refine (cl _ h'.out.arena).mono ?_; rintro e w' ⟨rfl, rfl⟩))
  go_ret2
  exact ⟨rfl, rfl⟩

set_option maxRecDepth 100000 in
theorem take_new {w : World} {b a bw mb fb : Nat} {ws : List Int} {cnt : Nat} {f : Int → Option BV} {fr : Nat → List Nat} {top : Nat} {rows : Int → Option RowV} {X : Nat → Prop} (h : BkRaw w b a bw mb fb ws cnt f fr top rows X) (n : Nat) (hn : 1 ≤ n ∧ n ≤ 64) (hfr : fr n = []) (hroom : top + 1 + n ≤ ws.length) (l : List Int) (hl : ∀ j, (f j).isSome = true → j ∈ l) (hlen : l.length < maxLen) :
    Calls Tryz.prog 61 #[.pointer (some ⟨b, 0, none⟩), .int .i64 n] w fun e w' => e = .returned (.tuple #[.int .i64 top, .nilIface]) ∧ BkRaw w' b a bw mb fb ws cnt (upd f (top : Int) ⟨n, 0, false⟩) fr (top + 1 + n) rows X ∧ Keeps X w w' := by
  obtain ⟨o, c, hu⟩ := row_none h n hfr
  have c0 : w.cell? ⟨b, 0, none⟩ = some (.pointer (some ⟨a, 0, none⟩)) := h.blk.at_ 0
  have c1 : w.cell? ⟨b, 1, none⟩ = some (.map (some mb)) := h.blk.at_ 1
  have c2 : w.cell? ⟨b, 2, none⟩ = some (.map (some fb)) := h.blk.at_ 2
  have c3 : w.cell? ⟨b, 3, none⟩ = some (.int .i64 top) := h.blk.at_ 3
  have f3 := h.blk.free 3
  have hlen16 := h.arena.2.2.2
  have hw : (Lit.int .i64 (n : Int)).wf = true := WalkArith.wf_i64 (by omega)
  have hwt : (Lit.int .i64 (top : Int)).wf = true := WalkArith.wf_i64 (by omega)
  have cl := alen_there a bw ws cnt
  have t1 : ¬ (ws.length : Int) - top < 1 + n := by omega
  have t2 : (top : Int) ≤ 16384 := by omega
  have t3 : (ws.length : Int) ≤ 16384 := by omega
  generalize ws.length = L at cl t1 t3
  obtain ⟨hT, kT⟩ := h.setTop (top + 1 + n) (top + (1 + n)) (by omega)
  have h' := Lib.hid h
  have hu' := Lib.hid hu
  have hl' := Lib.hid hl
  have hT' := Lib.hid hT
  have kT' := Lib.hid kT
  clear h hu hfr hl hT kT hroom hlen16
  go_enter Tryz.func61, Tryz.ntmps61
  go_wp2_with (first
    | (at_lookup; refine wpList_look _ rfl _ _ 88 rfl 3 22 rowE Tryz.underlying3 Tryz.underlying88 none (zero_row _) fb rows rfl h'.out.freed n rfl hw _ hu'.out ?_)
    | (go_at_call 34; refine (cl _ h'.out.arena).mono ?_; rintro e w' ⟨rfl, rfl⟩)
    | (at_mapUpdate; refine wpList_upd _ rfl _ _ _ 87 rfl 3 93 bvE Tryz.underlying3 Tryz.underlying87 mb f rfl hT'.out.all l hl'.out hlen top rfl hwt ⟨n, 0, false⟩ rfl ?_; intro W2 hM2 hG2; have M2 := Lib.hid hM2; have K2 := Lib.hid (Keeps.of_grown hG2); clear hM2 hG2))
  go_ret2
  exact ⟨rfl, hT'.out.putAll M2.out K2.out, ((kT'.out.mono fun x _ e => by rw [e]; exact h'.out.inX.1)).trans K2.out fun x _ e => by rw [e]; exact h'.out.inX.2.2.2.1⟩
end Go.Proofs.YtenhmficiegpiaaGreatDoor
