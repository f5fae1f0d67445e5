/-
  thread.note by contract.
-/
import Derived.Test.YtenhmficiegpiaaGreatDoorThNote
namespace Go.Proofs.YtenhmficiegpiaaGreatDoor
open Go.RowKit Go.Extern.Stop Go.Stop Go.Extern

theorem two_made (w : World) (o : Obj) (t : TypeId) (cs : Array Value) : Whole ((w.alloc o).alloc (.cells cs t)) (w.heap.size + 1) t cs := by
  have := Whole.made (w.alloc o) t cs
  rwa [World.size_alloc] at this

set_option maxRecDepth 100000 in
set_option maxHeartbeats 1000000 in
theorem note_ok {w : World} {t b pl : Nat} {bv : Value} {round steps : Int} {log : List Ent} {lv : Value} {busy done : Bool} {ev : Value} (h : ThRaw w t b pl bv round steps log lv busy done ev) (few : log.length ≤ 5000) (kd rf wd : Nat) (i : Int) (dn : Bool) :
    Calls Tryz.prog 59 #[.pointer (some ⟨t, 0, none⟩), entVal0 ⟨kd, rf, i, wd, dn, .ok⟩, .nilIface] w fun e w' => Noted w t b pl bv round steps (log ++ [⟨kd, rf, i, wd, dn, .ok⟩]) lv busy done ev e w' := by
  obtain ⟨W1, hW1⟩ : ∃ W, W = (w.alloc (.cells #[.int .i64 (kd : Int), .int .u64 (rf : Int), .int .i64 i, .int .u64 (wd : Int), .bool dn, .int .i64 0] 105)).alloc (.cells #[.int .i64 0] 71) := ⟨_, rfl⟩
  have k1 : Keeps (fun _ => False) w W1 := by rw [hW1]; exact ((Keeps.refl _ w).alloc _).alloc _
  have mE : Whole W1 w.heap.size 105 #[.int .i64 (kd : Int), .int .u64 (rf : Int), .int .i64 i, .int .u64 (wd : Int), .bool dn, .int .i64 0] := by rw [hW1]; exact (Whole.made _ _ _).alloc _
  have mN : Whole W1 (w.heap.size + 1) 71 #[.int .i64 0] := by rw [hW1]; exact two_made _ _ _ _
  have hbE : Hid (∀ x, Own3 t pl lv x → x < w.heap.size) := Lib.hid h.old
  obtain ⟨Wz, hW2⟩ : ∃ W, W = W1.alloc (.cells #[.pointer none] 96) := ⟨_, rfl⟩
  have k2 : Keeps (fun _ => False) W1 Wz := by rw [hW2]; exact (Keeps.refl _ W1).alloc _
  have R2 := (h.same k1).same k2
  have Rz := Lib.hid (show Whole Wz t 75 (thCells b bv round steps lv pl busy done ev) ∧ ERow Wz lv log ∧ HoldsM Tryz.prog 3 intE Wz pl (placesF (log ++ [⟨kd, rf, i, wd, dn, .ok⟩])) from ⟨R2.blk, R2.row, by rw [placesF_no rfl]; exact R2.map⟩)
  have Ez := Lib.hid (mE.keeps k2 id)
  have Kz := Lib.hid (show Keeps (Own3 t pl lv) w Wz from (k1.trans_ k2).mono fun _ _ => False.elim)
  have hW1' := Lib.hid hW1
  have hW2' := Lib.hid hW2
  clear h k1 k2 mE mN hW1 hW2 R2
  unfold entVal0
  go_enter Tryz.func59, Tryz.ntmps59
  go_wp2_with (first | (go_at_call 76; refine (as_nil _ _).mono ?_; rintro e w' ⟨rfl, rfl⟩))
  rw [← hW1'.out, ← hW2'.out]
  have S1 := Lib.hid (fun V (A : Whole V t 75 (thCells b bv round steps lv pl busy done ev)) (B : Whole V w.heap.size 105 #[.int .i64 (kd : Int), .int .u64 (rf : Int), .int .i64 i, .int .u64 (wd : Int), .bool dn, .int .i64 0]) => (⟨A.at_ 4, B.at_ 0, B.at_ 1, B.at_ 2, B.at_ 3, B.at_ 4, B.at_ 5⟩ : V.cell? ⟨t, 4, none⟩ = some lv ∧ V.cell? ⟨w.heap.size, 0, none⟩ = some (.int .i64 (kd : Int)) ∧ V.cell? ⟨w.heap.size, 1, none⟩ = some (.int .u64 (rf : Int)) ∧ V.cell? ⟨w.heap.size, 2, none⟩ = some (.int .i64 i) ∧ V.cell? ⟨w.heap.size, 3, none⟩ = some (.int .u64 (wd : Int)) ∧ V.cell? ⟨w.heap.size, 4, none⟩ = some (.bool dn) ∧ V.cell? ⟨w.heap.size, 5, none⟩ = some (.int .i64 0)))
  have hbr : ¬ lv.ownBlock = some t := fun e => Go.Proofs.YtenhmficiegpiaaGreatDoor.row_ne Rz.out.2.1 Rz.out.1 (by decide) e
  have hbe : ¬ lv.ownBlock = some w.heap.size := fun e => Nat.lt_irrefl _ (hbE.out _ (.inr (.inr e)))
  have mL := Lib.hid ((Whole.made Wz 105 #[.int .i64 (kd : Int), .int .u64 (rf : Int), .int .i64 i, .int .u64 (wd : Int), .bool dn, .int .i64 0]).drew)
  have kL : Keeps (fun _ => False) Wz (Wz.alloc (.cells #[.int .i64 (kd : Int), .int .u64 (rf : Int), .int .i64 i, .int .u64 (wd : Int), .bool dn, .int .i64 0] 105)).drew := ((Keeps.refl (fun _ => False) Wz).alloc _).drew
  have rL := Lib.hid (Rz.out.2.1.keeps kL fun _ _ => id)
  have tL := Lib.hid (Rz.out.1.keeps kL id)
  have eL := Lib.hid (Ez.out.keeps kL id)
  have pL := Lib.hid (Rz.out.2.2.keeps kL id)
  have KL := Lib.hid (Kz.out.trans kL fun _ _ => False.elim)
  have few' : log.length ≤ 10000 := by omega
  have hbr' := Lib.hid hbr
  have hbe' := Lib.hid hbe
  clear hbr hbe kL few
  refine AnyT.begin (S := fun V => V.cell? ⟨t, 4, none⟩ = some lv ∧ V.cell? ⟨w.heap.size, 0, none⟩ = some (.int .i64 (kd : Int)) ∧ V.cell? ⟨w.heap.size, 1, none⟩ = some (.int .u64 (rf : Int)) ∧ V.cell? ⟨w.heap.size, 2, none⟩ = some (.int .i64 i) ∧ V.cell? ⟨w.heap.size, 3, none⟩ = some (.int .u64 (wd : Int)) ∧ V.cell? ⟨w.heap.size, 4, none⟩ = some (.bool dn) ∧ V.cell? ⟨w.heap.size, 5, none⟩ = some (.int .i64 0)) (by kernel_rfl) (S1.out _ Rz.out.1.drew Ez.out.drew) (fun hHeld => ?_)
  (refine AnyT.take (i := 0) (v := ?_) rfl (by kernel_rfl) (fun _ _ _ h => h) (Or.inl ⟨by rfl, ?_⟩) (by assumption) ?_; rotate_left; (· (intro V hSV; (try dsimp only at hSV); (first | (go_simp; done) | (go_simp; with_reducible rfl)))); simp only [Act.put, List.setIfInBounds_toArray, List.set_cons_zero, List.set_cons_succ])
  (refine AnyT.take (i := 1) (v := ?_) rfl (by kernel_rfl) (fun _ _ _ h => h) (Or.inl ⟨by rfl, ?_⟩) (by assumption) ?_; rotate_left; (· (intro V hSV; (try dsimp only at hSV); (first | (go_simp; done) | (go_simp; with_reducible rfl)))); simp only [Act.put, List.setIfInBounds_toArray, List.set_cons_zero, List.set_cons_succ])
  (refine AnyT.take (i := 2) (v := ?_) rfl (by kernel_rfl) (fun _ _ _ h => h) (Or.inl ⟨by rfl, ?_⟩) (by assumption) ?_; rotate_left; (· (intro V hSV; (try dsimp only at hSV); (first | (go_simp; done) | (go_simp; with_reducible rfl)))); simp only [Act.put, List.setIfInBounds_toArray, List.set_cons_zero, List.set_cons_succ])
  (refine AnyT.take (i := 3) (v := ?_) rfl (by kernel_rfl) (fun _ _ _ h => h) (Or.inl ⟨by rfl, ?_⟩) (by assumption) ?_; rotate_left; (· (intro V hSV; (try dsimp only at hSV); (first | (go_simp; done) | (go_simp; with_reducible rfl)))); simp only [Act.put, List.setIfInBounds_toArray, List.set_cons_zero, List.set_cons_succ])
  (refine AnyT.take (i := 4) (v := ?_) rfl (by kernel_rfl) (fun _ _ _ h => h) (Or.inl ⟨by rfl, ?_⟩) (by assumption) ?_; rotate_left; (· (intro V hSV; (try dsimp only at hSV); (first | (go_simp; done) | (go_simp; with_reducible rfl)))); simp only [Act.put, List.setIfInBounds_toArray, List.set_cons_zero, List.set_cons_succ])
  (refine AnyT.take (i := 5) (v := ?_) rfl (by kernel_rfl) (fun _ _ _ h => h) (Or.inl ⟨by rfl, ?_⟩) (by assumption) ?_; rotate_left; (· (intro V hSV; (try dsimp only at hSV); (first | (go_simp; done) | (go_simp; with_reducible rfl)))); simp only [Act.put, List.setIfInBounds_toArray, List.set_cons_zero, List.set_cons_succ])
  refine AnyT.ready (rs := [6]) (by kernel_rfl) (by simp) (ReadyT.cons rfl (fun K hK => ?_) ReadyT.nil)
  go_simp
  refine hK.out _ _ (fun _ => S1.out _ tL.out eL.out) (fun hH => ?_)
  have hHeld := hH (of_decide_eq_true (by kernel_rfl))
  clear hH hK K
  try simp only [Act.put, List.setIfInBounds_toArray, List.set_cons_zero, List.set_cons_succ]
  refine AnyT.ready (rs := [7]) (by kernel_rfl) (by simp) (ReadyT.cons rfl (fun K hK => ?_) ReadyT.nil)
  refine step_append_ent rfl _ _ rfl lv log ⟨kd, rf, i, wd, dn, .ok⟩ rfl rL.out ⟨Wz.heap.size, 0, none⟩ 1 rfl (one_entry (ty := 105) mL.out) few' ?_
  intro ao cap V hO hG hl
  have kV : Keeps (fun x => lv.ownBlock = some x) _ V := (Keeps.refl _ _).grown hG fun x hx _ => hx
  have fin := Lib.hid (noted_end tL.out pL.out KL.out rL.out hO hG hl)
  have tV := tL.out.keeps kV hbr'.out
  have hH2 := S1.out V tV (eL.out.keeps kV hbe'.out)
  have f4 : V.frozen? ⟨t, 4, none⟩ = false := tV.free 4
  clear hO hG hl kV tV
  refine hK.out _ _ (fun _ => hH2) (fun hH => ?_)
  clear hHeld
  have hHeld := hH (of_decide_eq_true (by kernel_rfl))
  clear hH hK K hH2
  try simp only [Act.put, List.setIfInBounds_toArray, List.set_cons_zero, List.set_cons_succ]
  (refine AnyT.take (i := 8) (v := ?_) rfl (by kernel_rfl) (fun _ _ _ h => h) (Or.inl ⟨by rfl, ?_⟩) (by assumption) ?_; rotate_left; (· (intro V hSV; (try dsimp only at hSV); (first | (go_simp; done) | (go_simp; with_reducible rfl)))); simp only [Act.put, List.setIfInBounds_toArray, List.set_cons_zero, List.set_cons_succ])
  (refine AnyT.take (i := 9) (v := ?_) rfl (by kernel_rfl) (fun _ _ _ h => h) (Or.inl ⟨by rfl, ?_⟩) (by assumption) ?_; rotate_left; (· (intro V hSV; (try dsimp only at hSV); (first | (go_simp; done) | (go_simp; with_reducible rfl)))); simp only [Act.put, List.setIfInBounds_toArray, List.set_cons_zero, List.set_cons_succ])
  refine AnyT.ready (rs := [10]) (by kernel_rfl) (by simp) (ReadyT.cons rfl (fun K hK => ?_) ReadyT.nil)
  go_simp
  refine hK.out _ _ (fun h => absurd h (of_decide_eq_false (by kernel_rfl))) (fun _ => ?_)
  clear hK K
  try simp only [Act.put, List.setIfInBounds_toArray, List.set_cons_zero, List.set_cons_succ]
  refine AnyT.done (by kernel_rfl) ?_ _
  go_wp2_with fail
  go_end0
  exact fin.out

set_option maxRecDepth 100000 in
set_option maxHeartbeats 1000000 in
theorem note_no {w : World} {t b pl : Nat} {bv : Value} {round steps : Int} {log : List Ent} {lv : Value} {busy done : Bool} {ev : Value} (h : ThRaw w t b pl bv round steps log lv busy done ev) (hg : Glob w) (few : log.length ≤ 5000) (kd rf wd : Nat) (i : Int) (dn : Bool) (k : Nat) :
    Calls Tryz.prog 59 #[.pointer (some ⟨t, 0, none⟩), entVal0 ⟨kd, rf, i, wd, dn, .no k⟩, .iface 71 (.int .i64 (k : Int))] w fun e w' => Noted w t b pl bv round steps (log ++ [⟨kd, rf, i, wd, dn, .no k⟩]) lv busy done ev e w' := by
  obtain ⟨W1, hW1⟩ : ∃ W, W = (w.alloc (.cells #[.int .i64 (kd : Int), .int .u64 (rf : Int), .int .i64 i, .int .u64 (wd : Int), .bool dn, .int .i64 0] 105)).alloc (.cells #[.int .i64 0] 71) := ⟨_, rfl⟩
  have k1 : Keeps (fun _ => False) w W1 := by rw [hW1]; exact ((Keeps.refl _ w).alloc _).alloc _
  have mE : Whole W1 w.heap.size 105 #[.int .i64 (kd : Int), .int .u64 (rf : Int), .int .i64 i, .int .u64 (wd : Int), .bool dn, .int .i64 0] := by rw [hW1]; exact (Whole.made _ _ _).alloc _
  have mN : Whole W1 (w.heap.size + 1) 71 #[.int .i64 0] := by rw [hW1]; exact two_made _ _ _ _
  have hbE : Hid (∀ x, Own3 t pl lv x → x < w.heap.size) := Lib.hid h.old
  have R1 := Lib.hid (h.same k1)
  have G1 := Lib.hid (hg.keeps k1 id)
  have E1 := Lib.hid mE
  have N1 := Lib.hid mN
  have K1 := Lib.hid k1
  have l1 := Lib.hid (show W1.heap.size = w.heap.size + 2 by rw [hW1]; simp)
  have hW1' := Lib.hid hW1
  have gW : Hid (0 < w.heap.size) := Lib.hid hg.lt
  clear h hg k1 mE mN hW1
  unfold entVal0
  go_enter Tryz.func59, Tryz.ntmps59
  go_wp2_with fail
  rw [← hW1'.out]
  refine (num_no (k : Int) (w.heap.size + 1) _ G1.out N1.out).mono ?_
  rintro e W2 ⟨rfl, hN, hK⟩
  have n0 : W2.cell? ⟨w.heap.size + 1, 0, none⟩ = some (.int .i64 (k : Int)) := hN.at_ 0
  have hEW := E1.out.keeps hK (by omega)
  have e5 : W2.cell? ⟨w.heap.size, 5, none⟩ = some (.int .i64 0) := hEW.at_ 5
  have f5 : W2.frozen? ⟨w.heap.size, 5, none⟩ = false := hEW.free 5
  obtain ⟨W3, hW3⟩ : ∃ W, W = (W2.setCell ⟨w.heap.size, 5, none⟩ (.int .i64 (k : Int))).alloc (.cells #[.pointer none] 96) := ⟨_, rfl⟩
  have mF : Whole W3 W2.heap.size 96 #[.pointer none] := by
    rw [hW3]
    have := Whole.made (W2.setCell ⟨w.heap.size, 5, none⟩ (.int .i64 (k : Int))) 96 #[.pointer none]
    rwa [World.size_setCell] at this
  have k3 : Keeps (fun x => x = w.heap.size + 1 ∨ x = w.heap.size) W1 W3 := by
    rw [hW3]
    exact ((hK.mono fun _ _ h => .inl h).setCell (p := ⟨w.heap.size, 5, none⟩) (fun _ => .inr rfl) _).alloc _
  have E3 := Lib.hid (show Whole W3 w.heap.size 105 #[.int .i64 (kd : Int), .int .u64 (rf : Int), .int .i64 i, .int .u64 (wd : Int), .bool dn, .int .i64 (k : Int)] by rw [hW3]; exact (hEW.set_ 5 _).alloc _)
  have far : ∀ x, x < w.heap.size → ¬ (x = w.heap.size + 1 ∨ x = w.heap.size) := fun x hx => by omega
  have R3 := Lib.hid (R1.out.keeps k3 fun x hx => far x (hbE.out x hx))
  have G3 := Lib.hid (G1.out.keeps k3 (far _ gW.out))
  have K3 := Lib.hid (show Keeps (fun _ => False) w W3 from K1.out.trans k3 fun x hx h => far x hx h)
  have hW3' := Lib.hid hW3
  have mF' := Lib.hid mF
  have l2 := Lib.hid (show w.heap.size + 2 ≤ W2.heap.size by rw [← l1.out]; exact hK.size)
  clear hN hK hEW hW3 mF k3 far
  go_wp2_with fail
  rw [← hW3'.out]
  refine (place_no (k : Int) _ _ G3.out).mono ?_
  rintro e Wz ⟨rfl, hK⟩
  have R4 := R3.out.same hK
  have Rz := Lib.hid (show Whole Wz t 75 (thCells b bv round steps lv pl busy done ev) ∧ ERow Wz lv log ∧ HoldsM Tryz.prog 3 intE Wz pl (placesF (log ++ [⟨kd, rf, i, wd, dn, .no k⟩])) from ⟨R4.blk, R4.row, by rw [placesF_no rfl]; exact R4.map⟩)
  have Ez := Lib.hid (E3.out.keeps hK id)
  have Kz := Lib.hid (show Keeps (Own3 t pl lv) w Wz from (K3.out.trans_ hK).mono fun _ _ => False.elim)
  clear hK R4 n0 e5 f5
  go_wp2_with fail
  have S1 := Lib.hid (fun V (A : Whole V t 75 (thCells b bv round steps lv pl busy done ev)) (B : Whole V w.heap.size 105 #[.int .i64 (kd : Int), .int .u64 (rf : Int), .int .i64 i, .int .u64 (wd : Int), .bool dn, .int .i64 (k : Int)]) => (⟨A.at_ 4, B.at_ 0, B.at_ 1, B.at_ 2, B.at_ 3, B.at_ 4, B.at_ 5⟩ : V.cell? ⟨t, 4, none⟩ = some lv ∧ V.cell? ⟨w.heap.size, 0, none⟩ = some (.int .i64 (kd : Int)) ∧ V.cell? ⟨w.heap.size, 1, none⟩ = some (.int .u64 (rf : Int)) ∧ V.cell? ⟨w.heap.size, 2, none⟩ = some (.int .i64 i) ∧ V.cell? ⟨w.heap.size, 3, none⟩ = some (.int .u64 (wd : Int)) ∧ V.cell? ⟨w.heap.size, 4, none⟩ = some (.bool dn) ∧ V.cell? ⟨w.heap.size, 5, none⟩ = some (.int .i64 (k : Int))))
  have hbr : ¬ lv.ownBlock = some t := fun e => Go.Proofs.YtenhmficiegpiaaGreatDoor.row_ne Rz.out.2.1 Rz.out.1 (by decide) e
  have hbe : ¬ lv.ownBlock = some w.heap.size := fun e => Nat.lt_irrefl _ (hbE.out _ (.inr (.inr e)))
  have mL := Lib.hid ((Whole.made Wz 105 #[.int .i64 (kd : Int), .int .u64 (rf : Int), .int .i64 i, .int .u64 (wd : Int), .bool dn, .int .i64 (k : Int)]).drew)
  have kL : Keeps (fun _ => False) Wz (Wz.alloc (.cells #[.int .i64 (kd : Int), .int .u64 (rf : Int), .int .i64 i, .int .u64 (wd : Int), .bool dn, .int .i64 (k : Int)] 105)).drew := ((Keeps.refl (fun _ => False) Wz).alloc _).drew
  have rL := Lib.hid (Rz.out.2.1.keeps kL fun _ _ => id)
  have tL := Lib.hid (Rz.out.1.keeps kL id)
  have eL := Lib.hid (Ez.out.keeps kL id)
  have pL := Lib.hid (Rz.out.2.2.keeps kL id)
  have KL := Lib.hid (Kz.out.trans kL fun _ _ => False.elim)
  have few' : log.length ≤ 10000 := by omega
  have hbr' := Lib.hid hbr
  have hbe' := Lib.hid hbe
  clear hbr hbe kL few
  refine AnyT.begin (S := fun V => V.cell? ⟨t, 4, none⟩ = some lv ∧ V.cell? ⟨w.heap.size, 0, none⟩ = some (.int .i64 (kd : Int)) ∧ V.cell? ⟨w.heap.size, 1, none⟩ = some (.int .u64 (rf : Int)) ∧ V.cell? ⟨w.heap.size, 2, none⟩ = some (.int .i64 i) ∧ V.cell? ⟨w.heap.size, 3, none⟩ = some (.int .u64 (wd : Int)) ∧ V.cell? ⟨w.heap.size, 4, none⟩ = some (.bool dn) ∧ V.cell? ⟨w.heap.size, 5, none⟩ = some (.int .i64 (k : Int))) (by kernel_rfl) (S1.out _ Rz.out.1.drew Ez.out.drew) (fun hHeld => ?_)
  (refine AnyT.take (i := 0) (v := ?_) rfl (by kernel_rfl) (fun _ _ _ h => h) (Or.inl ⟨by rfl, ?_⟩) (by assumption) ?_; rotate_left; (· (intro V hSV; (try dsimp only at hSV); (first | (go_simp; done) | (go_simp; with_reducible rfl)))); simp only [Act.put, List.setIfInBounds_toArray, List.set_cons_zero, List.set_cons_succ])
  (refine AnyT.take (i := 1) (v := ?_) rfl (by kernel_rfl) (fun _ _ _ h => h) (Or.inl ⟨by rfl, ?_⟩) (by assumption) ?_; rotate_left; (· (intro V hSV; (try dsimp only at hSV); (first | (go_simp; done) | (go_simp; with_reducible rfl)))); simp only [Act.put, List.setIfInBounds_toArray, List.set_cons_zero, List.set_cons_succ])
  (refine AnyT.take (i := 2) (v := ?_) rfl (by kernel_rfl) (fun _ _ _ h => h) (Or.inl ⟨by rfl, ?_⟩) (by assumption) ?_; rotate_left; (· (intro V hSV; (try dsimp only at hSV); (first | (go_simp; done) | (go_simp; with_reducible rfl)))); simp only [Act.put, List.setIfInBounds_toArray, List.set_cons_zero, List.set_cons_succ])
  (refine AnyT.take (i := 3) (v := ?_) rfl (by kernel_rfl) (fun _ _ _ h => h) (Or.inl ⟨by rfl, ?_⟩) (by assumption) ?_; rotate_left; (· (intro V hSV; (try dsimp only at hSV); (first | (go_simp; done) | (go_simp; with_reducible rfl)))); simp only [Act.put, List.setIfInBounds_toArray, List.set_cons_zero, List.set_cons_succ])
  (refine AnyT.take (i := 4) (v := ?_) rfl (by kernel_rfl) (fun _ _ _ h => h) (Or.inl ⟨by rfl, ?_⟩) (by assumption) ?_; rotate_left; (· (intro V hSV; (try dsimp only at hSV); (first | (go_simp; done) | (go_simp; with_reducible rfl)))); simp only [Act.put, List.setIfInBounds_toArray, List.set_cons_zero, List.set_cons_succ])
  (refine AnyT.take (i := 5) (v := ?_) rfl (by kernel_rfl) (fun _ _ _ h => h) (Or.inl ⟨by rfl, ?_⟩) (by assumption) ?_; rotate_left; (· (intro V hSV; (try dsimp only at hSV); (first | (go_simp; done) | (go_simp; with_reducible rfl)))); simp only [Act.put, List.setIfInBounds_toArray, List.set_cons_zero, List.set_cons_succ])
  refine AnyT.ready (rs := [6]) (by kernel_rfl) (by simp) (ReadyT.cons rfl (fun K hK => ?_) ReadyT.nil)
  go_simp
  refine hK.out _ _ (fun _ => S1.out _ tL.out eL.out) (fun hH => ?_)
  have hHeld := hH (of_decide_eq_true (by kernel_rfl))
  clear hH hK K
  try simp only [Act.put, List.setIfInBounds_toArray, List.set_cons_zero, List.set_cons_succ]
  refine AnyT.ready (rs := [7]) (by kernel_rfl) (by simp) (ReadyT.cons rfl (fun K hK => ?_) ReadyT.nil)
  refine step_append_ent rfl _ _ rfl lv log ⟨kd, rf, i, wd, dn, .no k⟩ rfl rL.out ⟨Wz.heap.size, 0, none⟩ 1 rfl (one_entry (ty := 105) mL.out) few' ?_
  intro ao cap V hO hG hl
  have kV : Keeps (fun x => lv.ownBlock = some x) _ V := (Keeps.refl _ _).grown hG fun x hx _ => hx
  have fin := Lib.hid (noted_end tL.out pL.out KL.out rL.out hO hG hl)
  have tV := tL.out.keeps kV hbr'.out
  have hH2 := S1.out V tV (eL.out.keeps kV hbe'.out)
  have f4 : V.frozen? ⟨t, 4, none⟩ = false := tV.free 4
  clear hO hG hl kV tV
  refine hK.out _ _ (fun _ => hH2) (fun hH => ?_)
  clear hHeld
  have hHeld := hH (of_decide_eq_true (by kernel_rfl))
  clear hH hK K hH2
  try simp only [Act.put, List.setIfInBounds_toArray, List.set_cons_zero, List.set_cons_succ]
  (refine AnyT.take (i := 8) (v := ?_) rfl (by kernel_rfl) (fun _ _ _ h => h) (Or.inl ⟨by rfl, ?_⟩) (by assumption) ?_; rotate_left; (· (intro V hSV; (try dsimp only at hSV); (first | (go_simp; done) | (go_simp; with_reducible rfl)))); simp only [Act.put, List.setIfInBounds_toArray, List.set_cons_zero, List.set_cons_succ])
  (refine AnyT.take (i := 9) (v := ?_) rfl (by kernel_rfl) (fun _ _ _ h => h) (Or.inl ⟨by rfl, ?_⟩) (by assumption) ?_; rotate_left; (· (intro V hSV; (try dsimp only at hSV); (first | (go_simp; done) | (go_simp; with_reducible rfl)))); simp only [Act.put, List.setIfInBounds_toArray, List.set_cons_zero, List.set_cons_succ])
  refine AnyT.ready (rs := [10]) (by kernel_rfl) (by simp) (ReadyT.cons rfl (fun K hK => ?_) ReadyT.nil)
  go_simp
  refine hK.out _ _ (fun h => absurd h (of_decide_eq_false (by kernel_rfl))) (fun _ => ?_)
  clear hK K
  try simp only [Act.put, List.setIfInBounds_toArray, List.set_cons_zero, List.set_cons_succ]
  refine AnyT.done (by kernel_rfl) ?_ _
  go_wp2_with fail
  go_end0
  exact fin.out

set_option maxRecDepth 100000 in
set_option maxHeartbeats 1000000 in
theorem note_fault {w : World} {t b pl : Nat} {bv : Value} {round steps : Int} {log : List Ent} {lv : Value} {busy done : Bool} {ev : Value} (h : ThRaw w t b pl bv round steps log lv busy done ev) (hg : Glob w) (few : log.length ≤ 5000) (kd rf wd : Nat) (i : Int) (dn : Bool) (p : Nat) (at_ : Int) (k : Nat) (hp : Whole w p 99 #[.int .i64 at_, .int .i64 (k : Int)]) :
    Calls Tryz.prog 59 #[.pointer (some ⟨t, 0, none⟩), entVal0 ⟨kd, rf, i, wd, dn, .at_ at_ k⟩, .iface 96 (.pointer (some ⟨p, 0, none⟩))] w fun e w' => Noted w t b pl bv round steps (log ++ [⟨kd, rf, i, wd, dn, .at_ at_ k⟩]) lv busy done ev e w' := by
  obtain ⟨W1, hW1⟩ : ∃ W, W = (w.alloc (.cells #[.int .i64 (kd : Int), .int .u64 (rf : Int), .int .i64 i, .int .u64 (wd : Int), .bool dn, .int .i64 0] 105)).alloc (.cells #[.int .i64 0] 71) := ⟨_, rfl⟩
  have k1 : Keeps (fun _ => False) w W1 := by rw [hW1]; exact ((Keeps.refl _ w).alloc _).alloc _
  have mE : Whole W1 w.heap.size 105 #[.int .i64 (kd : Int), .int .u64 (rf : Int), .int .i64 i, .int .u64 (wd : Int), .bool dn, .int .i64 0] := by rw [hW1]; exact (Whole.made _ _ _).alloc _
  have mN : Whole W1 (w.heap.size + 1) 71 #[.int .i64 0] := by rw [hW1]; exact two_made _ _ _ _
  have hbE : Hid (∀ x, Own3 t pl lv x → x < w.heap.size) := Lib.hid h.old
  have R1 := Lib.hid (h.same k1)
  have G1 := Lib.hid (hg.keeps k1 id)
  have E1 := Lib.hid mE
  have N1 := Lib.hid mN
  have K1 := Lib.hid k1
  have l1 := Lib.hid (show W1.heap.size = w.heap.size + 2 by rw [hW1]; simp)
  have hW1' := Lib.hid hW1
  have gW : Hid (0 < w.heap.size) := Lib.hid hg.lt
  have P1 := Lib.hid (hp.keeps k1 id)
  have lp : Hid (p < w.heap.size) := Lib.hid hp.lt
  clear hp
  clear h hg k1 mE mN hW1
  unfold entVal0
  go_enter Tryz.func59, Tryz.ntmps59
  go_wp2_with fail
  rw [← hW1'.out]
  refine (num_fault p at_ (k : Int) (w.heap.size + 1) _ G1.out P1.out N1.out).mono ?_
  rintro e W2 ⟨rfl, hN, hK⟩
  have n0 : W2.cell? ⟨w.heap.size + 1, 0, none⟩ = some (.int .i64 (k : Int)) := hN.at_ 0
  have hEW := E1.out.keeps hK (by omega)
  have e5 : W2.cell? ⟨w.heap.size, 5, none⟩ = some (.int .i64 0) := hEW.at_ 5
  have f5 : W2.frozen? ⟨w.heap.size, 5, none⟩ = false := hEW.free 5
  obtain ⟨W3, hW3⟩ : ∃ W, W = (W2.setCell ⟨w.heap.size, 5, none⟩ (.int .i64 (k : Int))).alloc (.cells #[.pointer none] 96) := ⟨_, rfl⟩
  have mF : Whole W3 W2.heap.size 96 #[.pointer none] := by
    rw [hW3]
    have := Whole.made (W2.setCell ⟨w.heap.size, 5, none⟩ (.int .i64 (k : Int))) 96 #[.pointer none]
    rwa [World.size_setCell] at this
  have k3 : Keeps (fun x => x = w.heap.size + 1 ∨ x = w.heap.size) W1 W3 := by
    rw [hW3]
    exact ((hK.mono fun _ _ h => .inl h).setCell (p := ⟨w.heap.size, 5, none⟩) (fun _ => .inr rfl) _).alloc _
  have E3 := Lib.hid (show Whole W3 w.heap.size 105 #[.int .i64 (kd : Int), .int .u64 (rf : Int), .int .i64 i, .int .u64 (wd : Int), .bool dn, .int .i64 (k : Int)] by rw [hW3]; exact (hEW.set_ 5 _).alloc _)
  have far : ∀ x, x < w.heap.size → ¬ (x = w.heap.size + 1 ∨ x = w.heap.size) := fun x hx => by omega
  have R3 := Lib.hid (R1.out.keeps k3 fun x hx => far x (hbE.out x hx))
  have G3 := Lib.hid (G1.out.keeps k3 (far _ gW.out))
  have K3 := Lib.hid (show Keeps (fun _ => False) w W3 from K1.out.trans k3 fun x hx h => far x hx h)
  have hW3' := Lib.hid hW3
  have mF' := Lib.hid mF
  have l2 := Lib.hid (show w.heap.size + 2 ≤ W2.heap.size by rw [← l1.out]; exact hK.size)
  have P3 := Lib.hid (P1.out.keeps k3 (far _ lp.out))
  clear hN hK hEW hW3 mF k3 far
  go_wp2_with fail
  rw [← hW3'.out]
  refine (as_set ⟨p, 0, none⟩ W2.heap.size _ G3.out mF'.out).mono ?_
  rintro e W4 ⟨rfl, hF, hK⟩
  have K4 := Lib.hid (show Keeps (fun _ => False) w W4 from K3.out.trans hK fun x hx h => by have := l2.out; omega)
  have far4 : ∀ x, x < w.heap.size + 1 → ¬ x = W2.heap.size := fun x hx => by have := l2.out; omega
  have R4 := Lib.hid (R3.out.keeps hK fun x hx => far4 x (Nat.lt_succ_of_lt (hbE.out x hx)))
  have E4 := Lib.hid (E3.out.keeps hK (far4 _ (Nat.lt_succ_self _)))
  have q0 := hF.at_ 0
  have q1 := (P3.out.keeps hK (far4 _ (Nat.lt_succ_of_lt lp.out))).at_ 0
  obtain ⟨Wd, hWd⟩ : ∃ W, W = W4.drew := ⟨_, rfl⟩
  have kd2 : Keeps (fun _ => False) W4 Wd := by rw [hWd]; exact (Keeps.refl _ W4).drew
  have Rd := Lib.hid (R4.out.same kd2)
  have Ed := Lib.hid (E4.out.keeps kd2 id)
  have Kd := Lib.hid (K4.out.trans_ kd2)
  have z0 : Wd.cell? ⟨W2.heap.size, 0, none⟩ = some (.pointer (some ⟨p, 0, none⟩)) := (hF.keeps kd2 id).at_ 0
  have z1 : Wd.cell? ⟨p, 0, none⟩ = some (.int .i64 at_) := ((P3.out.keeps hK (far4 _ (Nat.lt_succ_of_lt lp.out))).keeps kd2 id).at_ 0
  have z4 : Wd.cell? ⟨t, 4, none⟩ = some lv := Rd.out.blk.at_ 4
  have z5 : Wd.cell? ⟨t, 5, none⟩ = some (.map (some pl)) := Rd.out.blk.at_ 5
  have hWd' := Lib.hid hWd
  obtain ⟨lo, lc, hlv, _⟩ := Rd.out.row.shape
  have hlv' := Lib.hid hlv
  have few2 : log.length < maxLen := by unfold maxLen; omega
  have hwl : (Lit.int .i64 (log.length : Int)).wf = true := WalkArith.wf_i64 (by omega)
  have keysL : ∀ j, (placesF log j).isSome = true → j ∈ (List.range log.length).map fun (n : Nat) => (n : Int) := placesF_keys log
  have lenL : ((List.range log.length).map fun (n : Nat) => (n : Int)).length < maxLen := by rw [List.length_map, List.length_range]; exact few2
  have keysL' := Lib.hid keysL
  have lenL' := Lib.hid lenL
  clear hK hF far4 n0 e5 f5 kd2 hWd q0 q1 keysL lenL few2
  subst hlv
  go_wp2_with fail
  refine still_tail_at 13 (by kernel_rfl) (by kernel_rfl) Wd hWd'.out ?_
  simp only [List.take_succ_cons, List.take_zero, List.drop_succ_cons, List.drop_zero]
  repeat still_step
  refine wpStill_nil ?_
  clear z0 z1 z4 z5
  go_wp2_with (first | (at_mapUpdate; refine wpList_upd _ rfl _ _ _ 72 rfl 3 3 intE Tryz.underlying3 Tryz.underlying72 pl (placesF log) rfl Rd.out.map _ keysL'.out lenL'.out log.length rfl hwl at_ rfl ?_; intro Wz hM hG; have M2 := Lib.hid hM; have KM := Lib.hid (Keeps.of_grown hG); clear hM hG))
  have Rz := Lib.hid (show Whole Wz t 75 (thCells b bv round steps (.slice lo log.length lc) pl busy done ev) ∧ ERow Wz (.slice lo log.length lc) log ∧ HoldsM Tryz.prog 3 intE Wz pl (placesF (log ++ [⟨kd, rf, i, wd, dn, .at_ at_ k⟩])) from ⟨Rd.out.blk.keeps KM.out Rd.out.ne, Rd.out.row.keeps KM.out fun g hg => (Rd.out.row_ne hg).2, by rw [placesF_at rfl]; exact M2.out⟩)
  have Ez := Lib.hid (Ed.out.keeps KM.out (by have := hbE.out pl (.inr (.inl rfl)); omega))
  have Kz := Lib.hid (show Keeps (Own3 t pl (.slice lo log.length lc)) w Wz from (Kd.out.mono fun _ _ => False.elim).trans KM.out fun x _ h => .inr (.inl h))
  have S1 := Lib.hid (fun V (A : Whole V t 75 (thCells b bv round steps (.slice lo log.length lc) pl busy done ev)) (B : Whole V w.heap.size 105 #[.int .i64 (kd : Int), .int .u64 (rf : Int), .int .i64 i, .int .u64 (wd : Int), .bool dn, .int .i64 (k : Int)]) => (⟨A.at_ 4, B.at_ 0, B.at_ 1, B.at_ 2, B.at_ 3, B.at_ 4, B.at_ 5⟩ : V.cell? ⟨t, 4, none⟩ = some (.slice lo log.length lc) ∧ V.cell? ⟨w.heap.size, 0, none⟩ = some (.int .i64 (kd : Int)) ∧ V.cell? ⟨w.heap.size, 1, none⟩ = some (.int .u64 (rf : Int)) ∧ V.cell? ⟨w.heap.size, 2, none⟩ = some (.int .i64 i) ∧ V.cell? ⟨w.heap.size, 3, none⟩ = some (.int .u64 (wd : Int)) ∧ V.cell? ⟨w.heap.size, 4, none⟩ = some (.bool dn) ∧ V.cell? ⟨w.heap.size, 5, none⟩ = some (.int .i64 (k : Int))))
  have hbr : ¬ (Value.slice lo log.length lc).ownBlock = some t := fun e => Go.Proofs.YtenhmficiegpiaaGreatDoor.row_ne Rz.out.2.1 Rz.out.1 (by decide) e
  have hbe : ¬ (Value.slice lo log.length lc).ownBlock = some w.heap.size := fun e => Nat.lt_irrefl _ (hbE.out _ (.inr (.inr e)))
  have mL := Lib.hid ((Whole.made Wz 105 #[.int .i64 (kd : Int), .int .u64 (rf : Int), .int .i64 i, .int .u64 (wd : Int), .bool dn, .int .i64 (k : Int)]).drew)
  have kL : Keeps (fun _ => False) Wz (Wz.alloc (.cells #[.int .i64 (kd : Int), .int .u64 (rf : Int), .int .i64 i, .int .u64 (wd : Int), .bool dn, .int .i64 (k : Int)] 105)).drew := ((Keeps.refl (fun _ => False) Wz).alloc _).drew
  have rL := Lib.hid (Rz.out.2.1.keeps kL fun _ _ => id)
  have tL := Lib.hid (Rz.out.1.keeps kL id)
  have eL := Lib.hid (Ez.out.keeps kL id)
  have pL := Lib.hid (Rz.out.2.2.keeps kL id)
  have KL := Lib.hid (Kz.out.trans kL fun _ _ => False.elim)
  have few' : log.length ≤ 10000 := by omega
  have hbr' := Lib.hid hbr
  have hbe' := Lib.hid hbe
  clear hbr hbe kL few
  refine AnyT.begin (S := fun V => V.cell? ⟨t, 4, none⟩ = some (.slice lo log.length lc) ∧ V.cell? ⟨w.heap.size, 0, none⟩ = some (.int .i64 (kd : Int)) ∧ V.cell? ⟨w.heap.size, 1, none⟩ = some (.int .u64 (rf : Int)) ∧ V.cell? ⟨w.heap.size, 2, none⟩ = some (.int .i64 i) ∧ V.cell? ⟨w.heap.size, 3, none⟩ = some (.int .u64 (wd : Int)) ∧ V.cell? ⟨w.heap.size, 4, none⟩ = some (.bool dn) ∧ V.cell? ⟨w.heap.size, 5, none⟩ = some (.int .i64 (k : Int))) (by kernel_rfl) (S1.out _ Rz.out.1.drew Ez.out.drew) (fun hHeld => ?_)
  (refine AnyT.take (i := 0) (v := ?_) rfl (by kernel_rfl) (fun _ _ _ h => h) (Or.inl ⟨by rfl, ?_⟩) (by assumption) ?_; rotate_left; (· (intro V hSV; (try dsimp only at hSV); (first | (go_simp; done) | (go_simp; with_reducible rfl)))); simp only [Act.put, List.setIfInBounds_toArray, List.set_cons_zero, List.set_cons_succ])
  (refine AnyT.take (i := 1) (v := ?_) rfl (by kernel_rfl) (fun _ _ _ h => h) (Or.inl ⟨by rfl, ?_⟩) (by assumption) ?_; rotate_left; (· (intro V hSV; (try dsimp only at hSV); (first | (go_simp; done) | (go_simp; with_reducible rfl)))); simp only [Act.put, List.setIfInBounds_toArray, List.set_cons_zero, List.set_cons_succ])
  (refine AnyT.take (i := 2) (v := ?_) rfl (by kernel_rfl) (fun _ _ _ h => h) (Or.inl ⟨by rfl, ?_⟩) (by assumption) ?_; rotate_left; (· (intro V hSV; (try dsimp only at hSV); (first | (go_simp; done) | (go_simp; with_reducible rfl)))); simp only [Act.put, List.setIfInBounds_toArray, List.set_cons_zero, List.set_cons_succ])
  (refine AnyT.take (i := 3) (v := ?_) rfl (by kernel_rfl) (fun _ _ _ h => h) (Or.inl ⟨by rfl, ?_⟩) (by assumption) ?_; rotate_left; (· (intro V hSV; (try dsimp only at hSV); (first | (go_simp; done) | (go_simp; with_reducible rfl)))); simp only [Act.put, List.setIfInBounds_toArray, List.set_cons_zero, List.set_cons_succ])
  (refine AnyT.take (i := 4) (v := ?_) rfl (by kernel_rfl) (fun _ _ _ h => h) (Or.inl ⟨by rfl, ?_⟩) (by assumption) ?_; rotate_left; (· (intro V hSV; (try dsimp only at hSV); (first | (go_simp; done) | (go_simp; with_reducible rfl)))); simp only [Act.put, List.setIfInBounds_toArray, List.set_cons_zero, List.set_cons_succ])
  (refine AnyT.take (i := 5) (v := ?_) rfl (by kernel_rfl) (fun _ _ _ h => h) (Or.inl ⟨by rfl, ?_⟩) (by assumption) ?_; rotate_left; (· (intro V hSV; (try dsimp only at hSV); (first | (go_simp; done) | (go_simp; with_reducible rfl)))); simp only [Act.put, List.setIfInBounds_toArray, List.set_cons_zero, List.set_cons_succ])
  refine AnyT.ready (rs := [6]) (by kernel_rfl) (by simp) (ReadyT.cons rfl (fun K hK => ?_) ReadyT.nil)
  go_simp
  refine hK.out _ _ (fun _ => S1.out _ tL.out eL.out) (fun hH => ?_)
  have hHeld := hH (of_decide_eq_true (by kernel_rfl))
  clear hH hK K
  try simp only [Act.put, List.setIfInBounds_toArray, List.set_cons_zero, List.set_cons_succ]
  refine AnyT.ready (rs := [7]) (by kernel_rfl) (by simp) (ReadyT.cons rfl (fun K hK => ?_) ReadyT.nil)
  refine step_append_ent rfl _ _ rfl (.slice lo log.length lc) log ⟨kd, rf, i, wd, dn, .at_ at_ k⟩ rfl rL.out ⟨Wz.heap.size, 0, none⟩ 1 rfl (one_entry (ty := 105) mL.out) few' ?_
  intro ao cap V hO hG hl
  have kV : Keeps (fun x => (Value.slice lo log.length lc).ownBlock = some x) _ V := (Keeps.refl _ _).grown hG fun x hx _ => hx
  have fin := Lib.hid (noted_end tL.out pL.out KL.out rL.out hO hG hl)
  have tV := tL.out.keeps kV hbr'.out
  have hH2 := S1.out V tV (eL.out.keeps kV hbe'.out)
  have f4 : V.frozen? ⟨t, 4, none⟩ = false := tV.free 4
  clear hO hG hl kV tV
  refine hK.out _ _ (fun _ => hH2) (fun hH => ?_)
  clear hHeld
  have hHeld := hH (of_decide_eq_true (by kernel_rfl))
  clear hH hK K hH2
  try simp only [Act.put, List.setIfInBounds_toArray, List.set_cons_zero, List.set_cons_succ]
  (refine AnyT.take (i := 8) (v := ?_) rfl (by kernel_rfl) (fun _ _ _ h => h) (Or.inl ⟨by rfl, ?_⟩) (by assumption) ?_; rotate_left; (· (intro V hSV; (try dsimp only at hSV); (first | (go_simp; done) | (go_simp; with_reducible rfl)))); simp only [Act.put, List.setIfInBounds_toArray, List.set_cons_zero, List.set_cons_succ])
  (refine AnyT.take (i := 9) (v := ?_) rfl (by kernel_rfl) (fun _ _ _ h => h) (Or.inl ⟨by rfl, ?_⟩) (by assumption) ?_; rotate_left; (· (intro V hSV; (try dsimp only at hSV); (first | (go_simp; done) | (go_simp; with_reducible rfl)))); simp only [Act.put, List.setIfInBounds_toArray, List.set_cons_zero, List.set_cons_succ])
  refine AnyT.ready (rs := [10]) (by kernel_rfl) (by simp) (ReadyT.cons rfl (fun K hK => ?_) ReadyT.nil)
  go_simp
  refine hK.out _ _ (fun h => absurd h (of_decide_eq_false (by kernel_rfl))) (fun _ => ?_)
  clear hK K
  try simp only [Act.put, List.setIfInBounds_toArray, List.set_cons_zero, List.set_cons_succ]
  refine AnyT.done (by kernel_rfl) ?_ _
  go_wp2_with fail
  go_end0
  exact fin.out

theorem note_any {w : World} {t b pl : Nat} {bv : Value} {round steps : Int} {log : List Ent} {lv : Value} {busy done : Bool} {ev : Value} (h : ThRaw w t b pl bv round steps log lv busy done ev) (hg : Glob w) (few : log.length ≤ 5000) (ent : Ent) (v : Value) (hv : ErrV w v ent.err) :
    Calls Tryz.prog 59 #[.pointer (some ⟨t, 0, none⟩), entVal0 ent, v] w fun e w' => Noted w t b pl bv round steps (log ++ [ent]) lv busy done ev e w' := by
  obtain ⟨kd, rf, i, wd, dn, er⟩ := ent
  cases er with
  | ok => cases hv; exact note_ok h few kd rf wd i dn
  | no k => cases hv; exact note_no h hg few kd rf wd i dn k
  | at_ j k =>
    obtain ⟨p, rfl, hp⟩ := hv
    exact note_fault h hg few kd rf wd i dn p j k hp
end Go.Proofs.YtenhmficiegpiaaGreatDoor
