/-
  thread.answer by contract: what an entry of the log answers.
-/
import Derived.Test.YtenhmficiegpiaaGreatDoorThNote
import Derived.RegionTactic
namespace Go.Proofs.YtenhmficiegpiaaGreatDoor
open Go.RowKit Go.Extern.Stop Go.Stop Go.Extern

/-- An error that is a new one. -/
def FreshE (B : Nat) (v : Value) : Prop := ∀ ty x, v = .iface ty (.pointer (some x)) → B ≤ x.block

theorem zero_int (w : World) : (zeroValue 3).run Tryz.prog w = .ok (intE.val 0) w := by kernel_rfl

/-- What answer tells. -/
def Answered (w : World) (e0 : Ent) (e : Ending) (w' : World) : Prop :=
  ∃ v, e = .returned (.tuple #[entVal0 e0.ans, v]) ∧ ErrV w' v e0.err ∧ FreshE w.heap.size v ∧ Keeps (fun _ => False) w w'

/-- The cells of an entry of the log. -/
theorem row_cells {w : World} {g n c k : Nat} {log : List Ent} (h : ERow w (.slice (some ⟨g, 0, none⟩) n c) log) (hn : log.length = n) (hk : k < log.length) {kd rf wd : Nat} {i : Int} {dn : Bool} {er : EA} (he : log.getD k (.zero .ok) = ⟨kd, rf, i, wd, dn, er⟩) :
    w.cell? ⟨g, k * 6, none⟩ = some (.int .i64 (kd : Int)) ∧ w.cell? ⟨g, k * 6 + 1, none⟩ = some (.int .u64 (rf : Int)) ∧ w.cell? ⟨g, k * 6 + 2, none⟩ = some (.int .i64 i) ∧ w.cell? ⟨g, k * 6 + 3, none⟩ = some (.int .u64 (wd : Int)) ∧ w.cell? ⟨g, k * 6 + 4, none⟩ = some (.bool dn) ∧ w.cell? ⟨g, k * 6 + 5, none⟩ = some (.int .i64 (er.num : Int)) := by
  have e0 := h.at_ hn hk (j := 0) (by omega)
  have e1 := h.at_ hn hk (j := 1) (by omega)
  have e2 := h.at_ hn hk (j := 2) (by omega)
  have e3 := h.at_ hn hk (j := 3) (by omega)
  have e4 := h.at_ hn hk (j := 4) (by omega)
  have e5 := h.at_ hn hk (j := 5) (by omega)
  rw [he] at e0 e1 e2 e3 e4 e5
  exact ⟨e0, e1, e2, e3, e4, e5⟩

set_option maxRecDepth 100000 in
set_option maxHeartbeats 1000000 in
theorem answer_ok {w : World} {t b pl : Nat} {bv : Value} {round steps : Int} {log : List Ent} {lv : Value} {busy done : Bool} {ev : Value} (h : ThRaw w t b pl bv round steps log lv busy done ev) (few : log.length ≤ 6000) (k : Nat) (hk : k < log.length) (kd rf wd : Nat) (i : Int) (dn : Bool) (he : log.getD k (.zero .ok) = ⟨kd, rf, i, wd, dn, .ok⟩) :
    Calls Tryz.prog 60 #[.pointer (some ⟨t, 0, none⟩), .int .i64 (k : Int)] w fun e w' => Answered w ⟨kd, rf, i, wd, dn, .ok⟩ e w' := by
  obtain ⟨o, c, rfl, ho⟩ := h.row.shape
  obtain ⟨g, rfl⟩ := ho (by omega)
  obtain ⟨y0, y1, y2, y3, y4, y5⟩ := row_cells h.row rfl hk he
  have c4 : w.cell? ⟨t, 4, none⟩ = some (.slice (some ⟨g, 0, none⟩) log.length c) := h.blk.at_ 4
  have c5 : w.cell? ⟨t, 5, none⟩ = some (.map (some pl)) := h.blk.at_ 5
  have hk' : (k : Int) < (log.length : Int) := by omega
  have hk0 : (0 : Int) ≤ (k : Int) := by omega
  have lt := h.blk.lt
  have lg : g < w.heap.size := (World.ownsRow.lt h.row g rfl).2
  have hpl := Lib.hid (placesF_get hk)
  rw [he] at hpl
  have hM := Lib.hid h.map
  have hwk : (Lit.int .i64 (k : Int)).wf = true := WalkArith.wf_i64 (by omega)
  have y5' : w.cell? ⟨g, k * 6 + 5, none⟩ = some (.int .i64 0) := y5
  clear h ho hk few he y5
  go_enter Tryz.func60, Tryz.ntmps60
  go_wp2_with fail
  refine bodyPost_ret (v := .tuple #[(.agg #[.int .i64 (kd : Int), .int .u64 (rf : Int), .int .i64 i, .int .u64 (wd : Int), .bool dn, .int .i64 0]), .nilIface]) (by simp [results, Tryz.results60, go_sem]) rfl ⟨_, rfl, rfl, fun _ _ h => (by cases h), ((Keeps.refl _ w).alloc _).alloc _⟩

set_option maxRecDepth 100000 in
set_option maxHeartbeats 1000000 in
theorem answer_no {w : World} {t b pl : Nat} {bv : Value} {round steps : Int} {log : List Ent} {lv : Value} {busy done : Bool} {ev : Value} (h : ThRaw w t b pl bv round steps log lv busy done ev) (few : log.length ≤ 6000) (k : Nat) (hk : k < log.length) (kd rf wd : Nat) (i : Int) (dn : Bool) (q : Nat) (hq : q ≠ 0) (he : log.getD k (.zero .ok) = ⟨kd, rf, i, wd, dn, .no q⟩) :
    Calls Tryz.prog 60 #[.pointer (some ⟨t, 0, none⟩), .int .i64 (k : Int)] w fun e w' => Answered w ⟨kd, rf, i, wd, dn, .no q⟩ e w' := by
  obtain ⟨o, c, rfl, ho⟩ := h.row.shape
  obtain ⟨g, rfl⟩ := ho (by omega)
  obtain ⟨y0, y1, y2, y3, y4, y5⟩ := row_cells h.row rfl hk he
  have c4 : w.cell? ⟨t, 4, none⟩ = some (.slice (some ⟨g, 0, none⟩) log.length c) := h.blk.at_ 4
  have c5 : w.cell? ⟨t, 5, none⟩ = some (.map (some pl)) := h.blk.at_ 5
  have hk' : (k : Int) < (log.length : Int) := by omega
  have hk0 : (0 : Int) ≤ (k : Int) := by omega
  have lt := h.blk.lt
  have lg : g < w.heap.size := (World.ownsRow.lt h.row g rfl).2
  have hpl := Lib.hid (placesF_get hk)
  rw [he] at hpl
  have hM := Lib.hid h.map
  have hwk : (Lit.int .i64 (k : Int)).wf = true := WalkArith.wf_i64 (by omega)
  have y5' : w.cell? ⟨g, k * 6 + 5, none⟩ = some (.int .i64 (q : Int)) := y5
  have hq' : ¬ ((q : Int) == 0) = true := by simp; omega
  have hq2 : ((q : Int) == 0) = false := by simp; omega
  clear h ho hk few he y5
  go_enter Tryz.func60, Tryz.ntmps60
  go_wp2_with (first | (at_lookup; refine wpList_look_ok _ rfl _ _ 72 rfl 3 3 intE Tryz.underlying3 Tryz.underlying72 0 (zero_int _) pl (placesF log) rfl (hM.out.keeps (((Keeps.refl (fun _ => False) w).alloc _).alloc _) id) (k : Int) rfl hwk (.int .i64 0) false (by rw [hpl.out]; rfl) (by rw [hpl.out]; rfl) ?_))
  go_region
  go_wp2_with fail
  refine bodyPost_ret (v := .tuple #[(.agg #[.int .i64 0, .int .u64 0, .int .i64 0, .int .u64 0, .bool false, .int .i64 0]), .iface 71 (.int .i64 (q : Int))]) (by simp [results, Tryz.results60, go_sem]) rfl ⟨_, rfl, rfl, fun _ _ h => (by cases h), (((Keeps.refl _ w).alloc _).alloc _).drew⟩

set_option maxRecDepth 100000 in
set_option maxHeartbeats 1000000 in
theorem answer_fault {w : World} {t b pl : Nat} {bv : Value} {round steps : Int} {log : List Ent} {lv : Value} {busy done : Bool} {ev : Value} (h : ThRaw w t b pl bv round steps log lv busy done ev) (few : log.length ≤ 6000) (k : Nat) (hk : k < log.length) (kd rf wd : Nat) (i : Int) (dn : Bool) (at_ : Int) (q : Nat) (hq : q ≠ 0) (he : log.getD k (.zero .ok) = ⟨kd, rf, i, wd, dn, .at_ at_ q⟩) :
    Calls Tryz.prog 60 #[.pointer (some ⟨t, 0, none⟩), .int .i64 (k : Int)] w fun e w' => Answered w ⟨kd, rf, i, wd, dn, .at_ at_ q⟩ e w' := by
  obtain ⟨o, c, rfl, ho⟩ := h.row.shape
  obtain ⟨g, rfl⟩ := ho (by omega)
  obtain ⟨y0, y1, y2, y3, y4, y5⟩ := row_cells h.row rfl hk he
  have c4 : w.cell? ⟨t, 4, none⟩ = some (.slice (some ⟨g, 0, none⟩) log.length c) := h.blk.at_ 4
  have c5 : w.cell? ⟨t, 5, none⟩ = some (.map (some pl)) := h.blk.at_ 5
  have hk' : (k : Int) < (log.length : Int) := by omega
  have hk0 : (0 : Int) ≤ (k : Int) := by omega
  have lt := h.blk.lt
  have lg : g < w.heap.size := (World.ownsRow.lt h.row g rfl).2
  have hpl := Lib.hid (placesF_get hk)
  rw [he] at hpl
  have hM := Lib.hid h.map
  have hwk : (Lit.int .i64 (k : Int)).wf = true := WalkArith.wf_i64 (by omega)
  have y5' : w.cell? ⟨g, k * 6 + 5, none⟩ = some (.int .i64 (q : Int)) := y5
  have hq' : ¬ ((q : Int) == 0) = true := by simp; omega
  have hq2 : ((q : Int) == 0) = false := by simp; omega
  clear h ho hk few he y5
  go_enter Tryz.func60, Tryz.ntmps60
  go_wp2_with (first | (at_lookup; refine wpList_look_ok _ rfl _ _ 72 rfl 3 3 intE Tryz.underlying3 Tryz.underlying72 0 (zero_int _) pl (placesF log) rfl (hM.out.keeps (((Keeps.refl (fun _ => False) w).alloc _).alloc _) id) (k : Int) rfl hwk (.int .i64 at_) true (by rw [hpl.out]; rfl) (by rw [hpl.out]; rfl) ?_))
  go_region
  go_wp2_with fail
  have mF := Whole.made ((w.alloc (.cells #[.int .i64 0, .int .u64 0, .int .i64 0, .int .u64 0, .bool false, .int .i64 0] 105)).alloc (.cells #[.int .i64 (kd : Int), .int .u64 (rf : Int), .int .i64 i, .int .u64 (wd : Int), .bool dn, .int .i64 (q : Int)] 105)) 99 #[.int .i64 at_, .int .i64 (q : Int)]
  have mF2 := mF.drew
  refine bodyPost_ret (v := .tuple #[(.agg #[.int .i64 0, .int .u64 0, .int .i64 0, .int .u64 0, .bool false, .int .i64 0]), .iface 96 (.pointer (some ⟨w.heap.size + 2, 0, none⟩))]) (by simp [results, Tryz.results60, go_sem]) rfl ⟨_, rfl, ⟨_, rfl, by simpa using mF2⟩, fun _ _ h => (by cases h; show _ ≤ w.heap.size + 2; omega), ((((Keeps.refl _ w).alloc _).alloc _).alloc _).drew⟩

theorem answer_any {w : World} {t b pl : Nat} {bv : Value} {round steps : Int} {log : List Ent} {lv : Value} {busy done : Bool} {ev : Value} (h : ThRaw w t b pl bv round steps log lv busy done ev) (few : log.length ≤ 6000) (k : Nat) (hk : k < log.length) (hn : (log.getD k (.zero .ok)).err = .ok ∨ (log.getD k (.zero .ok)).err.num ≠ 0) :
    Calls Tryz.prog 60 #[.pointer (some ⟨t, 0, none⟩), .int .i64 (k : Int)] w fun e w' => Answered w (log.getD k (.zero .ok)) e w' := by
  obtain ⟨en, he⟩ : ∃ en, log.getD k (.zero .ok) = en := ⟨_, rfl⟩
  rw [he] at hn ⊢
  obtain ⟨kd, rf, i, wd, dn, er⟩ := en
  cases er with
  | ok => exact answer_ok h few k hk kd rf wd i dn he
  | no q => exact answer_no h few k hk kd rf wd i dn q (hn.elim (fun h => by cases h) id) he
  | at_ j q => exact answer_fault h few k hk kd rf wd i dn j q (hn.elim (fun h => by cases h) id) he
end Go.Proofs.YtenhmficiegpiaaGreatDoor
