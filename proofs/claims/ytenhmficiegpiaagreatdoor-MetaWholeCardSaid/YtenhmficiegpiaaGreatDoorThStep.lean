/-
  thread.wraps by contract: is an error's number that one. Its deferred function recovers nothing.
  thread: runBody's deferred function, end, beginAnew by contract.
-/
import Derived.Test.YtenhmficiegpiaaGreatDoorThRun
import Derived.Defers
import Derived.Recover

namespace Go.Proofs.YtenhmficiegpiaaGreatDoor
open Go.RowKit Go.Extern.Stop Go.Stop Go.Extern

theorem make_func (fn : Fn) (first cap : Array Value) (w : World) : (Instr.makeFunc fn first cap).run Tryz.prog w = .ok (.func fn first cap) w := rfl

theorem wraps_idle (p : Addr) (w : World) :
    CallsD Tryz.prog 56 #[.pointer (some p)] .returning w fun e u' w' => e = .returned (.tuple #[]) ∧ u' = .returning ∧ w' = w := by
  refine callsD_of_wpS Tryz.func56 rfl fun c₀ cs hu => ?_
  apply wpS_seq
  apply wpS_region
  simp [wpOpsS, go_sem, recoverD, hu, Tryz.ntmps56, Exit.thenS]
  refine wpS_cond (t := false) (by simp [Act.eval, Array.replicate]) ?_
  simp only [Bool.false_eq_true, if_false]
  refine wpS_of_wp (wp_skip ?_)
  cases c₀
  simp_all [bodyPostS, results, Tryz.results56]

theorem is_any {w : World} {v : Value} {e : EA} (h : ErrV w v e) (k : Nat) (hk : k ≠ 0) :
    Calls Tryz.prog 24 #[v, .iface 71 (.int .i64 (k : Int))] w fun r w' => r = .returned (.bool (decide (e.num = k))) ∧ w = w' := by
  cases e with
  | ok =>
    cases h
    rw [show decide (EA.num .ok = k) = false from decide_eq_false (by show ¬ 0 = k; omega)]
    exact is_nil k w
  | no q =>
    cases h
    refine (is_errno (q : Int) (k : Int) w).mono ?_
    rintro e w' ⟨rfl, rfl⟩
    refine ⟨?_, rfl⟩
    by_cases c : q = k
    · subst c; simp [EA.num]
    · have : ¬ ((q : Int) = (k : Int)) := by omega
      simp [EA.num, c, this]
  | at_ i q =>
    obtain ⟨p, rfl, hp⟩ := h
    refine (is_fault p 0 (q : Int) (k : Int) w (hp.at_ 1)).mono ?_
    rintro e w' ⟨rfl, rfl⟩
    refine ⟨?_, rfl⟩
    by_cases c : q = k
    · subst c; simp [EA.num]
    · have : ¬ ((q : Int) = (k : Int)) := by omega
      simp [EA.num, c, this]

theorem wraps_any {w : World} {v : Value} {e : EA} (h : ErrV w v e) (k : Nat) (hk : k ≠ 0) (b : Bool) (hb : decide (e.num = k) = b) :
    Calls Tryz.prog 31 #[v, .int .i64 (k : Int)] w fun r w' => r = .returned (.bool b) ∧ Keeps (fun _ => False) w w' := by
  have hmf := make_func
  obtain ⟨W1, hW1⟩ : ∃ W, W = w.alloc (.cells #[.bool false] 4) := ⟨_, rfl⟩
  have k1 : Keeps (fun _ => False) w W1 := by rw [hW1]; exact (Keeps.refl _ w).alloc _
  have mB : Whole W1 w.heap.size 4 #[.bool false] := by rw [hW1]; exact Whole.made _ _ _
  have hi := is_any (h.keeps k1 fun _ _ _ => id) k hk
  rw [hb] at hi
  have hi' := Lib.hid hi
  have hW1' := Lib.hid hW1
  have k1' := Lib.hid k1
  have mB' := Lib.hid mB
  have b0 : W1.cell? ⟨w.heap.size, 0, none⟩ = some (.bool false) := mB.at_ 0
  have bf : W1.frozen? ⟨w.heap.size, 0, none⟩ = false := mB.free 0
  clear hi h k1 mB hW1 hb hk
  go_enter_defers Tryz.func31, Tryz.ntmps31
  go_wp2_with fail
  rw [← hW1'.out]
  refine hi'.out.mono ?_
  rintro e w' ⟨rfl, rfl⟩
  go_wp2_with fail
  refine leaves_cons (f := 56) (args := #[.pointer (some ⟨w.heap.size, 0, none⟩)]) (by simp) (by simp [go_sem]) ?_
  refine (wraps_idle ⟨w.heap.size, 0, none⟩ _).mono ?_
  rintro e u' w'' ⟨rfl, rfl, rfl⟩
  have ks := ((Keeps.refl (fun x => x = w.heap.size) W1).setCell (p := ⟨w.heap.size, 0, none⟩) (fun _ => rfl) (.bool b))
  have kk : Keeps (fun _ => False) w (W1.setCell ⟨w.heap.size, 0, none⟩ (.bool b)) := k1'.out.trans ks fun x hx e => absurd hx (by omega)
  exact ⟨_, by simp [results, Tryz.results31, go_sem, b0], rfl, kk⟩
end Go.Proofs.YtenhmficiegpiaaGreatDoor

namespace Go.Proofs.YtenhmficiegpiaaGreatDoor
open Go.RowKit Go.Extern.Stop Go.Stop Go.Extern

theorem close_any (c : Nat) (t : Value) (n : Int) (o : Bool) (w : World) (h : Whole w c 123 #[t, .int .i64 n, .bool o]) :
    Calls Tryz.prog 55 #[.pointer (some ⟨c, 0, none⟩)] w fun e w' => e = .returned (.tuple #[]) ∧ w' = (w.setCell ⟨c, 1, none⟩ (.int .i64 6000)).setCell ⟨c, 2, none⟩ (.bool true) := by
  have c1 : w.cell? ⟨c, 1, none⟩ = some (.int .i64 n) := h.at_ 1
  have c2 : w.cell? ⟨c, 2, none⟩ = some (.bool o) := h.at_ 2
  have f1 : w.frozen? ⟨c, 1, none⟩ = false := h.free 1
  have f2 : w.frozen? ⟨c, 2, none⟩ = false := h.free 2
  clear h
  go_enter Tryz.func55, Tryz.ntmps55
  go_wp2
  go_end0
  exact ⟨rfl, rfl⟩

/-- The worlds behind the deferred function. -/
def shutW (w : World) (c t : Nat) : World := ((w.setCell ⟨c, 1, none⟩ (.int .i64 6000)).setCell ⟨c, 2, none⟩ (.bool true)).setCell ⟨t, 6, none⟩ (.bool false)

theorem defer_any (pe pc pt c t : Nat) (n : Int) (o : Bool) (b : Bool) (w : World) (hc : w.cell? ⟨pc, 0, none⟩ = some (.pointer (some ⟨c, 0, none⟩))) (ht : w.cell? ⟨pt, 0, none⟩ = some (.pointer (some ⟨t, 0, none⟩))) (hC : Whole w c 123 #[.pointer (some ⟨t, 0, none⟩), .int .i64 n, .bool o])
    (h6 : w.cell? ⟨t, 6, none⟩ = some (.bool b)) (f6 : w.frozen? ⟨t, 6, none⟩ = false) :
    CallsD Tryz.prog 54 #[.pointer (some ⟨pe, 0, none⟩), .pointer (some ⟨pc, 0, none⟩), .pointer (some ⟨pt, 0, none⟩)] .returning w fun e u' w' => e = .returned (.tuple #[]) ∧ u' = .returning ∧ w' = shutW w c t := by
  have hcl := Lib.hid (close_any c _ n o w hC)
  clear hC
  refine callsD_of_wpS Tryz.func54 rfl fun c₀ cs hu => ?_
  apply wpS_seq
  apply wpS_seq
  apply wpS_region
  simp [wpOpsS, go_sem, recoverD, hu, Tryz.ntmps54, Exit.thenS]
  apply wpS_seq
  apply wpS_region
  simp [wpOpsS, go_sem, Exit.thenS]
  refine wpS_cond (t := false) (by simp [Act.eval, Array.replicate]) ?_
  simp only [Bool.false_eq_true, if_false]
  refine wpS_of_wp (wp_skip ?_)
  simp only [Exit.thenS]
  refine wpS_of_wp ?_
  go_wp2_with fail
  refine hcl.out.mono ?_
  rintro e w2 ⟨rfl, rfl⟩
  go_wp2_with fail
  cases c₀
  simp_all [bodyPostS, results, Tryz.results54, shutW]

/-! ### end, beginAnew, none -/
theorem HoldsM.clear {V : Type} {P : Program} {K T e : TypeId} {E : Enc V} {w : World} {b : Nat} {f : Int → Option V} (h : HoldsM P K E w b f) (ht : P.underlying T = some (.map K e)) :
    ∃ w', (∀ ty, (Builtin.clear_ #[T] ty #[.map (some b)]).run P w = .ok (.tuple #[]) w') ∧ HoldsM P K E w' b (fun _ => none) ∧ Keeps (fun x => x = b) w w' := by
  have hlt := h.lt
  obtain ⟨D, n, ⟨es, clock, hb, F, _, _⟩, _⟩ := h
  refine ⟨{ w with heap := w.heap.setIfInBounds b (.map #[] clock) }, fun ty => ?_, ⟨_, 0, ⟨#[], clock, ?_, ⟨by simp, MapKept.stamped_empty clock, by simp⟩, Nat.le_refl _, rfl⟩, rfl, Reads.empty E⟩, ⟨rfl, rfl, rfl, by simp, fun k hk hne => ?_⟩⟩
  · have g1 : (getObj b).run P w = .ok (.map es clock) w := by simp [getObj, Sem.run, hb]
    have g2 : (setObj b (.map #[] clock)).run P w = .ok () { w with heap := w.heap.setIfInBounds b (.map #[] clock) } := by simp [setObj, Sem.run, hb]
    simp [Builtin.clear_, run_underlying ht, g1, g2, Result.andThen]
  · show (w.heap.setIfInBounds b (.map #[] clock))[b]? = _
    rw [Array.getElem?_setIfInBounds_self, if_pos hlt]
  · show (w.heap.setIfInBounds b (.map #[] clock))[k]? = _
    rw [Array.getElem?_setIfInBounds_ne (fun e => hne e.symm)]

theorem run_equalIn_func (fn : Fn) (f c : Array Value) (w : World) (d : Nat) : (Op.equalIn (d + 1) 54 (.func fn f c) .nilFunc).run Tryz.prog w = .ok false w := by
  simp [Op.equalIn, run_underlying Tryz.underlying54]
theorem run_eql_func (fn : Fn) (f c : Array Value) (w : World) : (binOp .eql 54 (.func fn f c) .nilFunc).run Tryz.prog w = .ok (.bool false) w := by
  simp only [binOp]
  simp [Op.equal, Op.maxDepth, run_equalIn_func fn f c w 9999]

set_option maxRecDepth 100000 in
theorem tnone_there {t : Nat} {fn : Fn} {f c : Array Value} (w : World) (hc : w.cell? ⟨t, 1, none⟩ = some (.func fn f c)) :
    Calls Tryz.prog 27 #[.pointer (some ⟨t, 0, none⟩)] w fun e w' => e = .returned (.bool false) ∧ w = w' := by
  have hq := run_eql_func fn f c
  go_enter Tryz.func27, Tryz.ntmps27
  go_wp2
  go_ret
  exact ⟨rfl, rfl⟩

theorem tnone_nil (w : World) :
    Calls Tryz.prog 27 #[.pointer none] w fun e w' => e = .returned (.bool true) ∧ w = w' := by
  go_enter Tryz.func27, Tryz.ntmps27
  go_wp2
  go_ret
  exact ⟨rfl, rfl⟩

theorem end_any {w : World} {t b pl : Nat} {bv : Value} {round steps : Int} {log : List Ent} {lv : Value} {busy : Bool} {ev v : Value} (h : ThRaw w t b pl bv round steps log lv busy false ev) (hv : ∃ e, ErrV w v e) (hev : ev = .nilIface) :
    Calls Tryz.prog 32 #[.pointer (some ⟨t, 0, none⟩), v] w fun e w' => e = .returned v ∧ ThRaw w' t b pl bv round steps log lv busy true v ∧ Keeps (fun x => x = t) w w' := by
  subst hev
  have h7 : w.cell? ⟨t, 7, none⟩ = some (.bool false) := h.blk.at_ 7
  have h8 : w.cell? ⟨t, 8, none⟩ = some .nilIface := h.blk.at_ 8
  have f7 : w.frozen? ⟨t, 7, none⟩ = false := h.blk.free 7
  have f8 : w.frozen? ⟨t, 8, none⟩ = false := h.blk.free 8
  have k1 : Keeps (fun x => x = t) w ((w.setCell ⟨t, 7, none⟩ (.bool true)).setCell ⟨t, 8, none⟩ v) := ((Keeps.refl (fun x => x = t) w).setCell (p := ⟨t, 7, none⟩) (fun _ => rfl) _).setCell (p := ⟨t, 8, none⟩) (fun _ => rfl) _
  have fin := Lib.hid (show ThRaw ((w.setCell ⟨t, 7, none⟩ (.bool true)).setCell ⟨t, 8, none⟩ v) t b pl bv round steps log lv busy true v from
    ⟨(h.blk.set_ 7 (.bool true)).set_ 8 v, h.row.keeps k1 fun g hg e => (h.row_ne hg).1 e, h.map.keeps k1 fun e => h.ne e.symm⟩)
  have k1' := Lib.hid k1
  clear h k1
  obtain ⟨e, he⟩ := hv
  cases e with
  | ok =>
    cases he
    go_enter Tryz.func32, Tryz.ntmps32
    go_wp2
    go_ret
    exact ⟨rfl, fin.out, k1'.out⟩
  | no q =>
    cases he
    go_enter Tryz.func32, Tryz.ntmps32
    go_wp2
    go_ret
    exact ⟨rfl, fin.out, k1'.out⟩
  | at_ i q =>
    obtain ⟨p, rfl, _⟩ := he
    go_enter Tryz.func32, Tryz.ntmps32
    go_wp2
    go_ret
    exact ⟨rfl, fin.out, k1'.out⟩

theorem anew_any {w : World} {t b pl : Nat} {bv : Value} {rd : Nat} {steps : Int} {log : List Ent} {lv : Value} {busy done : Bool} {ev : Value} (h : ThRaw w t b pl bv (rd : Int) steps log lv busy done ev) (hr : rd ≤ 1000) :
    Calls Tryz.prog 33 #[.pointer (some ⟨t, 0, none⟩)] w fun e w' => e = .returned (.tuple #[]) ∧ ThRaw w' t b pl bv ((rd + 1 : Nat) : Int) steps [] (.slice none 0 0) busy done ev ∧ Keeps (fun x => x = t ∨ x = pl) w w' := by
  have h2 : w.cell? ⟨t, 2, none⟩ = some (.int .i64 (rd : Int)) := h.blk.at_ 2
  have h4 : w.cell? ⟨t, 4, none⟩ = some lv := h.blk.at_ 4
  have h5 : w.cell? ⟨t, 5, none⟩ = some (.map (some pl)) := h.blk.at_ 5
  have f2 : w.frozen? ⟨t, 2, none⟩ = false := h.blk.free 2
  have f4 : w.frozen? ⟨t, 4, none⟩ = false := h.blk.free 4
  have k1 : Keeps (fun x => x = t) w ((w.setCell ⟨t, 2, none⟩ (.int .i64 ((rd : Int) + 1))).setCell ⟨t, 4, none⟩ (.slice none 0 0)) := ((Keeps.refl (fun x => x = t) w).setCell (p := ⟨t, 2, none⟩) (fun _ => rfl) _).setCell (p := ⟨t, 4, none⟩) (fun _ => rfl) _
  have hB := (h.blk.set_ 2 (.int .i64 ((rd : Int) + 1))).set_ 4 (.slice none 0 0)
  obtain ⟨w2, hrun, hM, hK⟩ := (h.map.keeps k1 fun e => h.ne e.symm).clear Tryz.underlying72
  have fin := Lib.hid (show ThRaw w2 t b pl bv ((rd + 1 : Nat) : Int) steps [] (.slice none 0 0) busy done ev from
    ⟨hB.keeps hK h.ne, ERow.nil _, by rw [placesF_nil]; exact hM⟩)
  have k2 := Lib.hid (show Keeps (fun x => x = t ∨ x = pl) w w2 from (k1.mono fun _ _ => .inl).trans hK fun _ _ => .inr)
  have hr' : (rd : Int) ≤ 1000 := by omega
  obtain ⟨o, lc, rfl, _⟩ := h.row.shape
  clear h k1 hB hM hK hr
  go_enter Tryz.func33, Tryz.ntmps33
  go_wp2
  go_end0
  exact ⟨rfl, fin.out, k2.out⟩
end Go.Proofs.YtenhmficiegpiaaGreatDoor
