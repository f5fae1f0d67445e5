/-
  (*run).answer by contract: what a collection is asked, kind by kind (printed by gen/mkevans.py).
  (*run).ask by contract.
  (*run).list by contract (printed by gen/mkevlist.py).
-/
import Derived.Test.YthidipigpfcbbaaGreatDoorEvSmall
import Derived.Test.YthidipigpfcbbaaGreatDoorPgOneAll
import Derived.Test.YthidipigpfcbbaaGreatDoorRkArg
import Derived.Test.YthidipigpfcbbaaGreatDoorWdTail
import Derived.Deep.RegionHeld3
import Derived.LoopTactic

namespace Go.Proofs.YthidipigpfcbbaaGreatDoor
open Go.RowKit Go.Maps Go.Extern.Stop Go.Stop Go.Extern

theorem key_wf (x : Int) : wfI (x % 64) := by
  have h1 := Int.emod_nonneg x (show (64 : Int) ≠ 0 by decide)
  have h2 := Int.emod_lt_of_pos x (show (0 : Int) < 64 by decide)
  simp only [wfI, Lit.wf, IntKind.min, IntKind.max, IntKind.signed, IntKind.bits, Bool.and_eq_true, decide_eq_true_eq, if_true]
  omega
section
variable {PM : PMem} {w : World} {rb n : Nat} {r : RS} {X : Nat → Prop}

set_option maxRecDepth 100000 in
set_option maxHeartbeats 1000000 in
theorem ans_get (F : Face PM) (h : RunM PM w rb r n X) (hR : r.R.length = 9) (s : St7) (b e : Sl) (hk : s.k = 1) (hc : r.A.there s.c) (ha : 0 ≤ s.ar ∧ s.ar ≤ 8) :
    Calls Tryz.prog 94 #[.pointer (some ⟨rb, 0, none⟩), .agg (stAgg s b e)] w fun e' w' => e' = .returned (.tuple #[.int .i64 (if (mGet r.A s.c (argv r.R s.ar s.an % 64)).2.1 = true then (mGet r.A s.c (argv r.R s.ar s.an % 64)).1 else -1), .nilIface]) ∧ Keeps (fun _ => False) w w' := by
  obtain ⟨k, c, g, ar, an, br, bn⟩ := s
  obtain ⟨x1, x2, x3⟩ := b
  obtain ⟨y1, y2, y3⟩ := e
  unfold stAgg slv
  simp only at *
  subst hk
  obtain ⟨W1, hW1⟩ : ∃ V, V = w.alloc (.cells #[.int .i64 1, .int .i64 c, .int .i64 g, .int .i64 ar, .int .i64 an, .int .i64 br, .int .i64 bn, .slice x1 x2 x3, .slice y1 y2 y3] 40) := ⟨_, rfl⟩
  have K1 : Keeps (fun _ => False) w W1 := by rw [hW1]; exact (Keeps.refl _ w).alloc _
  have B1 : Whole W1 w.heap.size 40 #[.int .i64 1, .int .i64 c, .int .i64 g, .int .i64 ar, .int .i64 an, .int .i64 br, .int .i64 bn, .slice x1 x2 x3, .slice y1 y2 y3] := by rw [hW1]; exact Whole.made _ _ _
  have hrun := h.same F K1
  obtain ⟨sb, tv, Xs, h1⟩ := hrun
  have S0 : Hid (∀ V, Keeps (fun _ => False) W1 V → V.cell? ⟨rb, 0, none⟩ = some (.pointer (some ⟨sb, 0, none⟩)) ∧ V.cell? ⟨w.heap.size, 1, none⟩ = some (.int .i64 c) ∧ V.cell? ⟨w.heap.size, 3, none⟩ = some (.int .i64 ar) ∧ V.cell? ⟨w.heap.size, 4, none⟩ = some (.int .i64 an) ∧ V.cell? ⟨w.heap.size, 5, none⟩ = some (.int .i64 br) ∧ V.cell? ⟨w.heap.size, 6, none⟩ = some (.int .i64 bn)) := Lib.hid fun V q => ⟨(h1.same F q).cell0, (B1.keeps q id).at_ 1, (B1.keeps q id).at_ 3, (B1.keeps q id).at_ 4, (B1.keeps q id).at_ 5, (B1.keeps q id).at_ 6⟩
  have CK := Lib.hid (fun V (q : Keeps (fun _ => False) W1 V) => key_any11 F (RunM.same F ⟨sb, tv, Xs, h1⟩ q) hR ar an ha)
  have CG := Lib.hid (fun V (q : Keeps (fun _ => False) W1 V) => F.get (F.same h1.st q) c (argv r.R ar an % 64) (key_wf _))
  have hf : (mGet r.A c (argv r.R ar an % 64)).2.2 = 0 := by unfold mGet; rw [if_pos hc]
  obtain ⟨⟨x, t, f⟩, hG⟩ : ∃ z, mGet r.A c (argv r.R ar an % 64) = z := ⟨_, rfl⟩
  rw [hG] at CG hf ⊢
  simp only at hf CG ⊢
  subst hf
  generalize argv r.R ar an % 64 = key at *
  have CN0 := fun V => orNone_any x t V
  generalize (if t = true then x else -1) = z at CN0 ⊢
  have CN := Lib.hid CN0
  clear CN0
  have KW := Lib.hid K1
  have hW1' := Lib.hid hW1
  have d0 : W1.cell? ⟨w.heap.size, 0, none⟩ = some (.int .i64 1) := B1.at_ 0
  have s0 := Lib.hid (S0.out W1.drew (Keeps.refl _ W1).drew)
  have k0 := Lib.hid ((Keeps.refl (fun _ => False) W1).drew)

  clear h h1 hR B1 K1 hc
  go_enter Tryz.func94, Tryz.ntmps94
  go_upto_region 3 with fail
  rw [← hW1'.out]
  clear hW1 hW1'
  go_region_held3 (fun V => V.cell? ⟨rb, 0, none⟩ = some (.pointer (some ⟨sb, 0, none⟩)) ∧ V.cell? ⟨w.heap.size, 1, none⟩ = some (.int .i64 c) ∧ V.cell? ⟨w.heap.size, 3, none⟩ = some (.int .i64 ar) ∧ V.cell? ⟨w.heap.size, 4, none⟩ = some (.int .i64 an) ∧ V.cell? ⟨w.heap.size, 5, none⟩ = some (.int .i64 br) ∧ V.cell? ⟨w.heap.size, 6, none⟩ = some (.int .i64 bn)) (first | exact sB.out | exact sA.out | exact s0.out)
    (first
      | (go_at_call 76; refine (CK.out _ k0.out).mono ?_; rintro e w2 ⟨rfl, hK⟩; have k2 := Lib.hid (k0.out.trans hK fun _ _ => id); have sA := Lib.hid (S0.out w2 k2.out); clear hK)
      | (go_at_call 54; refine (CG.out _ k2.out).mono ?_; rintro e w3 ⟨ev, rfl, hT, hK⟩; obtain rfl := hT.nil; have k3 := Lib.hid (k2.out.trans hK fun _ _ => id); have sB := Lib.hid (S0.out w3 k3.out); clear hK hT))
  have KE := Lib.hid (KW.out.trans k3.out fun _ _ => id)
  clear sA sB
  go_wp2_with fail
  refine (CN.out _).mono ?_
  rintro e w4 ⟨rfl, rfl⟩
  go_wp2_with fail
  refine bodyPost_ret (by simp [results, Tryz.results94, go_sem]) rfl ⟨rfl, KE.out⟩

set_option maxRecDepth 100000 in
set_option maxHeartbeats 1000000 in
theorem ans_has (F : Face PM) (h : RunM PM w rb r n X) (hR : r.R.length = 9) (s : St7) (b e : Sl) (hk : s.k = 4) (hc : r.A.there s.c) (ha : 0 ≤ s.ar ∧ s.ar ≤ 8) :
    Calls Tryz.prog 94 #[.pointer (some ⟨rb, 0, none⟩), .agg (stAgg s b e)] w fun e' w' => e' = .returned (.tuple #[.int .i64 (if (mGet r.A s.c (argv r.R s.ar s.an % 64)).2.1 = true then 1 else 0), .nilIface]) ∧ Keeps (fun _ => False) w w' := by
  obtain ⟨k, c, g, ar, an, br, bn⟩ := s
  obtain ⟨x1, x2, x3⟩ := b
  obtain ⟨y1, y2, y3⟩ := e
  unfold stAgg slv
  simp only at *
  subst hk
  obtain ⟨W1, hW1⟩ : ∃ V, V = w.alloc (.cells #[.int .i64 4, .int .i64 c, .int .i64 g, .int .i64 ar, .int .i64 an, .int .i64 br, .int .i64 bn, .slice x1 x2 x3, .slice y1 y2 y3] 40) := ⟨_, rfl⟩
  have K1 : Keeps (fun _ => False) w W1 := by rw [hW1]; exact (Keeps.refl _ w).alloc _
  have B1 : Whole W1 w.heap.size 40 #[.int .i64 4, .int .i64 c, .int .i64 g, .int .i64 ar, .int .i64 an, .int .i64 br, .int .i64 bn, .slice x1 x2 x3, .slice y1 y2 y3] := by rw [hW1]; exact Whole.made _ _ _
  have hrun := h.same F K1
  obtain ⟨sb, tv, Xs, h1⟩ := hrun
  have S0 : Hid (∀ V, Keeps (fun _ => False) W1 V → V.cell? ⟨rb, 0, none⟩ = some (.pointer (some ⟨sb, 0, none⟩)) ∧ V.cell? ⟨w.heap.size, 1, none⟩ = some (.int .i64 c) ∧ V.cell? ⟨w.heap.size, 3, none⟩ = some (.int .i64 ar) ∧ V.cell? ⟨w.heap.size, 4, none⟩ = some (.int .i64 an) ∧ V.cell? ⟨w.heap.size, 5, none⟩ = some (.int .i64 br) ∧ V.cell? ⟨w.heap.size, 6, none⟩ = some (.int .i64 bn)) := Lib.hid fun V q => ⟨(h1.same F q).cell0, (B1.keeps q id).at_ 1, (B1.keeps q id).at_ 3, (B1.keeps q id).at_ 4, (B1.keeps q id).at_ 5, (B1.keeps q id).at_ 6⟩
  have CK := Lib.hid (fun V (q : Keeps (fun _ => False) W1 V) => key_any11 F (RunM.same F ⟨sb, tv, Xs, h1⟩ q) hR ar an ha)
  have CG := Lib.hid (fun V (q : Keeps (fun _ => False) W1 V) => F.get (F.same h1.st q) c (argv r.R ar an % 64) (key_wf _))
  have hf : (mGet r.A c (argv r.R ar an % 64)).2.2 = 0 := by unfold mGet; rw [if_pos hc]
  obtain ⟨⟨x, t, f⟩, hG⟩ : ∃ z, mGet r.A c (argv r.R ar an % 64) = z := ⟨_, rfl⟩
  rw [hG] at CG hf ⊢
  simp only at hf CG ⊢
  subst hf
  generalize argv r.R ar an % 64 = key at *
  have KW := Lib.hid K1
  have hW1' := Lib.hid hW1
  have d0 : W1.cell? ⟨w.heap.size, 0, none⟩ = some (.int .i64 4) := B1.at_ 0
  have s0 := Lib.hid (S0.out W1.drew (Keeps.refl _ W1).drew)
  have k0 := Lib.hid ((Keeps.refl (fun _ => False) W1).drew)

  clear h h1 hR B1 K1 hc
  go_enter Tryz.func94, Tryz.ntmps94
  go_upto_region 6 with fail
  rw [← hW1'.out]
  clear hW1 hW1'
  go_region_held3 (fun V => V.cell? ⟨rb, 0, none⟩ = some (.pointer (some ⟨sb, 0, none⟩)) ∧ V.cell? ⟨w.heap.size, 1, none⟩ = some (.int .i64 c) ∧ V.cell? ⟨w.heap.size, 3, none⟩ = some (.int .i64 ar) ∧ V.cell? ⟨w.heap.size, 4, none⟩ = some (.int .i64 an) ∧ V.cell? ⟨w.heap.size, 5, none⟩ = some (.int .i64 br) ∧ V.cell? ⟨w.heap.size, 6, none⟩ = some (.int .i64 bn)) (first | exact sB.out | exact sA.out | exact s0.out)
    (first
      | (go_at_call 76; refine (CK.out _ k0.out).mono ?_; rintro e w2 ⟨rfl, hK⟩; have k2 := Lib.hid (k0.out.trans hK fun _ _ => id); have sA := Lib.hid (S0.out w2 k2.out); clear hK)
      | (go_at_call 54; refine (CG.out _ k2.out).mono ?_; rintro e w3 ⟨ev, rfl, hT, hK⟩; obtain rfl := hT.nil; have k3 := Lib.hid (k2.out.trans hK fun _ _ => id); have sB := Lib.hid (S0.out w3 k3.out); clear hK hT))
  have KE := Lib.hid (KW.out.trans k3.out fun _ _ => id)
  clear sA sB
  cases t
  all_goals
    go_wp2_with fail
    refine bodyPost_ret (by simp [results, Tryz.results94, go_sem]) rfl ⟨rfl, KE.out⟩

set_option maxRecDepth 100000 in
set_option maxHeartbeats 1000000 in
theorem ans_ceil (F : Face PM) (h : RunM PM w rb r n X) (hR : r.R.length = 9) (s : St7) (b e : Sl) (hk : s.k = 6) (hc : r.A.there s.c) (ha : 0 ≤ s.ar ∧ s.ar ≤ 8) (hk3 : r.A.kind s.c = 3) :
    Calls Tryz.prog 94 #[.pointer (some ⟨rb, 0, none⟩), .agg (stAgg s b e)] w fun e' w' => e' = .returned (.tuple #[.int .i64 (if (mCeil r.A s.c (argv r.R s.ar s.an % 64)).2.1 = true then (mCeil r.A s.c (argv r.R s.ar s.an % 64)).1 else -1), .nilIface]) ∧ Keeps (fun _ => False) w w' := by
  obtain ⟨k, c, g, ar, an, br, bn⟩ := s
  obtain ⟨x1, x2, x3⟩ := b
  obtain ⟨y1, y2, y3⟩ := e
  unfold stAgg slv
  simp only at *
  subst hk
  obtain ⟨W1, hW1⟩ : ∃ V, V = w.alloc (.cells #[.int .i64 6, .int .i64 c, .int .i64 g, .int .i64 ar, .int .i64 an, .int .i64 br, .int .i64 bn, .slice x1 x2 x3, .slice y1 y2 y3] 40) := ⟨_, rfl⟩
  have K1 : Keeps (fun _ => False) w W1 := by rw [hW1]; exact (Keeps.refl _ w).alloc _
  have B1 : Whole W1 w.heap.size 40 #[.int .i64 6, .int .i64 c, .int .i64 g, .int .i64 ar, .int .i64 an, .int .i64 br, .int .i64 bn, .slice x1 x2 x3, .slice y1 y2 y3] := by rw [hW1]; exact Whole.made _ _ _
  have hrun := h.same F K1
  obtain ⟨sb, tv, Xs, h1⟩ := hrun
  have S0 : Hid (∀ V, Keeps (fun _ => False) W1 V → V.cell? ⟨rb, 0, none⟩ = some (.pointer (some ⟨sb, 0, none⟩)) ∧ V.cell? ⟨w.heap.size, 1, none⟩ = some (.int .i64 c) ∧ V.cell? ⟨w.heap.size, 3, none⟩ = some (.int .i64 ar) ∧ V.cell? ⟨w.heap.size, 4, none⟩ = some (.int .i64 an) ∧ V.cell? ⟨w.heap.size, 5, none⟩ = some (.int .i64 br) ∧ V.cell? ⟨w.heap.size, 6, none⟩ = some (.int .i64 bn)) := Lib.hid fun V q => ⟨(h1.same F q).cell0, (B1.keeps q id).at_ 1, (B1.keeps q id).at_ 3, (B1.keeps q id).at_ 4, (B1.keeps q id).at_ 5, (B1.keeps q id).at_ 6⟩
  have CK := Lib.hid (fun V (q : Keeps (fun _ => False) W1 V) => key_any11 F (RunM.same F ⟨sb, tv, Xs, h1⟩ q) hR ar an ha)
  have CG := Lib.hid (fun V (q : Keeps (fun _ => False) W1 V) => F.ceil_ (F.same h1.st q) c (argv r.R ar an % 64))
  have hf : (mCeil r.A c (argv r.R ar an % 64)).2.2 = 0 := by unfold mCeil; rw [if_pos hc, if_pos hk3]
  obtain ⟨⟨x, t, f⟩, hG⟩ : ∃ z, mCeil r.A c (argv r.R ar an % 64) = z := ⟨_, rfl⟩
  rw [hG] at CG hf ⊢
  simp only at hf CG ⊢
  subst hf
  generalize argv r.R ar an % 64 = key at *
  have CN0 := fun V => orNone_any x t V
  generalize (if t = true then x else -1) = z at CN0 ⊢
  have CN := Lib.hid CN0
  clear CN0
  have KW := Lib.hid K1
  have hW1' := Lib.hid hW1
  have d0 : W1.cell? ⟨w.heap.size, 0, none⟩ = some (.int .i64 6) := B1.at_ 0
  have s0 := Lib.hid (S0.out W1.drew (Keeps.refl _ W1).drew)
  have k0 := Lib.hid ((Keeps.refl (fun _ => False) W1).drew)

  clear h h1 hR B1 K1 hc
  go_enter Tryz.func94, Tryz.ntmps94
  go_upto_region 11 with fail
  rw [← hW1'.out]
  clear hW1 hW1'
  go_region_held3 (fun V => V.cell? ⟨rb, 0, none⟩ = some (.pointer (some ⟨sb, 0, none⟩)) ∧ V.cell? ⟨w.heap.size, 1, none⟩ = some (.int .i64 c) ∧ V.cell? ⟨w.heap.size, 3, none⟩ = some (.int .i64 ar) ∧ V.cell? ⟨w.heap.size, 4, none⟩ = some (.int .i64 an) ∧ V.cell? ⟨w.heap.size, 5, none⟩ = some (.int .i64 br) ∧ V.cell? ⟨w.heap.size, 6, none⟩ = some (.int .i64 bn)) (first | exact sB.out | exact sA.out | exact s0.out)
    (first
      | (go_at_call 76; refine (CK.out _ k0.out).mono ?_; rintro e w2 ⟨rfl, hK⟩; have k2 := Lib.hid (k0.out.trans hK fun _ _ => id); have sA := Lib.hid (S0.out w2 k2.out); clear hK)
      | (go_at_call 60; refine (CG.out _ k2.out).mono ?_; rintro e w3 ⟨ev, a, rfl, hT, hK⟩; obtain rfl := hT.nil; have k3 := Lib.hid (k2.out.trans hK fun _ _ => id); have sB := Lib.hid (S0.out w3 k3.out); clear hK hT))
  have KE := Lib.hid (KW.out.trans k3.out fun _ _ => id)
  clear sA sB
  go_wp2_with fail
  refine (CN.out _).mono ?_
  rintro e w4 ⟨rfl, rfl⟩
  go_wp2_with fail
  refine bodyPost_ret (by simp [results, Tryz.results94, go_sem]) rfl ⟨rfl, KE.out⟩

set_option maxRecDepth 100000 in
set_option maxHeartbeats 1000000 in
theorem ans_range (F : Face PM) (h : RunM PM w rb r n X) (hR : r.R.length = 9) (s : St7) (b e : Sl) (hk : s.k = 7) (hc : r.A.there s.c) (ha : 0 ≤ s.ar ∧ s.ar ≤ 8) (hb : 0 ≤ s.br ∧ s.br ≤ 8) (hk3 : r.A.kind s.c = 3) :
    Calls Tryz.prog 94 #[.pointer (some ⟨rb, 0, none⟩), .agg (stAgg s b e)] w fun e' w' => e' = .returned (.tuple #[.int .i64 (((mRange r.A s.c (argv r.R s.ar s.an % 64) (argv r.R s.br s.bn % 64)).1 : Nat)), .nilIface]) ∧ Keeps (fun _ => False) w w' := by
  obtain ⟨k, c, g, ar, an, br, bn⟩ := s
  obtain ⟨x1, x2, x3⟩ := b
  obtain ⟨y1, y2, y3⟩ := e
  unfold stAgg slv
  simp only at *
  subst hk
  obtain ⟨W1, hW1⟩ : ∃ V, V = w.alloc (.cells #[.int .i64 7, .int .i64 c, .int .i64 g, .int .i64 ar, .int .i64 an, .int .i64 br, .int .i64 bn, .slice x1 x2 x3, .slice y1 y2 y3] 40) := ⟨_, rfl⟩
  have K1 : Keeps (fun _ => False) w W1 := by rw [hW1]; exact (Keeps.refl _ w).alloc _
  have B1 : Whole W1 w.heap.size 40 #[.int .i64 7, .int .i64 c, .int .i64 g, .int .i64 ar, .int .i64 an, .int .i64 br, .int .i64 bn, .slice x1 x2 x3, .slice y1 y2 y3] := by rw [hW1]; exact Whole.made _ _ _
  have hrun := h.same F K1
  obtain ⟨sb, tv, Xs, h1⟩ := hrun
  have S0 : Hid (∀ V, Keeps (fun _ => False) W1 V → V.cell? ⟨rb, 0, none⟩ = some (.pointer (some ⟨sb, 0, none⟩)) ∧ V.cell? ⟨w.heap.size, 1, none⟩ = some (.int .i64 c) ∧ V.cell? ⟨w.heap.size, 3, none⟩ = some (.int .i64 ar) ∧ V.cell? ⟨w.heap.size, 4, none⟩ = some (.int .i64 an) ∧ V.cell? ⟨w.heap.size, 5, none⟩ = some (.int .i64 br) ∧ V.cell? ⟨w.heap.size, 6, none⟩ = some (.int .i64 bn)) := Lib.hid fun V q => ⟨(h1.same F q).cell0, (B1.keeps q id).at_ 1, (B1.keeps q id).at_ 3, (B1.keeps q id).at_ 4, (B1.keeps q id).at_ 5, (B1.keeps q id).at_ 6⟩
  have CK := Lib.hid (fun V (q : Keeps (fun _ => False) W1 V) => key_any11 F (RunM.same F ⟨sb, tv, Xs, h1⟩ q) hR ar an ha)
  have CB := Lib.hid (fun V (q : Keeps (fun _ => False) W1 V) => key_any11 F (RunM.same F ⟨sb, tv, Xs, h1⟩ q) hR br bn hb)
  have CG := Lib.hid (fun V (q : Keeps (fun _ => False) W1 V) => F.range_ (F.same h1.st q) c (argv r.R ar an % 64) (argv r.R br bn % 64))
  have hf : (mRange r.A c (argv r.R ar an % 64) (argv r.R br bn % 64)).2 = 0 := by unfold mRange; rw [if_pos hc, if_pos hk3]
  obtain ⟨⟨x, f⟩, hG⟩ : ∃ z, mRange r.A c (argv r.R ar an % 64) (argv r.R br bn % 64) = z := ⟨_, rfl⟩
  rw [hG] at CG hf ⊢
  simp only at hf CG ⊢
  subst hf
  generalize argv r.R ar an % 64 = key at *
  generalize argv r.R br bn % 64 = key2 at *
  have KW := Lib.hid K1
  have hW1' := Lib.hid hW1
  have d0 : W1.cell? ⟨w.heap.size, 0, none⟩ = some (.int .i64 7) := B1.at_ 0
  have s0 := Lib.hid (S0.out W1.drew (Keeps.refl _ W1).drew)
  have k0 := Lib.hid ((Keeps.refl (fun _ => False) W1).drew)

  clear h h1 hR B1 K1 hc
  go_enter Tryz.func94, Tryz.ntmps94
  go_upto_region 14 with fail
  rw [← hW1'.out]
  clear hW1 hW1'
  go_region_held3 (fun V => V.cell? ⟨rb, 0, none⟩ = some (.pointer (some ⟨sb, 0, none⟩)) ∧ V.cell? ⟨w.heap.size, 1, none⟩ = some (.int .i64 c) ∧ V.cell? ⟨w.heap.size, 3, none⟩ = some (.int .i64 ar) ∧ V.cell? ⟨w.heap.size, 4, none⟩ = some (.int .i64 an) ∧ V.cell? ⟨w.heap.size, 5, none⟩ = some (.int .i64 br) ∧ V.cell? ⟨w.heap.size, 6, none⟩ = some (.int .i64 bn)) (first | exact sC.out | exact sB.out | exact sA.out | exact s0.out)
    (first
      | (go_at_call 62; refine (CG.out _ k3.out).mono ?_; rintro e w4 ⟨ev, a, rfl, hT, hK⟩; obtain rfl := hT.nil; have k4 := Lib.hid (k3.out.trans hK fun _ _ => id); have sC := Lib.hid (S0.out w4 k4.out); clear hK hT)
      | (go_at_call 76; refine (CB.out _ k2.out).mono ?_; rintro e w3 ⟨rfl, hK⟩; have k3 := Lib.hid (k2.out.trans hK fun _ _ => id); have sB := Lib.hid (S0.out w3 k3.out); clear hK)
      | (go_at_call 76; refine (CK.out _ k0.out).mono ?_; rintro e w2 ⟨rfl, hK⟩; have k2 := Lib.hid (k0.out.trans hK fun _ _ => id); have sA := Lib.hid (S0.out w2 k2.out); clear hK))
  have KE := Lib.hid (KW.out.trans k4.out fun _ _ => id)
  clear sA sB sC
  go_wp2_with fail
  refine bodyPost_ret (by simp [results, Tryz.results94, go_sem]) rfl ⟨rfl, KE.out⟩

set_option maxRecDepth 100000 in
set_option maxHeartbeats 1000000 in
theorem ans_size (F : Face PM) (h : RunM PM w rb r n X) (s : St7) (b e : Sl) (hk : s.k = 5) (hc : r.A.there s.c) :
    Calls Tryz.prog 94 #[.pointer (some ⟨rb, 0, none⟩), .agg (stAgg s b e)] w fun e' w' => e' = .returned (.tuple #[.int .i64 (((r.A.col s.c).length : Nat)), .nilIface]) ∧ Keeps (fun _ => False) w w' := by
  obtain ⟨k, c, g, ar, an, br, bn⟩ := s
  obtain ⟨x1, x2, x3⟩ := b
  obtain ⟨y1, y2, y3⟩ := e
  unfold stAgg slv
  simp only at *
  subst hk
  obtain ⟨W1, hW1⟩ : ∃ V, V = w.alloc (.cells #[.int .i64 5, .int .i64 c, .int .i64 g, .int .i64 ar, .int .i64 an, .int .i64 br, .int .i64 bn, .slice x1 x2 x3, .slice y1 y2 y3] 40) := ⟨_, rfl⟩
  have K1 : Keeps (fun _ => False) w W1 := by rw [hW1]; exact (Keeps.refl _ w).alloc _
  have B1 : Whole W1 w.heap.size 40 #[.int .i64 5, .int .i64 c, .int .i64 g, .int .i64 ar, .int .i64 an, .int .i64 br, .int .i64 bn, .slice x1 x2 x3, .slice y1 y2 y3] := by rw [hW1]; exact Whole.made _ _ _
  have hrun := h.same F K1
  obtain ⟨sb, tv, Xs, h1⟩ := hrun
  have S0 : Hid (∀ V, Keeps (fun _ => False) W1 V → V.cell? ⟨rb, 0, none⟩ = some (.pointer (some ⟨sb, 0, none⟩)) ∧ V.cell? ⟨w.heap.size, 1, none⟩ = some (.int .i64 c) ∧ V.cell? ⟨w.heap.size, 3, none⟩ = some (.int .i64 ar) ∧ V.cell? ⟨w.heap.size, 4, none⟩ = some (.int .i64 an) ∧ V.cell? ⟨w.heap.size, 5, none⟩ = some (.int .i64 br) ∧ V.cell? ⟨w.heap.size, 6, none⟩ = some (.int .i64 bn)) := Lib.hid fun V q => ⟨(h1.same F q).cell0, (B1.keeps q id).at_ 1, (B1.keeps q id).at_ 3, (B1.keeps q id).at_ 4, (B1.keeps q id).at_ 5, (B1.keeps q id).at_ 6⟩
  have CG := Lib.hid (fun V (q : Keeps (fun _ => False) W1 V) => F.size_ (F.same h1.st q) c hc)
  generalize (r.A.col c).length = x at *
  have KW := Lib.hid K1
  have hW1' := Lib.hid hW1
  have d0 : W1.cell? ⟨w.heap.size, 0, none⟩ = some (.int .i64 5) := B1.at_ 0
  have s0 := Lib.hid (S0.out W1.drew (Keeps.refl _ W1).drew)
  have k0 := Lib.hid ((Keeps.refl (fun _ => False) W1).drew)

  clear h h1 B1 K1 hc
  go_enter Tryz.func94, Tryz.ntmps94
  go_upto_region 15 with fail
  rw [← hW1'.out]
  clear hW1 hW1'
  go_region_held3 (fun V => V.cell? ⟨rb, 0, none⟩ = some (.pointer (some ⟨sb, 0, none⟩)) ∧ V.cell? ⟨w.heap.size, 1, none⟩ = some (.int .i64 c) ∧ V.cell? ⟨w.heap.size, 3, none⟩ = some (.int .i64 ar) ∧ V.cell? ⟨w.heap.size, 4, none⟩ = some (.int .i64 an) ∧ V.cell? ⟨w.heap.size, 5, none⟩ = some (.int .i64 br) ∧ V.cell? ⟨w.heap.size, 6, none⟩ = some (.int .i64 bn)) (first | exact sB.out | exact sA.out | exact s0.out)
    (first
      | (go_at_call 43; refine (CG.out _ k0.out).mono ?_; rintro e w3 ⟨rfl, hK⟩; have k3 := Lib.hid (k0.out.trans hK fun _ _ => id); have sA := Lib.hid (S0.out w3 k3.out); clear hK))
  have KE := Lib.hid (KW.out.trans k3.out fun _ _ => id)
  clear sA
  go_wp2_with fail
  refine bodyPost_ret (by simp [results, Tryz.results94, go_sem]) rfl ⟨rfl, KE.out⟩
end
end Go.Proofs.YthidipigpfcbbaaGreatDoor

namespace Go.Proofs.YthidipigpfcbbaaGreatDoor
open Go.RowKit Go.Maps Go.Extern.Stop Go.Stop Go.Extern

section
variable {PM : PMem} {w w' w0 : World} {rb sb : Nat} {tv : Value} {r r' : RS} {n n' : Nat} {Xs X : Nat → Prop}
/-- Numbers are told: behind an append and its store. -/
theorem RunMt.tells (F : Face PM) (h : RunMt PM w rb sb tv r n Xs X) (hR : r.R.length = 9) {W w2 : World} (k : Keeps (fun _ => False) w W) {news : List Int} {ao : Option Addr} {m c : Nat} (hr : intK.Row w2 (.slice ao m c) (r.T ++ news)) (hg : W.grownBy w2 tv.ownBlock) (ho : (Value.slice ao m c).ownBlock = tv.ownBlock ∨ (Value.slice ao m c).ownBlock = some W.heap.size) :
    w2.frozen? ⟨rb, 9, none⟩ = false ∧ w2.cell? ⟨rb, 9, none⟩ = some tv ∧ ∃ X', RunMt PM (w2.setCell ⟨rb, 9, none⟩ (.slice ao m c)) rb sb (.slice ao m c) { r with T := r.T ++ news } n Xs X' ∧ Mvs w X X' ∧ Keeps X w (w2.setCell ⟨rb, 9, none⟩ (.slice ao m c)) := by
  have kg : Keeps (fun x => tv.ownBlock = some x) W w2 := (Keeps.refl _ W).grown hg fun k hk _ => hk
  have ks : Keeps (fun x => x = rb) w2 (w2.setCell ⟨rb, 9, none⟩ (.slice ao m c)) := (Keeps.refl (fun x => x = rb) w2).setCell (p := ⟨rb, 9, none⟩) (fun _ => rfl) _
  have b2 : Whole w2 rb 73 (runCells sb r.R tv n) := (h.box.keeps k id).keeps kg h.rb_told
  have hz : w2.heap.size ≤ (w2.setCell ⟨rb, 9, none⟩ (.slice ao m c)).heap.size := ks.size
  have hne : ∀ g, (Value.slice ao m c).ownBlock = some g → g ≠ rb := fun g hg e => by subst e; exact row_ne hr b2 (by decide) hg
  have hlt : ∀ g, (Value.slice ao m c).ownBlock = some g → g < w2.heap.size := fun g hg => by
    obtain ⟨cs, hw⟩ := row_whole hr hg
    exact hw.lt
  refine ⟨b2.free 9, (b2.at_ 9).trans ((h.box.at_ 9).symm.trans (h.cell9 hR)), fun x => X x ∨ (Value.slice ao m c).ownBlock = some x, ⟨?_, ?_, ?_, ⟨.inl h.inX.1, fun x hx => .inl (h.inX.2.1 x hx), fun g hg => .inr hg⟩, ⟨h.apart.1, fun g hg hx => ?_⟩, fun x hx => ?_⟩, fun x hx => ?_, ?_⟩
  · show Whole _ rb _ (runCells sb r.R (.slice ao m c) n)
    rw [← runCells_told (tv := tv) hR]
    exact b2.set_ 9 _
  · exact F.keeps (F.keeps (F.same h.st k) kg fun x hx e => h.apart.2 x e hx) ks fun x hx e => h.apart.1 (e ▸ hx)
  · exact ownsRow_keeps hr ks fun g hg e => hne g hg e
  · rcases ho with e | e
    · exact h.apart.2 g (e.symm.trans hg) hx
    · have h1 := h.old g (h.inX.2.1 g hx)
      have h2 := k.size
      rw [e] at hg
      injection hg with hg
      omega
  · rcases hx with hx | hx
    · exact Nat.lt_of_lt_of_le (h.old x hx) (Nat.le_trans k.size (Nat.le_trans kg.size hz))
    · exact Nat.lt_of_lt_of_le (hlt x hx) hz
  · rcases hx with hx | hx
    · exact .inl hx
    · rcases ho with e | e
      · exact .inl (h.inX.2.2 x (e.symm.trans hx))
      · rw [e] at hx
        injection hx with hx
        exact .inr (by rw [← hx]; exact k.size)
  · refine ((k.mono fun _ _ => False.elim : Keeps X w W).trans kg fun x _ e => h.inX.2.2 x e).trans ks fun x _ e => ?_
    rw [e]
    exact h.inX.1
end

set_option maxRecDepth 100000 in
set_option maxHeartbeats 1000000 in
theorem ask_any11 {PM : PMem} {w : World} {rb n : Nat} {r : RS} {X : Nat → Prop} (F : Face PM) (h : RunM PM w rb r n X) (hR : r.R.length = 9) (hT : r.T.length ≤ 500000) (s : St7) (b e : Sl) (hs : 1 ≤ s.r ∧ s.r ≤ 8) (v : Int)
    (C : ∀ V, Keeps (fun _ => False) w V → Calls Tryz.prog 94 #[.pointer (some ⟨rb, 0, none⟩), .agg (stAgg s b e)] V fun e' w' => e' = .returned (.tuple #[.int .i64 v, .nilIface]) ∧ Keeps (fun _ => False) V w') :
    Calls Tryz.prog 75 #[.pointer (some ⟨rb, 0, none⟩), .agg (stAgg s b e)] w fun e' w' => e' = .returned .nilIface ∧ RDone PM w w' rb (r.tell s.r v) n X := by
  obtain ⟨k, c, g', ar, an, br, bn⟩ := s
  obtain ⟨x1, x2, x3⟩ := b
  obtain ⟨y1, y2, y3⟩ := e
  unfold stAgg slv at C ⊢
  simp only at hs C ⊢
  obtain ⟨g, hg, rfl⟩ : ∃ g : Nat, g < 8 ∧ g' = (g : Int) + 1 := ⟨g'.toNat - 1, by omega, by omega⟩
  have et : r.tell ((g : Int) + 1) v = { r with R := r.R.set (g + 1) v, T := r.T ++ [v] } := by
    unfold RS.tell
    rw [show ((g : Int) + 1).toNat = g + 1 by omega]
  rw [et]
  clear et hs
  obtain ⟨W1, hW1⟩ : ∃ V, V = w.alloc (.cells #[.int .i64 k, .int .i64 c, .int .i64 ((g : Int) + 1), .int .i64 ar, .int .i64 an, .int .i64 br, .int .i64 bn, .slice x1 x2 x3, .slice y1 y2 y3] 40) := ⟨_, rfl⟩
  have K1 : Keeps (fun _ => False) w W1 := by rw [hW1]; exact (Keeps.refl _ w).alloc _
  have B1 : Whole W1 w.heap.size 40 #[.int .i64 k, .int .i64 c, .int .i64 ((g : Int) + 1), .int .i64 ar, .int .i64 an, .int .i64 br, .int .i64 bn, .slice x1 x2 x3, .slice y1 y2 y3] := by rw [hW1]; exact Whole.made _ _ _
  obtain ⟨sb, tv, Xs, h1⟩ := h
  have C1 := Lib.hid (C W1 K1)
  have H1 := Lib.hid h1
  have HK := Lib.hid K1
  have HB := Lib.hid B1
  have hW1' := Lib.hid hW1
  have z0 := B1.at_ 0
  have z1 := B1.at_ 1
  have z2 := B1.at_ 2
  have z3 := B1.at_ 3
  have z4 := B1.at_ 4
  have z5 := B1.at_ 5
  have z6 := B1.at_ 6
  have z7 := B1.at_ 7
  have z8 := B1.at_ 8
  clear C h1 K1 B1
  go_enter Tryz.func75, Tryz.ntmps75
  go_upto_region 1 with fail
  rw [← hW1'.out]
  clear hW1 hW1'
  go_wp2_with fail
  refine C1.out.mono ?_
  rintro e w2 ⟨rfl, hK⟩
  have K2 := Lib.hid (HK.out.trans hK fun _ _ => id)
  have d2 : w2.cell? ⟨w.heap.size, 2, none⟩ = some (.int .i64 ((g : Int) + 1)) := (HB.out.keeps hK id).at_ 2
  clear hK C1 z0 z1 z2 z3 z4 z5 z6 z7 z8
  have R2 := Lib.hid (H1.out.same F K2.out)
  have c1 : w2.cell? ⟨rb, 1 + g, none⟩ = some (.int .i64 (r.R.getD (g + 1) 0)) := by rw [Nat.add_comm 1 g]; exact R2.out.reg hR hg
  have f1 : w2.frozen? ⟨rb, 1 + g, none⟩ = false := R2.out.box.free _
  have e1 : wrap64 (((g : Int) + 1) - 1) = (g : Int) := by rw [IntWalk.wrap64_in _ ⟨by omega, by omega⟩]; omega
  have b1 : (0 : Int) ≤ (g : Int) := by omega
  have b2 : (g : Int) < 8 := by omega
  go_upto_region 4 with fail
  go_region
  obtain ⟨W5, hW5⟩ : ∃ V, V = (w2.setCell ⟨rb, 1 + g, none⟩ (.int .i64 v)).drew := ⟨_, rfl⟩
  have R5 : Hid (RunMt PM W5 rb sb tv { r with R := r.R.set (g + 1) v } n Xs X) := Lib.hid (by
    rw [hW5]
    exact (R2.out.setCell F (1 + g) (.int .i64 v) (by rw [Nat.add_comm 1 g]; exact runCells_reg hR hg v)).same F (Keeps.refl _ _).drew)
  have K5 : Hid (Keeps X w W5) := Lib.hid (by
    rw [hW5]
    exact ((K2.out.mono fun _ _ => False.elim : Keeps X w w2).setCell (p := ⟨rb, 1 + g, none⟩) (fun _ => H1.out.inX.1) _).drew)
  rw [← hW5]
  clear hW5 d2 c1 f1 e1 b1 b2 R2 K2
  have hR5 : (r.R.set (g + 1) v).length = 9 := by simp [hR]
  obtain ⟨tb, tc, rfl, _⟩ := row_shape H1.out.told
  have c9 : W5.cell? ⟨rb, 9, none⟩ = some (.slice tb r.T.length tc) := R5.out.cell9 hR5
  obtain ⟨N, hN⟩ : ∃ N, r.T.length = N := ⟨_, rfl⟩
  have hN' := Lib.hid hN
  rw [hN] at c9 hT
  have T5 : Hid (intK.Row (W5.alloc (.cells #[.int .i64 v] 3)) (.slice tb N tc) r.T) := Lib.hid (by rw [← hN'.out]; exact ownsRow_keeps R5.out.told ((Keeps.refl (fun _ => False) W5).alloc _) fun _ _ => id)
  have TL : Hid (∀ (ao : Option Addr) (cap : Nat) (w6 : World), intK.Row w6 (.slice ao (N + 1) cap) (r.T ++ [v]) → (W5.alloc (.cells #[.int .i64 v] 3)).grownBy w6 (Value.slice tb N tc).ownBlock → ((Value.slice ao (N + 1) cap).ownBlock = (Value.slice tb N tc).ownBlock ∨ (Value.slice ao (N + 1) cap).ownBlock = some (W5.alloc (.cells #[.int .i64 v] 3)).heap.size) →
      w6.frozen? ⟨rb, 9, none⟩ = false ∧ w6.cell? ⟨rb, 9, none⟩ = some (.slice tb N tc) ∧ ∃ X', RunMt PM (w6.setCell ⟨rb, 9, none⟩ (.slice ao (N + 1) cap)) rb sb (.slice ao (N + 1) cap) { r with R := r.R.set (g + 1) v, T := r.T ++ [v] } n Xs X' ∧ Mvs W5 X X' ∧ Keeps X W5 (w6.setCell ⟨rb, 9, none⟩ (.slice ao (N + 1) cap))) := Lib.hid (by
    have q := R5.out
    rw [hN] at q
    exact fun ao cap w6 hr hg' ho => q.tells F hR5 ((Keeps.refl (fun _ => False) W5).alloc (.cells #[.int .i64 v] 3)) hr hg' ho)
  clear hN
  go_wp2_with (at_builtin; refine wpList_append_k intK _ rfl _ _ rfl (.slice tb N tc) r.T [v] rfl T5.out ⟨W5.heap.size, 0, none⟩ 1 _ rfl rfl (one_cell_new (v := .int .i64 v) (Whole.made W5 3 #[.int .i64 v])) (N + 1) (by rw [hN'.out]) (by omega) ?_; intro ao cap w6 hr hg' ho; obtain ⟨d0, d1, hq⟩ := TL.out ao cap w6 hr hg' ho; have Q := Lib.hid hq; clear hr hg' ho hq)
  go_ret
  obtain ⟨X', q1, q2, q3⟩ := Q.out
  exact ⟨rfl, RDone.step (fun x hx => .inl hx) K5.out ⟨X', ⟨sb, _, Xs, q1⟩, q2, q3⟩⟩
end Go.Proofs.YthidipigpfcbbaaGreatDoor

namespace Go.Proofs.YthidipigpfcbbaaGreatDoor
open Go.RowKit Go.Maps Go.Extern.Stop Go.Stop Go.Extern

theorem two_cell_new {w : World} {b : Nat} {ty : TypeId} {x y : Value} (h : Whole w b ty #[x, y]) : ∀ j u, ([x, y] : List Value)[j]? = some u → w.cell? ((⟨b, 0, none⟩ : Addr).add j) = some u := by
  intro j u hj
  match j, hj with
  | 0, hj => simp at hj; subst hj; exact h.at_ 0
  | 1, hj => simp at hj; subst hj; exact h.at_ 1
  | j + 2, hj => simp at hj
def flat2 (W : Tl) : List Int := W.flatMap fun p => [p.1, p.2]
theorem flat2_take {W : Tl} {i : Nat} {p : Int × Int} (h : W[i]? = some p) : flat2 (W.take (i + 1)) = flat2 (W.take i) ++ [p.1, p.2] := by
  unfold flat2
  rw [List.take_add_one, h]
  simp

set_option maxRecDepth 100000 in
set_option maxHeartbeats 2000000 in
theorem list_any11 {PM : PMem} {w : World} {rb n : Nat} {r : RS} {X : Nat → Prop} (F : Face PM) (h : RunM PM w rb r n X) (hR : r.R.length = 9) (hT : r.T.length ≤ 400000) (c : Int) (hc : r.A.there c) (hfew : (r.A.col c).length ≤ 100) :
    Calls Tryz.prog 79 #[.pointer (some ⟨rb, 0, none⟩), .int .i64 c] w fun e' w' => e' = .returned .nilIface ∧ RDone PM w w' rb { r with T := r.T ++ ((r.A.col c).length : Int) :: flat2 (r.A.col c) } n X := by
  obtain ⟨sb, tv, Xs, h1⟩ := h
  have CL := Lib.hid (F.list_ h1.st c hc)
  obtain ⟨W, hW⟩ : ∃ W, r.A.col c = W := ⟨_, rfl⟩
  rw [hW] at CL hfew ⊢
  obtain ⟨m, hm⟩ : ∃ m, W.length = m := ⟨_, rfl⟩
  have hm' := Lib.hid hm
  rw [hm] at hfew ⊢
  obtain ⟨tb, tc, rfl, _⟩ := row_shape h1.told
  obtain ⟨N, hN⟩ : ∃ N, r.T.length = N := ⟨_, rfl⟩
  have hN' := Lib.hid hN
  rw [hN] at h1 hT
  have H1 := Lib.hid h1
  have c0 : w.cell? ⟨rb, 0, none⟩ = some (.pointer (some ⟨sb, 0, none⟩)) := h1.cell0
  clear h1 hW hc hm hN
  go_enter Tryz.func79, Tryz.ntmps79
  go_wp2_with fail
  refine CL.out.mono ?_
  rintro e w2 ⟨u, rfl, hrow, hown, hK⟩
  obtain ⟨uo, uc, rfl, huc⟩ := prow_cells hrow hm'.out
  have K2 := Lib.hid hK
  have U2 := Lib.hid hrow
  have UO := Lib.hid (And.intro hown huc)
  have R2 := Lib.hid (H1.out.same F hK)
  have c9 : w2.cell? ⟨rb, 9, none⟩ = some (.slice tb N tc) := R2.out.cell9 hR
  have T2 : Hid (intK.Row (w2.alloc (.cells #[.int .i64 (m : Int)] 3)) (.slice tb N tc) r.T) := Lib.hid (ownsRow_keeps R2.out.told ((Keeps.refl (fun _ => False) w2).alloc _) fun _ _ => id)
  have TL : Hid (∀ (ao : Option Addr) (cap : Nat) (w6 : World), intK.Row w6 (.slice ao (N + 1) cap) (r.T ++ [(m : Int)]) → (w2.alloc (.cells #[.int .i64 (m : Int)] 3)).grownBy w6 (Value.slice tb N tc).ownBlock → ((Value.slice ao (N + 1) cap).ownBlock = (Value.slice tb N tc).ownBlock ∨ (Value.slice ao (N + 1) cap).ownBlock = some (w2.alloc (.cells #[.int .i64 (m : Int)] 3)).heap.size) →
      w6.frozen? ⟨rb, 9, none⟩ = false ∧ w6.cell? ⟨rb, 9, none⟩ = some (.slice tb N tc) ∧ ∃ X', RunMt PM (w6.setCell ⟨rb, 9, none⟩ (.slice ao (N + 1) cap)) rb sb (.slice ao (N + 1) cap) { r with T := r.T ++ [(m : Int)] } n Xs X' ∧ Mvs w2 X X' ∧ Keeps X w2 (w6.setCell ⟨rb, 9, none⟩ (.slice ao (N + 1) cap))) := Lib.hid fun ao cap w6 hr hg ho => R2.out.tells F hR ((Keeps.refl (fun _ => False) w2).alloc _) hr hg ho
  clear hrow hown huc hK c0 CL
  go_wp2_with (at_builtin; refine wpList_append_k intK _ rfl _ _ rfl (.slice tb N tc) r.T [(m : Int)] rfl T2.out ⟨w2.heap.size, 0, none⟩ 1 _ rfl rfl (one_cell_new (v := .int .i64 (m : Int)) (Whole.made w2 3 #[.int .i64 (m : Int)])) (N + 1) (by rw [hN'.out]) (by omega) ?_; intro ao cap w6 hr hg' ho; obtain ⟨d0, d1, hq⟩ := TL.out ao cap w6 hr hg' ho; have Q := Lib.hid hq; clear hr hg' ho hq)
  obtain ⟨W3, hW3⟩ : ∃ V, V = w6.setCell ⟨rb, 9, none⟩ (.slice ao (N + 1) cap) := ⟨_, rfl⟩
  rw [← hW3]
  have I0 : Hid (∃ (tb' : Option Addr) (tc' : Nat) (X' : Nat → Prop), RunMt PM W3 rb sb (.slice tb' (N + 1 + 2 * 0) tc') { r with T := r.T ++ (m : Int) :: flat2 (W.take 0) } n Xs X' ∧ Mvs w X X' ∧ Keeps X w W3 ∧ PRow W3 (.slice uo m uc) W ∧ (∀ g, (Value.slice uo m uc).ownBlock = some g → ¬ X' g)) := Lib.hid (by
    obtain ⟨X', q1, q2, q3⟩ := Q.out
    rw [← hW3] at q1 q3
    have hx : ∀ g, (Value.slice uo m uc).ownBlock = some g → ¬ X g := fun g hg hx => by
      have := UO.out.1 g hg
      have := H1.out.old g hx
      omega
    refine ⟨ao, cap, X', q1, fun x hx => (q2 x hx).imp id fun q => Nat.le_trans K2.out.size q, (K2.out.mono fun _ _ => False.elim : Keeps X w w2).trans q3 fun _ _ => id, ownsRow_keeps U2.out q3 fun g hg => hx g hg, fun g hg hx' => ?_⟩
    rcases q2 g hx' with q | q
    · exact hx g hg q
    · obtain ⟨cs, hw⟩ := row_whole U2.out hg
      exact absurd hw.lt (Nat.not_lt.2 q))
  clear hW3 Q d0 d1 TL T2 c9 R2 K2 U2
  have HS := Lib.hid UO.out.2
  go_wp2_with fail
  go_loopw [37] (fun iv wr => ∃ i : Nat, iv = .int .i64 (i : Int) ∧ i ≤ m ∧ ∃ (tb' : Option Addr) (tc' : Nat) (X' : Nat → Prop), RunMt PM wr rb sb (.slice tb' (N + 1 + 2 * i) tc') { r with T := r.T ++ (m : Int) :: flat2 (W.take i) } n Xs X' ∧ Mvs w X X' ∧ Keeps X w wr ∧ PRow wr (.slice uo m uc) W ∧ (∀ g, (Value.slice uo m uc).ownBlock = some g → ¬ X' g)) (fun iv _ => m - (intOf iv).toNat)
  case atStart => exact ⟨0, rfl, Nat.zero_le _, I0.out⟩
  case round =>
    obtain ⟨i, rfl, hi, tb, tc, X', q1, q2, q3, q4, q5⟩ := hrel
    have HR := Lib.hid q1
    have HM := Lib.hid q2
    have HK := Lib.hid q3
    have HU := Lib.hid (And.intro q4 q5)
    by_cases hlt : i < m
    · have b1 : (i : Int) < (m : Int) := by omega
      obtain ⟨p, hp⟩ : ∃ p, W[i]? = some p := ⟨_, List.getElem?_eq_getElem (by rw [hm'.out]; exact hlt)⟩
      obtain ⟨o, c', e1, hc⟩ := prow_cells q4 hm'.out
      obtain ⟨g, rfl, hcell⟩ := hc (by omega)
      injection e1 with e1 _ e3
      subst e1
      subst e3
      obtain ⟨y0, y1⟩ := hcell i p hp
      have c9 : wr.cell? ⟨rb, 9, none⟩ = some (.slice tb (N + 1 + 2 * i) tc) := q1.cell9 hR
      obtain ⟨l, hl⟩ : ∃ l, r.T ++ (m : Int) :: flat2 (W.take i) = l := ⟨_, rfl⟩
      have hl' := Lib.hid hl
      have hp' := Lib.hid hp
      obtain ⟨M, hM⟩ : ∃ M, N + 1 + 2 * i = M := ⟨_, rfl⟩
      have hM' := Lib.hid hM
      rw [hl, hM] at HR
      rw [hM] at c9
      have T0 : Hid (intK.Row (wr.alloc (.cells #[.int .i64 p.1, .int .i64 p.2] 59)) (.slice tb M tc) l) := Lib.hid (ownsRow_keeps HR.out.told ((Keeps.refl (fun _ => False) wr).alloc _) fun _ _ => id)
      have PB : Hid (Whole (wr.alloc (.cells #[.int .i64 p.1, .int .i64 p.2] 59)) wr.heap.size 59 #[.int .i64 p.1, .int .i64 p.2]) := Lib.hid (Whole.made _ _ _)
      have k10 : Hid (Keeps (fun _ => False) (wr.alloc (.cells #[.int .i64 p.1, .int .i64 p.2] 59)) (((wr.alloc (.cells #[.int .i64 p.1, .int .i64 p.2] 59))).alloc (.cells #[.int .i64 p.1, .int .i64 p.2] 3)).drew) := Lib.hid ((Keeps.refl _ _).alloc _).drew
      have NB : Hid (Whole (((wr.alloc (.cells #[.int .i64 p.1, .int .i64 p.2] 59))).alloc (.cells #[.int .i64 p.1, .int .i64 p.2] 3)).drew (wr.heap.size + 1) 3 #[.int .i64 p.1, .int .i64 p.2]) := Lib.hid (by
        have := (Whole.made (wr.alloc (.cells #[.int .i64 p.1, .int .i64 p.2] 59)) 3 #[.int .i64 p.1, .int .i64 p.2]).drew
        rwa [World.size_alloc] at this)
      have KWP : Hid (Keeps (fun _ => False) wr (wr.alloc (.cells #[.int .i64 p.1, .int .i64 p.2] 59))) := Lib.hid ((Keeps.refl _ wr).alloc _)
      have S1 : Hid (∀ V, Keeps (fun _ => False) (wr.alloc (.cells #[.int .i64 p.1, .int .i64 p.2] 59)) V → V.cell? ⟨rb, 9, none⟩ = some (.slice tb M tc) ∧ V.cell? ⟨wr.heap.size, 0, none⟩ = some (.int .i64 p.1) ∧ V.cell? ⟨wr.heap.size, 1, none⟩ = some (.int .i64 p.2)) := Lib.hid fun V k => ⟨(HR.out.same F (KWP.out.trans k fun _ _ => id)).cell9 hR, (PB.out.keeps k id).at_ 0, (PB.out.keeps k id).at_ 1⟩
      have hn2 : Hid (l.length = M) := Lib.hid (by
        rw [← hl, ← hM, List.length_append, List.length_cons]
        have : (flat2 (W.take i)).length = 2 * i := by unfold flat2; rw [pairs_len, List.length_take, hm'.out]; omega
        rw [this, hN'.out]; omega)
      clear q1 q2 q3 q4 q5 hcell hc hl hM hp
      go_wp2_with fail
      refine AnyT.begin (S := fun V => V.cell? ⟨rb, 9, none⟩ = some (.slice tb M tc) ∧ V.cell? ⟨wr.heap.size, 0, none⟩ = some (.int .i64 p.1) ∧ V.cell? ⟨wr.heap.size, 1, none⟩ = some (.int .i64 p.2)) (by kernel_rfl) (S1.out _ (Keeps.refl _ _).drew) (fun hHeld => ?_)
      (refine AnyT.take (i := 0) (v := ?_) rfl (by kernel_rfl) (fun _ _ _ h => h) (Or.inl ⟨by rfl, ?_⟩) (by assumption) ?_; rotate_left; (· (intro V hSV; (try dsimp only at hSV); (first | (go_simp; done) | (go_simp; with_reducible rfl)))); simp only [Act.put, List.setIfInBounds_toArray, List.set_cons_zero, List.set_cons_succ])
      (refine AnyT.take (i := 1) (v := ?_) rfl (by kernel_rfl) (fun _ _ _ h => h) (Or.inl ⟨by rfl, ?_⟩) (by assumption) ?_; rotate_left; (· (intro V hSV; (try dsimp only at hSV); (first | (go_simp; done) | (go_simp; with_reducible rfl)))); simp only [Act.put, List.setIfInBounds_toArray, List.set_cons_zero, List.set_cons_succ])
      (refine AnyT.take (i := 2) (v := ?_) rfl (by kernel_rfl) (fun _ _ _ h => h) (Or.inl ⟨by rfl, ?_⟩) (by assumption) ?_; rotate_left; (· (intro V hSV; (try dsimp only at hSV); (first | (go_simp; done) | (go_simp; with_reducible rfl)))); simp only [Act.put, List.setIfInBounds_toArray, List.set_cons_zero, List.set_cons_succ])
      (refine AnyT.take (i := 3) (v := ?_) rfl (by kernel_rfl) (fun _ _ _ h => h) (Or.inl ⟨by rfl, ?_⟩) (by assumption) ?_; rotate_left; (· (intro V hSV; (try dsimp only at hSV); (first | (go_simp; done) | (go_simp; with_reducible rfl)))); simp only [Act.put, List.setIfInBounds_toArray, List.set_cons_zero, List.set_cons_succ])
      (refine AnyT.take (i := 4) (v := ?_) rfl (by kernel_rfl) (fun _ _ _ h => h) (Or.inl ⟨by rfl, ?_⟩) (by assumption) ?_; rotate_left; (· (intro V hSV; (try dsimp only at hSV); (first | (go_simp; done) | (go_simp; with_reducible rfl)))); simp only [Act.put, List.setIfInBounds_toArray, List.set_cons_zero, List.set_cons_succ])
      (refine AnyT.take (i := 5) (v := ?_) rfl (by kernel_rfl) (fun _ _ _ h => h) (Or.inl ⟨by rfl, ?_⟩) (by assumption) ?_; rotate_left; (· (intro V hSV; (try dsimp only at hSV); (first | (go_simp; done) | (go_simp; with_reducible rfl)))); simp only [Act.put, List.setIfInBounds_toArray, List.set_cons_zero, List.set_cons_succ])
      (refine AnyT.take (i := 6) (v := ?_) rfl (by kernel_rfl) (fun _ _ _ h => h) (Or.inl ⟨by rfl, ?_⟩) (by assumption) ?_; rotate_left; (· (intro V hSV; (try dsimp only at hSV); (first | (go_simp; done) | (go_simp; with_reducible rfl)))); simp only [Act.put, List.setIfInBounds_toArray, List.set_cons_zero, List.set_cons_succ])
      (refine AnyT.take (i := 7) (v := ?_) rfl (by kernel_rfl) (fun _ _ _ h => h) (Or.inl ⟨by rfl, ?_⟩) (by assumption) ?_; rotate_left; (· (intro V hSV; (try dsimp only at hSV); (first | (go_simp; done) | (go_simp; with_reducible rfl)))); simp only [Act.put, List.setIfInBounds_toArray, List.set_cons_zero, List.set_cons_succ])
      (refine AnyT.take (i := 8) (v := ?_) rfl (by kernel_rfl) (fun _ _ _ h => h) (Or.inl ⟨by rfl, ?_⟩) (by assumption) ?_; rotate_left; (· (intro V hSV; (try dsimp only at hSV); (first | (go_simp; done) | (go_simp; with_reducible rfl)))); simp only [Act.put, List.setIfInBounds_toArray, List.set_cons_zero, List.set_cons_succ])
      (refine AnyT.take (i := 9) (v := ?_) rfl (by kernel_rfl) (fun _ _ _ h => h) (Or.inl ⟨by rfl, ?_⟩) (by assumption) ?_; rotate_left; (· (intro V hSV; (try dsimp only at hSV); (first | (go_simp; done) | (go_simp; with_reducible rfl)))); simp only [Act.put, List.setIfInBounds_toArray, List.set_cons_zero, List.set_cons_succ])
      refine AnyT.ready (rs := [10]) (by kernel_rfl) (by simp) (ReadyT.cons rfl (fun K hK => ?_) ReadyT.nil)
      go_simp
      refine hK.out _ _ (fun _ => S1.out _ (by repeat (first | exact Keeps.refl _ _ | apply Keeps.drew | apply Keeps.alloc))) (fun hH => ?_)
      have hHeld := hH (of_decide_eq_true (by kernel_rfl))
      clear hH hK K
      try simp only [Act.put, List.setIfInBounds_toArray, List.set_cons_zero, List.set_cons_succ]
      refine AnyT.ready (rs := [11]) (by kernel_rfl) (by simp) (ReadyT.cons rfl (fun K hK => ?_) ReadyT.nil)
      refine step_append_k intK rfl _ _ rfl (.slice tb M tc) l [p.1, p.2] rfl (ownsRow_keeps T0.out (by repeat (first | exact Keeps.refl _ _ | apply Keeps.drew | apply Keeps.alloc)) fun _ _ => id) ⟨_, 0, none⟩ 2 _ rfl rfl (two_cell_new NB.out) (M + 2) (by rw [hn2.out]) (by have := hM'.out; omega) ?_
      intro ao cap VA hr hg ho
      obtain ⟨d0, d1, hq⟩ := RunMt.tells F HR.out hR (KWP.out.trans (by repeat (first | exact Keeps.refl _ _ | apply Keeps.drew | apply Keeps.alloc)) fun _ _ => id) hr hg ho
      have Q := Lib.hid hq
      have hS : VA.cell? ⟨rb, 9, none⟩ = some (.slice tb M tc) ∧ VA.cell? ⟨wr.heap.size, 0, none⟩ = some (.int .i64 p.1) ∧ VA.cell? ⟨wr.heap.size, 1, none⟩ = some (.int .i64 p.2) := by
        have kk := (Keeps.refl (fun x => (Value.slice tb M tc).ownBlock = some x) _).grown hg fun k hk _ => hk
        have kb := (PB.out.keeps k10.out id).keeps kk (row_ne (ownsRow_keeps T0.out k10.out fun _ _ => id) (PB.out.keeps k10.out id) (by decide))
        exact ⟨d1, kb.at_ 0, kb.at_ 1⟩
      clear hr hg ho hq
      refine hK.out _ _ (fun _ => hS) (fun hH => ?_)
      have hHeld := hH (of_decide_eq_true (by kernel_rfl))
      clear hH hK K hS
      try simp only [Act.put, List.setIfInBounds_toArray, List.set_cons_zero, List.set_cons_succ]
      (refine AnyT.take (i := 12) (v := ?_) rfl (by kernel_rfl) (fun _ _ _ h => h) (Or.inl ⟨by rfl, ?_⟩) (by assumption) ?_; rotate_left; (· (intro V hSV; (try dsimp only at hSV); (first | (go_simp; done) | (go_simp; with_reducible rfl)))); simp only [Act.put, List.setIfInBounds_toArray, List.set_cons_zero, List.set_cons_succ])
      (refine AnyT.take (i := 13) (v := ?_) rfl (by kernel_rfl) (fun _ _ _ h => h) (Or.inl ⟨by rfl, ?_⟩) (by assumption) ?_; rotate_left; (· (intro V hSV; (try dsimp only at hSV); (first | (go_simp; done) | (go_simp; with_reducible rfl)))); simp only [Act.put, List.setIfInBounds_toArray, List.set_cons_zero, List.set_cons_succ])
      (refine AnyT.take (i := 14) (v := ?_) rfl (by kernel_rfl) (fun _ _ _ h => h) (Or.inl ⟨by rfl, ?_⟩) (by assumption) ?_; rotate_left; (· (intro V hSV; (try dsimp only at hSV); (first | (go_simp; done) | (go_simp; with_reducible rfl)))); simp only [Act.put, List.setIfInBounds_toArray, List.set_cons_zero, List.set_cons_succ])
      refine AnyT.ready (rs := [15]) (by kernel_rfl) (by simp) (ReadyT.cons rfl (fun K hK => ?_) ReadyT.nil)
      go_simp
      refine hK.out _ _ (fun h => absurd h (of_decide_eq_false (by kernel_rfl))) (fun _ => ?_)
      clear hK K
      try simp only [Act.put, List.setIfInBounds_toArray, List.set_cons_zero, List.set_cons_succ]
      refine AnyT.done (by kernel_rfl) ?_ _
      go_wp2_with fail
      go_roundw
      case rel =>
        obtain ⟨X2, p1, p2, p3⟩ := Q.out
        refine ⟨i + 1, by go_num, by omega, ao, cap, X2, ?_, fun x hx => ?_, ?_, ownsRow_keeps HU.out.1 p3 fun g hg => HU.out.2 g hg, fun g hg hx => ?_⟩
        · rw [show N + 1 + 2 * (i + 1) = M + 2 by have := hM'.out; omega, flat2_take hp'.out, ← List.cons_append, ← List.append_assoc, hl'.out]
          exact p1
        · rcases p2 x hx with q | q
          · exact HM.out x q
          · exact .inr (Nat.le_trans HK.out.size q)
        · refine HK.out.trans p3 fun x hx q => ?_
          rcases HM.out x q with q | q
          · exact q
          · omega
        · rcases p2 g hx with q | q
          · exact HU.out.2 g hg q
          · obtain ⟨cs, hw⟩ := row_whole HU.out.1 hg
            exact absurd hw.lt (Nat.not_lt.2 q)
      case measure => simp [intOf]; omega
    · obtain rfl : i = m := by omega
      have b1 : ¬ (i : Int) < (i : Int) := by omega
      clear q1 q2 q3 q4 q5
      go_wp2_with fail
      go_ret
      have := HR.out
      rw [List.take_of_length_le (by rw [hm'.out]; exact Nat.le_refl _)] at this
      exact ⟨rfl, X', ⟨sb, _, Xs, this⟩, HM.out, HK.out⟩
end Go.Proofs.YthidipigpfcbbaaGreatDoor
