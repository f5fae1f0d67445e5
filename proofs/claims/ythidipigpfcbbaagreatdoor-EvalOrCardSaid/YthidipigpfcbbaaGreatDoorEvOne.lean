/-
  (*run).one by contract: a statement, kind by kind (printed by gen/mkevone.py).
-/
import Derived.Test.YthidipigpfcbbaaGreatDoorEvOr
import Derived.Test.YthidipigpfcbbaaGreatDoorEvFacts
import Derived.Deep.RegionHeld3
namespace Go.Proofs.YthidipigpfcbbaaGreatDoor
open Go.RowKit Go.Maps Go.Extern.Stop Go.Stop Go.Extern

section
variable {PM : PMem} {w0 w : World} {rb n : Nat} {r : RS} {X : Nat → Prop} {K : List Int}

set_option maxRecDepth 100000 in
set_option maxHeartbeats 2000000 in
theorem one_ask (F : Face PM) (s : St7) (b e : Sl) (hk : s.k = 1 ∨ s.k = 4 ∨ s.k = 5 ∨ s.k = 6 ∨ s.k = 7) (hr : 1 ≤ s.r ∧ s.r ≤ 8) (hR : r.R.length = 9) (hT : r.T.length ≤ 500000) (v : Int) (h : RunM PM w rb r n X)
    (C : ∀ V, Keeps (fun _ => False) w V → Calls Tryz.prog 94 #[.pointer (some ⟨rb, 0, none⟩), .agg (stAgg s b e)] V fun e' w' => e' = .returned (.tuple #[.int .i64 v, .nilIface]) ∧ Keeps (fun _ => False) V w') :
    Calls Tryz.prog 51 #[.pointer (some ⟨rb, 0, none⟩), .agg (stAgg s b e)] w fun e' w' => e' = .returned .nilIface ∧ RDone PM w w' rb (r.tell s.r v) n X := by
  have CA := Lib.hid (fun V (q : Keeps (fun _ => False) w V) => ask_any11 (w := V) F (h.same F q) hR hT s b e hr v (fun U q2 => C U (q.trans q2 fun _ _ => id)))
  have HRT : Hid (∀ V w', Keeps (fun _ => False) w V → RDone PM V w' rb (r.tell s.r v) n X → RDone PM w w' rb (r.tell s.r v) n X) := Lib.hid fun V w' q d => d.after q
  clear h C hR hT hr
  generalize r.tell s.r v = r2 at *
  obtain ⟨k, c, g, ar, an, br, bn⟩ := s
  obtain ⟨x1, x2, x3⟩ := b
  obtain ⟨y1, y2, y3⟩ := e
  unfold stAgg slv at *
  simp only at *
  rcases hk with rfl | rfl | rfl | rfl | rfl
  · obtain ⟨W1, hW1⟩ : ∃ V, V = w.alloc (.cells #[.int .i64 1, .int .i64 c, .int .i64 g, .int .i64 ar, .int .i64 an, .int .i64 br, .int .i64 bn, .slice x1 x2 x3, .slice y1 y2 y3] 40) := ⟨_, rfl⟩
    have K1 : Keeps (fun _ => False) w W1 := by rw [hW1]; exact (Keeps.refl _ w).alloc _
    have B1 : Whole W1 w.heap.size 40 #[.int .i64 1, .int .i64 c, .int .i64 g, .int .i64 ar, .int .i64 an, .int .i64 br, .int .i64 bn, .slice x1 x2 x3, .slice y1 y2 y3] := by rw [hW1]; exact Whole.made _ _ _
    have C1 := Lib.hid (CA.out W1 K1)
    have HK := Lib.hid K1
    have hW1' := Lib.hid hW1
    have z0 := B1.at_ 0
    have z1 := B1.at_ 1
    have z2 := B1.at_ 2
    have z3 := B1.at_ 3
    have z4 := B1.at_ 4
    have z5 := B1.at_ 5
    have z6 := B1.at_ 6
    have z7 := B1.at_ 7
    have z8 := B1.at_ 8
    clear K1 B1 CA
    go_enter Tryz.func51, Tryz.ntmps51
    go_upto_region 1 with fail
    rw [← hW1'.out]
    clear hW1 hW1'
    go_wp2_with fail
    refine C1.out.mono ?_
    rintro e w2 ⟨rfl, hD⟩
    have HD := Lib.hid (HRT.out _ _ HK.out hD)
    clear hD C1 z0 z1 z2 z3 z4 z5 z6 z7 z8
    go_wp2_with fail
    go_ret
    exact ⟨rfl, HD.out⟩
  · obtain ⟨W1, hW1⟩ : ∃ V, V = w.alloc (.cells #[.int .i64 4, .int .i64 c, .int .i64 g, .int .i64 ar, .int .i64 an, .int .i64 br, .int .i64 bn, .slice x1 x2 x3, .slice y1 y2 y3] 40) := ⟨_, rfl⟩
    have K1 : Keeps (fun _ => False) w W1 := by rw [hW1]; exact (Keeps.refl _ w).alloc _
    have B1 : Whole W1 w.heap.size 40 #[.int .i64 4, .int .i64 c, .int .i64 g, .int .i64 ar, .int .i64 an, .int .i64 br, .int .i64 bn, .slice x1 x2 x3, .slice y1 y2 y3] := by rw [hW1]; exact Whole.made _ _ _
    have C1 := Lib.hid (CA.out W1 K1)
    have HK := Lib.hid K1
    have hW1' := Lib.hid hW1
    have z0 := B1.at_ 0
    have z1 := B1.at_ 1
    have z2 := B1.at_ 2
    have z3 := B1.at_ 3
    have z4 := B1.at_ 4
    have z5 := B1.at_ 5
    have z6 := B1.at_ 6
    have z7 := B1.at_ 7
    have z8 := B1.at_ 8
    clear K1 B1 CA
    go_enter Tryz.func51, Tryz.ntmps51
    go_upto_region 1 with fail
    rw [← hW1'.out]
    clear hW1 hW1'
    go_wp2_with fail
    refine C1.out.mono ?_
    rintro e w2 ⟨rfl, hD⟩
    have HD := Lib.hid (HRT.out _ _ HK.out hD)
    clear hD C1 z0 z1 z2 z3 z4 z5 z6 z7 z8
    go_wp2_with fail
    go_ret
    exact ⟨rfl, HD.out⟩
  · obtain ⟨W1, hW1⟩ : ∃ V, V = w.alloc (.cells #[.int .i64 5, .int .i64 c, .int .i64 g, .int .i64 ar, .int .i64 an, .int .i64 br, .int .i64 bn, .slice x1 x2 x3, .slice y1 y2 y3] 40) := ⟨_, rfl⟩
    have K1 : Keeps (fun _ => False) w W1 := by rw [hW1]; exact (Keeps.refl _ w).alloc _
    have B1 : Whole W1 w.heap.size 40 #[.int .i64 5, .int .i64 c, .int .i64 g, .int .i64 ar, .int .i64 an, .int .i64 br, .int .i64 bn, .slice x1 x2 x3, .slice y1 y2 y3] := by rw [hW1]; exact Whole.made _ _ _
    have C1 := Lib.hid (CA.out W1 K1)
    have HK := Lib.hid K1
    have hW1' := Lib.hid hW1
    have z0 := B1.at_ 0
    have z1 := B1.at_ 1
    have z2 := B1.at_ 2
    have z3 := B1.at_ 3
    have z4 := B1.at_ 4
    have z5 := B1.at_ 5
    have z6 := B1.at_ 6
    have z7 := B1.at_ 7
    have z8 := B1.at_ 8
    clear K1 B1 CA
    go_enter Tryz.func51, Tryz.ntmps51
    go_upto_region 1 with fail
    rw [← hW1'.out]
    clear hW1 hW1'
    go_wp2_with fail
    refine C1.out.mono ?_
    rintro e w2 ⟨rfl, hD⟩
    have HD := Lib.hid (HRT.out _ _ HK.out hD)
    clear hD C1 z0 z1 z2 z3 z4 z5 z6 z7 z8
    go_wp2_with fail
    go_ret
    exact ⟨rfl, HD.out⟩
  · obtain ⟨W1, hW1⟩ : ∃ V, V = w.alloc (.cells #[.int .i64 6, .int .i64 c, .int .i64 g, .int .i64 ar, .int .i64 an, .int .i64 br, .int .i64 bn, .slice x1 x2 x3, .slice y1 y2 y3] 40) := ⟨_, rfl⟩
    have K1 : Keeps (fun _ => False) w W1 := by rw [hW1]; exact (Keeps.refl _ w).alloc _
    have B1 : Whole W1 w.heap.size 40 #[.int .i64 6, .int .i64 c, .int .i64 g, .int .i64 ar, .int .i64 an, .int .i64 br, .int .i64 bn, .slice x1 x2 x3, .slice y1 y2 y3] := by rw [hW1]; exact Whole.made _ _ _
    have C1 := Lib.hid (CA.out W1 K1)
    have HK := Lib.hid K1
    have hW1' := Lib.hid hW1
    have z0 := B1.at_ 0
    have z1 := B1.at_ 1
    have z2 := B1.at_ 2
    have z3 := B1.at_ 3
    have z4 := B1.at_ 4
    have z5 := B1.at_ 5
    have z6 := B1.at_ 6
    have z7 := B1.at_ 7
    have z8 := B1.at_ 8
    clear K1 B1 CA
    go_enter Tryz.func51, Tryz.ntmps51
    go_upto_region 1 with fail
    rw [← hW1'.out]
    clear hW1 hW1'
    go_wp2_with fail
    refine C1.out.mono ?_
    rintro e w2 ⟨rfl, hD⟩
    have HD := Lib.hid (HRT.out _ _ HK.out hD)
    clear hD C1 z0 z1 z2 z3 z4 z5 z6 z7 z8
    go_wp2_with fail
    go_ret
    exact ⟨rfl, HD.out⟩
  · obtain ⟨W1, hW1⟩ : ∃ V, V = w.alloc (.cells #[.int .i64 7, .int .i64 c, .int .i64 g, .int .i64 ar, .int .i64 an, .int .i64 br, .int .i64 bn, .slice x1 x2 x3, .slice y1 y2 y3] 40) := ⟨_, rfl⟩
    have K1 : Keeps (fun _ => False) w W1 := by rw [hW1]; exact (Keeps.refl _ w).alloc _
    have B1 : Whole W1 w.heap.size 40 #[.int .i64 7, .int .i64 c, .int .i64 g, .int .i64 ar, .int .i64 an, .int .i64 br, .int .i64 bn, .slice x1 x2 x3, .slice y1 y2 y3] := by rw [hW1]; exact Whole.made _ _ _
    have C1 := Lib.hid (CA.out W1 K1)
    have HK := Lib.hid K1
    have hW1' := Lib.hid hW1
    have z0 := B1.at_ 0
    have z1 := B1.at_ 1
    have z2 := B1.at_ 2
    have z3 := B1.at_ 3
    have z4 := B1.at_ 4
    have z5 := B1.at_ 5
    have z6 := B1.at_ 6
    have z7 := B1.at_ 7
    have z8 := B1.at_ 8
    clear K1 B1 CA
    go_enter Tryz.func51, Tryz.ntmps51
    go_upto_region 1 with fail
    rw [← hW1'.out]
    clear hW1 hW1'
    go_wp2_with fail
    refine C1.out.mono ?_
    rintro e w2 ⟨rfl, hD⟩
    have HD := Lib.hid (HRT.out _ _ HK.out hD)
    clear hD C1 z0 z1 z2 z3 z4 z5 z6 z7 z8
    go_wp2_with fail
    go_ret
    exact ⟨rfl, HD.out⟩

set_option maxRecDepth 100000 in
set_option maxHeartbeats 2000000 in
theorem one_put (F : Face PM) (s : St7) (b e : Sl) (hk : s.k = 2) (hR : r.R.length = 9) (ha : 0 ≤ s.ar ∧ s.ar ≤ 8) (hb : 0 ≤ s.br ∧ s.br ≤ 8) (h : RunM PM w rb r n X) :
    Calls Tryz.prog 51 #[.pointer (some ⟨rb, 0, none⟩), .agg (stAgg s b e)] w fun e' w' => ∃ ev a, e' = .returned ev ∧ ErrU w.heap.size w' ev (mPut r.A s.c (argv r.R s.ar s.an % 64) (argv r.R s.br s.bn % 1000)).2 a ∧ RDone PM w w' rb { r with A := (mPut r.A s.c (argv r.R s.ar s.an % 64) (argv r.R s.br s.bn % 1000)).1 } n X := by
  obtain ⟨k, c, g, ar, an, br, bn⟩ := s
  obtain ⟨x1, x2, x3⟩ := b
  obtain ⟨y1, y2, y3⟩ := e
  unfold stAgg slv at *
  simp only at *
  subst hk
  obtain ⟨W1, hW1⟩ : ∃ V, V = w.alloc (.cells #[.int .i64 2, .int .i64 c, .int .i64 g, .int .i64 ar, .int .i64 an, .int .i64 br, .int .i64 bn, .slice x1 x2 x3, .slice y1 y2 y3] 40) := ⟨_, rfl⟩
  have K1 : Keeps (fun _ => False) w W1 := by rw [hW1]; exact (Keeps.refl _ w).alloc _
  have B1 : Whole W1 w.heap.size 40 #[.int .i64 2, .int .i64 c, .int .i64 g, .int .i64 ar, .int .i64 an, .int .i64 br, .int .i64 bn, .slice x1 x2 x3, .slice y1 y2 y3] := by rw [hW1]; exact Whole.made _ _ _
  have HK := Lib.hid K1
  have HB := Lib.hid B1
  have hW1' := Lib.hid hW1
  obtain ⟨sb, tv, Xs, h0⟩ := h
  have h1 := h0.same F K1
  have HL := Lib.hid h0.old
  have XL : ∀ x, Xs x → x < w.heap.size := fun x hx => h0.old x (h0.inX.2.1 x hx)
  clear h0
  have H1 := Lib.hid h1
  have S0 : Hid (∀ V, Keeps (fun _ => False) W1 V → V.cell? ⟨rb, 0, none⟩ = some (.pointer (some ⟨sb, 0, none⟩)) ∧ V.cell? ⟨w.heap.size, 1, none⟩ = some (.int .i64 c) ∧ V.cell? ⟨w.heap.size, 3, none⟩ = some (.int .i64 ar) ∧ V.cell? ⟨w.heap.size, 4, none⟩ = some (.int .i64 an) ∧ V.cell? ⟨w.heap.size, 5, none⟩ = some (.int .i64 br) ∧ V.cell? ⟨w.heap.size, 6, none⟩ = some (.int .i64 bn)) := Lib.hid fun V q => ⟨(h1.same F q).cell0, (B1.keeps q id).at_ 1, (B1.keeps q id).at_ 3, (B1.keeps q id).at_ 4, (B1.keeps q id).at_ 5, (B1.keeps q id).at_ 6⟩
  have s0 := Lib.hid (S0.out W1.drew (Keeps.refl _ W1).drew)
  have k0 := Lib.hid ((Keeps.refl (fun _ => False) W1).drew)
  have CK := Lib.hid (fun V (q : Keeps (fun _ => False) W1 V) => key_any11 F (RunM.same F ⟨sb, tv, Xs, h1⟩ q) hR ar an ha)
  have CA := Lib.hid (fun V (q : Keeps (fun _ => False) W1 V) => arg_any11 (RunM.same F ⟨sb, tv, Xs, h1⟩ q) hR br bn hb)
  have CV := Lib.hid (fun V => value_any (argv r.R br bn) V)
  have CP := Lib.hid (fun V (q : Keeps (fun _ => False) W1 V) => F.put (F.same h1.st q) c (argv r.R ar an % 64) (argv r.R br bn % 1000) (key_wf _))
  generalize argv r.R ar an % 64 = key at *
  generalize argv r.R br bn % 1000 = val at *
  generalize argv r.R br bn = val0 at *
  obtain ⟨⟨A2, f⟩, hP⟩ : ∃ z, mPut r.A c key val = z := ⟨_, rfl⟩
  rw [hP] at CP ⊢
  simp only at CP ⊢
  have SX : Hid (∀ V V', Keeps (fun _ => False) W1 V → Keeps Xs V V' → V'.cell? ⟨rb, 0, none⟩ = some (.pointer (some ⟨sb, 0, none⟩)) ∧ V'.cell? ⟨w.heap.size, 1, none⟩ = some (.int .i64 c) ∧ V'.cell? ⟨w.heap.size, 3, none⟩ = some (.int .i64 ar) ∧ V'.cell? ⟨w.heap.size, 4, none⟩ = some (.int .i64 an) ∧ V'.cell? ⟨w.heap.size, 5, none⟩ = some (.int .i64 br) ∧ V'.cell? ⟨w.heap.size, 6, none⟩ = some (.int .i64 bn)) := Lib.hid fun V V' q q2 => by
    have hb := (B1.keeps q id).keeps q2 fun g => absurd (XL _ g) (Nat.lt_irrefl _)
    exact ⟨((h1.same F q).box.keeps q2 h1.apart.1).at_ 0, hb.at_ 1, hb.at_ 3, hb.at_ 4, hb.at_ 5, hb.at_ 6⟩
  clear h1 hR B1 K1 hP XL
  go_enter Tryz.func51, Tryz.ntmps51
  go_upto_region 1 with fail
  rw [← hW1'.out]
  clear hW1 hW1'
  have d0 : W1.cell? ⟨w.heap.size, 0, none⟩ = some (.int .i64 2) := HB.out.at_ 0
  go_upto_region 9 with fail
  go_region_held3 (fun V => V.cell? ⟨rb, 0, none⟩ = some (.pointer (some ⟨sb, 0, none⟩)) ∧ V.cell? ⟨w.heap.size, 1, none⟩ = some (.int .i64 c) ∧ V.cell? ⟨w.heap.size, 3, none⟩ = some (.int .i64 ar) ∧ V.cell? ⟨w.heap.size, 4, none⟩ = some (.int .i64 an) ∧ V.cell? ⟨w.heap.size, 5, none⟩ = some (.int .i64 br) ∧ V.cell? ⟨w.heap.size, 6, none⟩ = some (.int .i64 bn)) (first | with_reducible exact sE.out | with_reducible exact sD.out | with_reducible exact sC.out | with_reducible exact sB.out | with_reducible exact sA.out | with_reducible exact s0.out)
    (first
      | (go_at_call 57; refine (CP.out _ k4.out).mono ?_; rintro e w5 ⟨ev, a, rfl, hE, hD⟩; have HE := Lib.hid hE; have HD := Lib.hid hD; have sE := Lib.hid (SX.out _ w5 k4.out (by obtain ⟨_, _, _, q⟩ := hD; exact q)); clear hE hD)
      | (go_at_call 77; refine (CV.out _).mono ?_; rintro e w' ⟨rfl, rfl⟩)
      | (go_at_call 78; refine (CA.out _ k2.out).mono ?_; rintro e w4 ⟨rfl, hK⟩; have k4 := Lib.hid (k2.out.trans hK fun _ _ => id); have sC := Lib.hid (S0.out w4 k4.out); clear hK)
      | (go_at_call 76; refine (CK.out _ k0.out).mono ?_; rintro e w2 ⟨rfl, hK⟩; have k2 := Lib.hid (k0.out.trans hK fun _ _ => id); have sA := Lib.hid (S0.out w2 k2.out); clear hK))
  go_wp2_with fail
  go_ret
  exact ⟨ev, a, rfl, HE.out.less (Nat.le_trans HK.out.size k4.out.size), RDone.after (HK.out.trans k4.out fun _ _ => id) ((H1.out.same F k4.out).did F HD.out)⟩

set_option maxRecDepth 100000 in
set_option maxHeartbeats 2000000 in
theorem one_del (F : Face PM) (s : St7) (b e : Sl) (hk : s.k = 3) (hR : r.R.length = 9) (ha : 0 ≤ s.ar ∧ s.ar ≤ 8) (hc : r.A.there s.c) (h : RunM PM w rb r n X) :
    Calls Tryz.prog 51 #[.pointer (some ⟨rb, 0, none⟩), .agg (stAgg s b e)] w fun e' w' => e' = .returned .nilIface ∧ RDone PM w w' rb { r with A := (mDel r.A s.c (argv r.R s.ar s.an % 64)).1 } n X := by
  obtain ⟨k, c, g, ar, an, br, bn⟩ := s
  obtain ⟨x1, x2, x3⟩ := b
  obtain ⟨y1, y2, y3⟩ := e
  unfold stAgg slv at *
  simp only at *
  subst hk
  obtain ⟨W1, hW1⟩ : ∃ V, V = w.alloc (.cells #[.int .i64 3, .int .i64 c, .int .i64 g, .int .i64 ar, .int .i64 an, .int .i64 br, .int .i64 bn, .slice x1 x2 x3, .slice y1 y2 y3] 40) := ⟨_, rfl⟩
  have K1 : Keeps (fun _ => False) w W1 := by rw [hW1]; exact (Keeps.refl _ w).alloc _
  have B1 : Whole W1 w.heap.size 40 #[.int .i64 3, .int .i64 c, .int .i64 g, .int .i64 ar, .int .i64 an, .int .i64 br, .int .i64 bn, .slice x1 x2 x3, .slice y1 y2 y3] := by rw [hW1]; exact Whole.made _ _ _
  have HK := Lib.hid K1
  have HB := Lib.hid B1
  have hW1' := Lib.hid hW1
  obtain ⟨sb, tv, Xs, h0⟩ := h
  have h1 := h0.same F K1
  have HL := Lib.hid h0.old
  have XL : ∀ x, Xs x → x < w.heap.size := fun x hx => h0.old x (h0.inX.2.1 x hx)
  clear h0
  have H1 := Lib.hid h1
  have S0 : Hid (∀ V, Keeps (fun _ => False) W1 V → V.cell? ⟨rb, 0, none⟩ = some (.pointer (some ⟨sb, 0, none⟩)) ∧ V.cell? ⟨w.heap.size, 1, none⟩ = some (.int .i64 c) ∧ V.cell? ⟨w.heap.size, 3, none⟩ = some (.int .i64 ar) ∧ V.cell? ⟨w.heap.size, 4, none⟩ = some (.int .i64 an) ∧ V.cell? ⟨w.heap.size, 5, none⟩ = some (.int .i64 br) ∧ V.cell? ⟨w.heap.size, 6, none⟩ = some (.int .i64 bn)) := Lib.hid fun V q => ⟨(h1.same F q).cell0, (B1.keeps q id).at_ 1, (B1.keeps q id).at_ 3, (B1.keeps q id).at_ 4, (B1.keeps q id).at_ 5, (B1.keeps q id).at_ 6⟩
  have s0 := Lib.hid (S0.out W1.drew (Keeps.refl _ W1).drew)
  have k0 := Lib.hid ((Keeps.refl (fun _ => False) W1).drew)
  have CK := Lib.hid (fun V (q : Keeps (fun _ => False) W1 V) => key_any11 F (RunM.same F ⟨sb, tv, Xs, h1⟩ q) hR ar an ha)
  have CP := Lib.hid (fun V (q : Keeps (fun _ => False) W1 V) => F.del_ (F.same h1.st q) c (argv r.R ar an % 64) (key_wf _))
  have hf : (mDel r.A c (argv r.R ar an % 64)).2 = 0 := by unfold mDel; rw [if_pos hc]
  generalize argv r.R ar an % 64 = key at *
  obtain ⟨⟨A2, f⟩, hP⟩ : ∃ z, mDel r.A c key = z := ⟨_, rfl⟩
  rw [hP] at CP hf ⊢
  simp only at CP hf ⊢
  subst hf
  have SX : Hid (∀ V V', Keeps (fun _ => False) W1 V → Keeps Xs V V' → V'.cell? ⟨rb, 0, none⟩ = some (.pointer (some ⟨sb, 0, none⟩)) ∧ V'.cell? ⟨w.heap.size, 1, none⟩ = some (.int .i64 c) ∧ V'.cell? ⟨w.heap.size, 3, none⟩ = some (.int .i64 ar) ∧ V'.cell? ⟨w.heap.size, 4, none⟩ = some (.int .i64 an) ∧ V'.cell? ⟨w.heap.size, 5, none⟩ = some (.int .i64 br) ∧ V'.cell? ⟨w.heap.size, 6, none⟩ = some (.int .i64 bn)) := Lib.hid fun V V' q q2 => by
    have hb := (B1.keeps q id).keeps q2 fun g => absurd (XL _ g) (Nat.lt_irrefl _)
    exact ⟨((h1.same F q).box.keeps q2 h1.apart.1).at_ 0, hb.at_ 1, hb.at_ 3, hb.at_ 4, hb.at_ 5, hb.at_ 6⟩
  clear h1 hR B1 K1 hP XL hc
  go_enter Tryz.func51, Tryz.ntmps51
  go_upto_region 1 with fail
  rw [← hW1'.out]
  clear hW1 hW1'
  have d0 : W1.cell? ⟨w.heap.size, 0, none⟩ = some (.int .i64 3) := HB.out.at_ 0
  go_upto_region 11 with fail
  go_region_held3 (fun V => V.cell? ⟨rb, 0, none⟩ = some (.pointer (some ⟨sb, 0, none⟩)) ∧ V.cell? ⟨w.heap.size, 1, none⟩ = some (.int .i64 c) ∧ V.cell? ⟨w.heap.size, 3, none⟩ = some (.int .i64 ar) ∧ V.cell? ⟨w.heap.size, 4, none⟩ = some (.int .i64 an) ∧ V.cell? ⟨w.heap.size, 5, none⟩ = some (.int .i64 br) ∧ V.cell? ⟨w.heap.size, 6, none⟩ = some (.int .i64 bn)) (first | with_reducible exact sE.out | with_reducible exact sD.out | with_reducible exact sC.out | with_reducible exact sB.out | with_reducible exact sA.out | with_reducible exact s0.out)
    (first
      | (go_at_call 58; refine (CP.out _ k2.out).mono ?_; rintro e w5 ⟨ev, a, rfl, hE, hD⟩; obtain rfl := hE.nil; have HD := Lib.hid hD; have sE := Lib.hid (SX.out _ w5 k2.out (by obtain ⟨_, _, _, q⟩ := hD; exact q)); clear hE hD)
      | (go_at_call 76; refine (CK.out _ k0.out).mono ?_; rintro e w2 ⟨rfl, hK⟩; have k2 := Lib.hid (k0.out.trans hK fun _ _ => id); have sA := Lib.hid (S0.out w2 k2.out); clear hK))
  go_wp2_with fail
  go_ret
  exact ⟨rfl, RDone.after (HK.out.trans k2.out fun _ _ => id) ((H1.out.same F k2.out).did F HD.out)⟩

set_option maxRecDepth 100000 in
set_option maxHeartbeats 2000000 in
theorem one_list (F : Face PM) (s : St7) (b e : Sl) (hk : s.k = 8) (hR : r.R.length = 9) (hT : r.T.length ≤ 400000) (hc : r.A.there s.c) (hfew : (r.A.col s.c).length ≤ 100) (h : RunM PM w rb r n X) :
    Calls Tryz.prog 51 #[.pointer (some ⟨rb, 0, none⟩), .agg (stAgg s b e)] w fun e' w' => e' = .returned .nilIface ∧ RDone PM w w' rb { r with T := r.T ++ ((r.A.col s.c).length : Int) :: flat2 (r.A.col s.c) } n X := by
  obtain ⟨k, c, g, ar, an, br, bn⟩ := s
  obtain ⟨x1, x2, x3⟩ := b
  obtain ⟨y1, y2, y3⟩ := e
  unfold stAgg slv at *
  simp only at *
  subst hk
  obtain ⟨W1, hW1⟩ : ∃ V, V = w.alloc (.cells #[.int .i64 8, .int .i64 c, .int .i64 g, .int .i64 ar, .int .i64 an, .int .i64 br, .int .i64 bn, .slice x1 x2 x3, .slice y1 y2 y3] 40) := ⟨_, rfl⟩
  have K1 : Keeps (fun _ => False) w W1 := by rw [hW1]; exact (Keeps.refl _ w).alloc _
  have B1 : Whole W1 w.heap.size 40 #[.int .i64 8, .int .i64 c, .int .i64 g, .int .i64 ar, .int .i64 an, .int .i64 br, .int .i64 bn, .slice x1 x2 x3, .slice y1 y2 y3] := by rw [hW1]; exact Whole.made _ _ _
  have HK := Lib.hid K1
  have HB := Lib.hid B1
  have hW1' := Lib.hid hW1
  have C1 := Lib.hid (list_any11 F (h.same F K1) hR hT c hc hfew)
  have d0 := B1.at_ 0
  have d1 := B1.at_ 1
  clear h hR hT hc hfew B1 K1
  go_enter Tryz.func51, Tryz.ntmps51
  go_upto_region 1 with fail
  rw [← hW1'.out]
  clear hW1 hW1'
  go_wp2_with fail
  refine C1.out.mono ?_
  rintro e w2 ⟨rfl, hD⟩
  have HD := Lib.hid hD
  clear hD C1 d0 d1
  go_wp2_with fail
  go_ret
  exact ⟨rfl, HD.out.after HK.out⟩

set_option maxRecDepth 100000 in
set_option maxHeartbeats 2000000 in
theorem one_if (F : Face PM) (s : St7) (b e : Sl) (hk : s.k = 11) (ha : 0 ≤ s.ar ∧ s.ar ≤ 8) (hb : 0 ≤ s.br ∧ s.br ≤ 8) {B E : Fo} (hB : AllDoes PM K w0 B) (hE : AllDoes PM K w0 E) (hv : SlOf w0 (slv b) B) (hv2 : SlOf w0 (slv e) E) (k0 : Keeps (fun _ => False) w0 w) (hX : ∀ x, X x → w0.heap.size ≤ x) (hr : r.Fine K n) (hn : n ≤ 1000) (h : RunM PM w rb r n X) :
    Calls Tryz.prog 51 #[.pointer (some ⟨rb, 0, none⟩), .agg (stAgg s b e)] w fun e' w' => Left11 PM w0 w rb X (if isLess s r = true then evF B r n else evF E r n) e' w' := by
  obtain ⟨k, c, g, ar, an, br, bn⟩ := s
  obtain ⟨x1, x2, x3⟩ := b
  obtain ⟨y1, y2, y3⟩ := e
  unfold stAgg slv at *
  simp only at *
  subst hk
  obtain ⟨W1, hW1⟩ : ∃ V, V = w.alloc (.cells #[.int .i64 11, .int .i64 c, .int .i64 g, .int .i64 ar, .int .i64 an, .int .i64 br, .int .i64 bn, .slice x1 x2 x3, .slice y1 y2 y3] 40) := ⟨_, rfl⟩
  have K1 : Keeps (fun _ => False) w W1 := by rw [hW1]; exact (Keeps.refl _ w).alloc _
  have B1 : Whole W1 w.heap.size 40 #[.int .i64 11, .int .i64 c, .int .i64 g, .int .i64 ar, .int .i64 an, .int .i64 br, .int .i64 bn, .slice x1 x2 x3, .slice y1 y2 y3] := by rw [hW1]; exact Whole.made _ _ _
  have HK := Lib.hid K1
  have HB := Lib.hid B1
  have hW1' := Lib.hid hW1
  have H1 := Lib.hid (h.same F K1)
  have S0 : Hid (∀ V, Keeps (fun _ => False) W1 V → V.cell? ⟨w.heap.size, 3, none⟩ = some (.int .i64 ar) ∧ V.cell? ⟨w.heap.size, 4, none⟩ = some (.int .i64 an) ∧ V.cell? ⟨w.heap.size, 5, none⟩ = some (.int .i64 br) ∧ V.cell? ⟨w.heap.size, 6, none⟩ = some (.int .i64 bn)) := Lib.hid fun V q => ⟨(B1.keeps q id).at_ 3, (B1.keeps q id).at_ 4, (B1.keeps q id).at_ 5, (B1.keeps q id).at_ 6⟩
  have s0 := Lib.hid (S0.out W1.drew (Keeps.refl _ W1).drew)
  have k0' := Lib.hid ((Keeps.refl (fun _ => False) W1).drew)
  have CA := Lib.hid (fun V (q : Keeps (fun _ => False) W1 V) => arg_any11 (H1.out.same F q) hr.regs ar an ha)
  have CB := Lib.hid (fun V (q : Keeps (fun _ => False) W1 V) => arg_any11 (H1.out.same F q) hr.regs br bn hb)
  have CD := Lib.hid (fun V (q : Keeps (fun _ => False) W1 V) => hB V _ rb n r X hv (k0.trans (K1.trans q fun _ _ => id) fun _ _ => id) (H1.out.same F q) hX hr hn)
  have CE := Lib.hid (fun V (q : Keeps (fun _ => False) W1 V) => hE V _ rb n r X hv2 (k0.trans (K1.trans q fun _ _ => id) fun _ _ => id) (H1.out.same F q) hX hr hn)
  have hls : isLess ⟨11, c, g, ar, an, br, bn⟩ r = decide (argv r.R ar an % 1000 < argv r.R br bn % 1000) := rfl
  rw [hls]
  have CV := Lib.hid (fun V => value_any (argv r.R ar an) V)
  have CW := Lib.hid (fun V => value_any (argv r.R br bn) V)
  generalize argv r.R ar an % 1000 = p at *
  generalize argv r.R br bn % 1000 = q at *
  generalize argv r.R ar an = p0 at *
  generalize argv r.R br bn = q0 at *
  generalize evF B r n = yb at *
  generalize evF E r n = ye at *
  have z7 : Hid (∀ V, Keeps (fun _ => False) W1 V → V.cell? ⟨w.heap.size, 7, none⟩ = some (.slice x1 x2 x3) ∧ V.cell? ⟨w.heap.size, 8, none⟩ = some (.slice y1 y2 y3)) := Lib.hid fun V q => ⟨(B1.keeps q id).at_ 7, (B1.keeps q id).at_ 8⟩
  have d0 : W1.cell? ⟨w.heap.size, 0, none⟩ = some (.int .i64 11) := HB.out.at_ 0
  clear h hv hv2 hX hr hn hB hE ha hb B1 K1 k0 hls
  by_cases hl : p < q
  · rw [if_pos (decide_eq_true hl)]
    go_enter Tryz.func51, Tryz.ntmps51
    go_upto_region 1 with fail
    rw [← hW1'.out]
    clear hW1 hW1'
    go_upto_region 18 with fail
    go_region_held3 (fun V => V.cell? ⟨w.heap.size, 3, none⟩ = some (.int .i64 ar) ∧ V.cell? ⟨w.heap.size, 4, none⟩ = some (.int .i64 an) ∧ V.cell? ⟨w.heap.size, 5, none⟩ = some (.int .i64 br) ∧ V.cell? ⟨w.heap.size, 6, none⟩ = some (.int .i64 bn)) (first | with_reducible exact sC.out | with_reducible exact sA.out | with_reducible exact s0.out)
      (first
        | (go_at_call 77; first | (refine (CV.out _).mono ?_; rintro e w' ⟨rfl, rfl⟩) | (refine (CW.out _).mono ?_; rintro e w' ⟨rfl, rfl⟩))
        | (go_at_call 78; refine (CB.out _ k2.out).mono ?_; rintro e w4 ⟨rfl, hK⟩; have k4 := Lib.hid (k2.out.trans hK fun _ _ => id); have sC := Lib.hid (S0.out w4 k4.out); clear hK)
        | (go_at_call 78; refine (CA.out _ k0'.out).mono ?_; rintro e w2 ⟨rfl, hK⟩; have k2 := Lib.hid (k0'.out.trans hK fun _ _ => id); have sA := Lib.hid (S0.out w2 k2.out); clear hK))
    have C2 := Lib.hid (CD.out w4 k4.out)
    obtain ⟨m7, m8⟩ := z7.out w4 k4.out
    clear sA sC s0 CD
    go_wp2_with fail
    refine C2.out.mono ?_
    rintro e w5 ⟨ev, rfl, hEv, hD⟩
    have HE := Lib.hid hEv
    have HD := Lib.hid hD
    clear hEv hD C2 m7 m8
    go_wp2_with fail
    go_ret
    exact ⟨_, rfl, HE.out, HD.out.after (HK.out.trans k4.out fun _ _ => id)⟩
  · rw [if_neg (by simpa using hl)]
    go_enter Tryz.func51, Tryz.ntmps51
    go_upto_region 1 with fail
    rw [← hW1'.out]
    clear hW1 hW1'
    go_upto_region 18 with fail
    go_region_held3 (fun V => V.cell? ⟨w.heap.size, 3, none⟩ = some (.int .i64 ar) ∧ V.cell? ⟨w.heap.size, 4, none⟩ = some (.int .i64 an) ∧ V.cell? ⟨w.heap.size, 5, none⟩ = some (.int .i64 br) ∧ V.cell? ⟨w.heap.size, 6, none⟩ = some (.int .i64 bn)) (first | with_reducible exact sC.out | with_reducible exact sA.out | with_reducible exact s0.out)
      (first
        | (go_at_call 77; first | (refine (CV.out _).mono ?_; rintro e w' ⟨rfl, rfl⟩) | (refine (CW.out _).mono ?_; rintro e w' ⟨rfl, rfl⟩))
        | (go_at_call 78; refine (CB.out _ k2.out).mono ?_; rintro e w4 ⟨rfl, hK⟩; have k4 := Lib.hid (k2.out.trans hK fun _ _ => id); have sC := Lib.hid (S0.out w4 k4.out); clear hK)
        | (go_at_call 78; refine (CA.out _ k0'.out).mono ?_; rintro e w2 ⟨rfl, hK⟩; have k2 := Lib.hid (k0'.out.trans hK fun _ _ => id); have sA := Lib.hid (S0.out w2 k2.out); clear hK))
    have C2 := Lib.hid (CE.out w4 k4.out)
    obtain ⟨m7, m8⟩ := z7.out w4 k4.out
    clear sA sC s0 CE
    go_wp2_with fail
    refine C2.out.mono ?_
    rintro e w5 ⟨ev, rfl, hEv, hD⟩
    have HE := Lib.hid hEv
    have HD := Lib.hid hD
    clear hEv hD C2 m7 m8
    go_wp2_with fail
    go_ret
    exact ⟨_, rfl, HE.out, HD.out.after (HK.out.trans k4.out fun _ _ => id)⟩

set_option maxRecDepth 100000 in
set_option maxHeartbeats 2000000 in
theorem one_loop (F : Face PM) (s : St7) (b e : Sl) (hk : s.k = 12) (hl : 0 ≤ s.an ∧ s.an ≤ 5) {B : Fo} (hB : AllDoes PM K w0 B) (hv : SlOf w0 (slv b) B) (k0 : Keeps (fun _ => False) w0 w) (hX : ∀ x, X x → w0.heap.size ≤ x) (hr : r.Fine K n) (hn : n ≤ 1000) (h : RunM PM w rb r n X) :
    Calls Tryz.prog 51 #[.pointer (some ⟨rb, 0, none⟩), .agg (stAgg s b e)] w fun e' w' => Left11 PM w0 w rb X (timesF (evF B) s.an.toNat r n) e' w' := by
  obtain ⟨k, c, g, ar, an, br, bn⟩ := s
  obtain ⟨x1, x2, x3⟩ := b
  obtain ⟨y1, y2, y3⟩ := e
  unfold stAgg slv at *
  simp only at *
  subst hk
  obtain ⟨an, rfl⟩ : ∃ m : Nat, an = (m : Int) := ⟨an.toNat, by omega⟩
  rw [Int.toNat_natCast]
  obtain ⟨W1, hW1⟩ : ∃ V, V = w.alloc (.cells #[.int .i64 12, .int .i64 c, .int .i64 g, .int .i64 ar, .int .i64 (an : Int), .int .i64 br, .int .i64 bn, .slice x1 x2 x3, .slice y1 y2 y3] 40) := ⟨_, rfl⟩
  have K1 : Keeps (fun _ => False) w W1 := by rw [hW1]; exact (Keeps.refl _ w).alloc _
  have B1 : Whole W1 w.heap.size 40 #[.int .i64 12, .int .i64 c, .int .i64 g, .int .i64 ar, .int .i64 (an : Int), .int .i64 br, .int .i64 bn, .slice x1 x2 x3, .slice y1 y2 y3] := by rw [hW1]; exact Whole.made _ _ _
  have HK := Lib.hid K1
  have HB := Lib.hid B1
  have hW1' := Lib.hid hW1
  have C1 := Lib.hid (loop_any11 hB an (by omega) hv (k0.trans K1 fun _ _ => id) (h.same F K1) hX hr hn)
  have d0 := B1.at_ 0
  have d4 := B1.at_ 4
  have d7 := B1.at_ 7
  have d8 := B1.at_ 8
  clear B1 K1 hB hv k0 hX hr hn h
  go_enter Tryz.func51, Tryz.ntmps51
  go_upto_region 1 with fail
  rw [← hW1'.out]
  clear hW1 hW1'
  go_wp2_with fail
  refine C1.out.mono ?_
  rintro e w2 ⟨ev, rfl, hEv, hD⟩
  have HEv := Lib.hid hEv
  have HD := Lib.hid hD
  clear hEv hD C1 d0 d4 d7 d8
  go_wp2_with fail
  go_ret
  exact ⟨_, rfl, HEv.out, HD.out.after HK.out⟩

set_option maxRecDepth 100000 in
set_option maxHeartbeats 2000000 in
theorem one_atomic (F : Face PM) (s : St7) (b e : Sl) (hk : s.k = 13) {B : Fo} (hB : AllDoes PM K w0 B) (hv : SlOf w0 (slv b) B) (k0 : Keeps (fun _ => False) w0 w) (hX : ∀ x, X x → w0.heap.size ≤ x) (hr : r.Fine K n) (hn : n ≤ 1000) (h : RunM PM w rb r n X) :
    Calls Tryz.prog 51 #[.pointer (some ⟨rb, 0, none⟩), .agg (stAgg s b e)] w fun e' w' => Left11 PM w0 w rb X (if (evF B r n).2.1 = 2 then ({ (evF B r n).1 with A := r.A }, 0, (evF B r n).2.2) else evF B r n) e' w' := by
  obtain ⟨k, c, g, ar, an, br, bn⟩ := s
  obtain ⟨x1, x2, x3⟩ := b
  obtain ⟨y1, y2, y3⟩ := e
  unfold stAgg slv at *
  simp only at *
  subst hk
  obtain ⟨W1, hW1⟩ : ∃ V, V = w.alloc (.cells #[.int .i64 13, .int .i64 c, .int .i64 g, .int .i64 ar, .int .i64 an, .int .i64 br, .int .i64 bn, .slice x1 x2 x3, .slice y1 y2 y3] 40) := ⟨_, rfl⟩
  have K1 : Keeps (fun _ => False) w W1 := by rw [hW1]; exact (Keeps.refl _ w).alloc _
  have B1 : Whole W1 w.heap.size 40 #[.int .i64 13, .int .i64 c, .int .i64 g, .int .i64 ar, .int .i64 an, .int .i64 br, .int .i64 bn, .slice x1 x2 x3, .slice y1 y2 y3] := by rw [hW1]; exact Whole.made _ _ _
  have HK := Lib.hid K1
  have HB := Lib.hid B1
  have hW1' := Lib.hid hW1
  have C1 := Lib.hid (atomic_any11 F hB hv (k0.trans K1 fun _ _ => id) (h.same F K1) hX hr hn)
  generalize (if (evF B r n).2.1 = 2 then ({ (evF B r n).1 with A := r.A }, 0, (evF B r n).2.2) else evF B r n) = z at C1 ⊢
  have d0 := B1.at_ 0
  have d4 := B1.at_ 4
  have d7 := B1.at_ 7
  have d8 := B1.at_ 8
  clear B1 K1 hB hv k0 hX hr hn h
  go_enter Tryz.func51, Tryz.ntmps51
  go_upto_region 1 with fail
  rw [← hW1'.out]
  clear hW1 hW1'
  go_wp2_with fail
  refine C1.out.mono ?_
  rintro e w2 ⟨ev, rfl, hEv, hD⟩
  have HEv := Lib.hid hEv
  have HD := Lib.hid hD
  clear hEv hD C1 d0 d4 d7 d8
  go_wp2_with fail
  go_ret
  exact ⟨_, rfl, HEv.out, HD.out.after HK.out⟩

set_option maxRecDepth 100000 in
set_option maxHeartbeats 2000000 in
theorem one_or (F : Face PM) (s : St7) (b e : Sl) (hk : s.k = 14) {B E : Fo} (hB : AllDoes PM K w0 B) (hE : AllDoes PM K w0 E) (hv : SlOf w0 (slv b) B) (hv2 : SlOf w0 (slv e) E) (k0 : Keeps (fun _ => False) w0 w) (hX : ∀ x, X x → w0.heap.size ≤ x) (hr : r.Fine K n) (hn : n ≤ 1000) (h : RunM PM w rb r n X) :
    Calls Tryz.prog 51 #[.pointer (some ⟨rb, 0, none⟩), .agg (stAgg s b e)] w fun e' w' => Left11 PM w0 w rb X (if (evF B r n).2.1 = 3 then evF E r (evF B r n).2.2 else evF B r n) e' w' := by
  obtain ⟨k, c, g, ar, an, br, bn⟩ := s
  obtain ⟨x1, x2, x3⟩ := b
  obtain ⟨y1, y2, y3⟩ := e
  unfold stAgg slv at *
  simp only at *
  subst hk
  obtain ⟨W1, hW1⟩ : ∃ V, V = w.alloc (.cells #[.int .i64 14, .int .i64 c, .int .i64 g, .int .i64 ar, .int .i64 an, .int .i64 br, .int .i64 bn, .slice x1 x2 x3, .slice y1 y2 y3] 40) := ⟨_, rfl⟩
  have K1 : Keeps (fun _ => False) w W1 := by rw [hW1]; exact (Keeps.refl _ w).alloc _
  have B1 : Whole W1 w.heap.size 40 #[.int .i64 14, .int .i64 c, .int .i64 g, .int .i64 ar, .int .i64 an, .int .i64 br, .int .i64 bn, .slice x1 x2 x3, .slice y1 y2 y3] := by rw [hW1]; exact Whole.made _ _ _
  have HK := Lib.hid K1
  have HB := Lib.hid B1
  have hW1' := Lib.hid hW1
  have C1 := Lib.hid (or_any11 F hB hE hv hv2 (k0.trans K1 fun _ _ => id) (h.same F K1) hX hr hn)
  generalize (if (evF B r n).2.1 = 3 then evF E r (evF B r n).2.2 else evF B r n) = z at C1 ⊢
  have d0 := B1.at_ 0
  have d4 := B1.at_ 4
  have d7 := B1.at_ 7
  have d8 := B1.at_ 8
  clear B1 K1 hB hE hv hv2 k0 hX hr hn h
  go_enter Tryz.func51, Tryz.ntmps51
  go_upto_region 1 with fail
  rw [← hW1'.out]
  clear hW1 hW1'
  go_wp2_with fail
  refine C1.out.mono ?_
  rintro e w2 ⟨ev, rfl, hEv, hD⟩
  have HEv := Lib.hid hEv
  have HD := Lib.hid hD
  clear hEv hD C1 d0 d4 d7 d8
  go_wp2_with fail
  go_ret
  exact ⟨_, rfl, HEv.out, HD.out.after HK.out⟩

set_option maxRecDepth 100000 in
set_option maxHeartbeats 2000000 in
theorem one_retry (F : Face PM) (s : St7) (b e : Sl) (hk : s.k = 15) (h : RunM PM w rb r n X) :
    Calls Tryz.prog 51 #[.pointer (some ⟨rb, 0, none⟩), .agg (stAgg s b e)] w fun e' w' => e' = .returned (.iface 114 (.agg #[.int .i64 13])) ∧ RDone PM w w' rb r n X := by
  obtain ⟨k, c, g, ar, an, br, bn⟩ := s
  obtain ⟨x1, x2, x3⟩ := b
  obtain ⟨y1, y2, y3⟩ := e
  unfold stAgg slv at *
  simp only at *
  subst hk
  obtain ⟨W1, hW1⟩ : ∃ V, V = w.alloc (.cells #[.int .i64 15, .int .i64 c, .int .i64 g, .int .i64 ar, .int .i64 an, .int .i64 br, .int .i64 bn, .slice x1 x2 x3, .slice y1 y2 y3] 40) := ⟨_, rfl⟩
  have K1 : Keeps (fun _ => False) w W1 := by rw [hW1]; exact (Keeps.refl _ w).alloc _
  have B1 : Whole W1 w.heap.size 40 #[.int .i64 15, .int .i64 c, .int .i64 g, .int .i64 ar, .int .i64 an, .int .i64 br, .int .i64 bn, .slice x1 x2 x3, .slice y1 y2 y3] := by rw [hW1]; exact Whole.made _ _ _
  have HK := Lib.hid K1
  have HB := Lib.hid B1
  have hW1' := Lib.hid hW1
  have d0 := B1.at_ 0
  have HR := Lib.hid (RDone.refl F h K1)
  clear B1 K1 h
  go_enter Tryz.func51, Tryz.ntmps51
  go_upto_region 1 with fail
  rw [← hW1'.out]
  clear hW1 hW1'
  go_wp2_with fail
  go_ret
  exact ⟨rfl, HR.out⟩

set_option maxRecDepth 100000 in
set_option maxHeartbeats 2000000 in
theorem one_abort (F : Face PM) (s : St7) (b e : Sl) (hk : s.k = 16) (h : RunM PM w rb r n X) :
    Calls Tryz.prog 51 #[.pointer (some ⟨rb, 0, none⟩), .agg (stAgg s b e)] w fun e' w' => e' = .returned (.iface 114 (.agg #[.int .i64 14])) ∧ RDone PM w w' rb r n X := by
  obtain ⟨k, c, g, ar, an, br, bn⟩ := s
  obtain ⟨x1, x2, x3⟩ := b
  obtain ⟨y1, y2, y3⟩ := e
  unfold stAgg slv at *
  simp only at *
  subst hk
  obtain ⟨W1, hW1⟩ : ∃ V, V = w.alloc (.cells #[.int .i64 16, .int .i64 c, .int .i64 g, .int .i64 ar, .int .i64 an, .int .i64 br, .int .i64 bn, .slice x1 x2 x3, .slice y1 y2 y3] 40) := ⟨_, rfl⟩
  have K1 : Keeps (fun _ => False) w W1 := by rw [hW1]; exact (Keeps.refl _ w).alloc _
  have B1 : Whole W1 w.heap.size 40 #[.int .i64 16, .int .i64 c, .int .i64 g, .int .i64 ar, .int .i64 an, .int .i64 br, .int .i64 bn, .slice x1 x2 x3, .slice y1 y2 y3] := by rw [hW1]; exact Whole.made _ _ _
  have HK := Lib.hid K1
  have HB := Lib.hid B1
  have hW1' := Lib.hid hW1
  have d0 := B1.at_ 0
  have HR := Lib.hid (RDone.refl F h K1)
  clear B1 K1 h
  go_enter Tryz.func51, Tryz.ntmps51
  go_upto_region 1 with fail
  rw [← hW1'.out]
  clear hW1 hW1'
  go_wp2_with fail
  go_ret
  exact ⟨rfl, HR.out⟩
end
end Go.Proofs.YthidipigpfcbbaaGreatDoor
