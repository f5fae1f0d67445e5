/-
  (*run).one by contract: set and add (printed by gen/mkevone.py).
-/
import Derived.Test.YthidipigpfcbbaaGreatDoorEvOr
import Derived.Test.YthidipigpfcbbaaGreatDoorEvFacts
import Derived.Deep.RegionHeld3
namespace Go.Proofs.YthidipigpfcbbaaGreatDoor
open Go.RowKit Go.Maps Go.Extern.Stop Go.Stop Go.Extern

section
variable {PM : PMem} {w0 w : World} {rb n : Nat} {r : RS} {X : Nat → Prop} {K : List Int}

set_option maxRecDepth 100000 in
set_option maxHeartbeats 2000000 in
theorem one_set (F : Face PM) (s : St7) (b e : Sl) (hk : s.k = 9) (hR : r.R.length = 9) (ha : 0 ≤ s.ar ∧ s.ar ≤ 8) (hb : 0 ≤ s.br ∧ s.br ≤ 8) (hs : 1 ≤ s.r ∧ s.r ≤ 8) (h : RunM PM w rb r n X) :
    Calls Tryz.prog 51 #[.pointer (some ⟨rb, 0, none⟩), .agg (stAgg s b e)] w fun e' w' => e' = .returned .nilIface ∧ RDone PM w w' rb (r.put_ s.r (wrap64 (argv r.R s.ar s.an + argv r.R s.br s.bn) % 1000)) n X := by
  obtain ⟨k, c, g, ar, an, br, bn⟩ := s
  obtain ⟨x1, x2, x3⟩ := b
  obtain ⟨y1, y2, y3⟩ := e
  unfold stAgg slv at *
  simp only at *
  subst hk
  obtain ⟨g, hg, rfl⟩ : ∃ g0 : Nat, g0 < 8 ∧ g = (g0 : Int) + 1 := ⟨g.toNat - 1, by omega, by omega⟩
  clear hs
  obtain ⟨W1, hW1⟩ : ∃ V, V = w.alloc (.cells #[.int .i64 9, .int .i64 c, .int .i64 ((g : Int) + 1), .int .i64 ar, .int .i64 an, .int .i64 br, .int .i64 bn, .slice x1 x2 x3, .slice y1 y2 y3] 40) := ⟨_, rfl⟩
  have K1 : Keeps (fun _ => False) w W1 := by rw [hW1]; exact (Keeps.refl _ w).alloc _
  have B1 : Whole W1 w.heap.size 40 #[.int .i64 9, .int .i64 c, .int .i64 ((g : Int) + 1), .int .i64 ar, .int .i64 an, .int .i64 br, .int .i64 bn, .slice x1 x2 x3, .slice y1 y2 y3] := by rw [hW1]; exact Whole.made _ _ _
  have HK := Lib.hid K1
  have HB := Lib.hid B1
  have hW1' := Lib.hid hW1
  obtain ⟨sb, tv, Xs, h0⟩ := h
  have h1 := h0.same F K1
  have H1 := Lib.hid h1
  have HL : Hid (rb < w.heap.size) := Lib.hid (h0.old rb h0.inX.1)
  clear h0
  have S0 : Hid (∀ V, Keeps (fun _ => False) W1 V → V.cell? ⟨w.heap.size, 2, none⟩ = some (.int .i64 ((g : Int) + 1)) ∧ V.cell? ⟨w.heap.size, 3, none⟩ = some (.int .i64 ar) ∧ V.cell? ⟨w.heap.size, 4, none⟩ = some (.int .i64 an) ∧ V.cell? ⟨w.heap.size, 5, none⟩ = some (.int .i64 br) ∧ V.cell? ⟨w.heap.size, 6, none⟩ = some (.int .i64 bn)) := Lib.hid fun V q => ⟨(B1.keeps q id).at_ 2, (B1.keeps q id).at_ 3, (B1.keeps q id).at_ 4, (B1.keeps q id).at_ 5, (B1.keeps q id).at_ 6⟩
  have SF : Hid (∀ V v, Keeps (fun _ => False) W1 V → (V.setCell ⟨rb, 1 + g, none⟩ v).cell? ⟨w.heap.size, 2, none⟩ = some (.int .i64 ((g : Int) + 1)) ∧ (V.setCell ⟨rb, 1 + g, none⟩ v).cell? ⟨w.heap.size, 3, none⟩ = some (.int .i64 ar) ∧ (V.setCell ⟨rb, 1 + g, none⟩ v).cell? ⟨w.heap.size, 4, none⟩ = some (.int .i64 an) ∧ (V.setCell ⟨rb, 1 + g, none⟩ v).cell? ⟨w.heap.size, 5, none⟩ = some (.int .i64 br) ∧ (V.setCell ⟨rb, 1 + g, none⟩ v).cell? ⟨w.heap.size, 6, none⟩ = some (.int .i64 bn)) := Lib.hid fun V v q => by
    have hb := (B1.keeps q id).far (p := ⟨rb, 1 + g, none⟩) (fun e => by have := HL.out; simp only at e; omega) v
    exact ⟨hb.at_ 2, hb.at_ 3, hb.at_ 4, hb.at_ 5, hb.at_ 6⟩
  have s0 := Lib.hid (S0.out W1.drew (Keeps.refl _ W1).drew)
  have k0 := Lib.hid ((Keeps.refl (fun _ => False) W1).drew)
  have CA := Lib.hid (fun V (q : Keeps (fun _ => False) W1 V) => arg_any11 (RunM.same F ⟨sb, tv, Xs, h1⟩ q) hR ar an ha)
  have CB := Lib.hid (fun V (q : Keeps (fun _ => False) W1 V) => arg_any11 (RunM.same F ⟨sb, tv, Xs, h1⟩ q) hR br bn hb)
  obtain ⟨p, hp⟩ : ∃ p, argv r.R ar an = p := ⟨_, rfl⟩
  obtain ⟨q, hq⟩ : ∃ q, argv r.R br bn = q := ⟨_, rfl⟩
  rw [hp] at CA ⊢
  rw [hq] at CB ⊢
  obtain ⟨v, hv⟩ : ∃ v, wrap64 (p + q) % 1000 = v := ⟨_, rfl⟩
  have CV := Lib.hid (fun V => value_any (wrap64 (p + q)) V)
  rw [hv] at CV ⊢
  have CW := Lib.hid (fun V => show Calls Tryz.prog 77 #[.int .i64 (IntKind.i64.wrap (p + q))] V _ from by rw [wrap64_is]; exact CV.out V)
  have hR' := Lib.hid hR
  have hgl := Lib.hid hg
  have b0 : ¬ (g : Int) < 0 := by omega
  have b1 : (0 : Int) ≤ (g : Int) := by omega
  have b2 : (g : Int) < 8 := by omega
  have e1 : wrap64 (((g : Int) + 1) - 1) = (g : Int) := by rw [IntWalk.wrap64_in _ ⟨by omega, by omega⟩]; omega
  have e2 : IntKind.i64.wrap (((g : Int) + 1) - 1) = (g : Int) := by rw [wrap64_is]; exact e1
  have e3 : wrap64 (g : Int) = (g : Int) := IntWalk.wrap64_in _ ⟨by omega, by omega⟩
  have e4 : IntKind.i64.wrap (g : Int) = (g : Int) := by rw [wrap64_is]; exact e3
  clear h1 hR B1 K1 hv hp hq
  go_enter Tryz.func51, Tryz.ntmps51
  go_upto_region 1 with fail
  rw [← hW1'.out]
  clear hW1 hW1'
  have d0 : W1.cell? ⟨w.heap.size, 0, none⟩ = some (.int .i64 9) := HB.out.at_ 0
  go_upto_region 16 with fail
  go_region_held3 (fun V => V.cell? ⟨w.heap.size, 2, none⟩ = some (.int .i64 ((g : Int) + 1)) ∧ V.cell? ⟨w.heap.size, 3, none⟩ = some (.int .i64 ar) ∧ V.cell? ⟨w.heap.size, 4, none⟩ = some (.int .i64 an) ∧ V.cell? ⟨w.heap.size, 5, none⟩ = some (.int .i64 br) ∧ V.cell? ⟨w.heap.size, 6, none⟩ = some (.int .i64 bn)) (first | with_reducible exact sE.out | with_reducible exact sC.out | with_reducible exact sA.out | with_reducible exact s0.out)
    (first
      | (go_at_call 77; refine (CV.out _).mono ?_; rintro e w' ⟨rfl, rfl⟩)
      | (go_at_call 77; refine (CW.out _).mono ?_; rintro e w' ⟨rfl, rfl⟩)
      | (go_at_call 78; refine (CB.out _ k2.out).mono ?_; rintro e w4 ⟨rfl, hK⟩; have k4 := Lib.hid (k2.out.trans hK fun _ _ => id); have sC := Lib.hid (S0.out w4 k4.out); have sE := Lib.hid (SF.out w4 (.int .i64 v) k4.out); have R4 := Lib.hid (H1.out.same F k4.out); have c4 : w4.cell? ⟨rb, 1 + g, none⟩ = some (.int .i64 (r.R.getD (g + 1) 0)) := (by rw [Nat.add_comm 1 g]; exact R4.out.reg hR'.out hgl.out); have f4 := R4.out.box.free (1 + g); clear hK)
      | (go_at_call 78; refine (CA.out _ k0.out).mono ?_; rintro e w2 ⟨rfl, hK⟩; have k2 := Lib.hid (k0.out.trans hK fun _ _ => id); have sA := Lib.hid (S0.out w2 k2.out); clear hK))
  obtain ⟨W5, hW5⟩ : ∃ V, V = w4.setCell ⟨rb, 1 + g, none⟩ (.int .i64 v) := ⟨_, rfl⟩
  have RE : Hid (RDone PM w W5 rb { r with R := r.R.set (g + 1) v } n X) := Lib.hid (by
    refine RDone.after (HK.out.trans k4.out fun _ _ => id) ⟨X, ⟨sb, tv, Xs, ?_⟩, fun x hx => .inl hx, ?_⟩
    · rw [hW5]
      exact R4.out.setCell F (1 + g) (.int .i64 v) (by rw [Nat.add_comm 1 g]; exact runCells_reg hR'.out hgl.out v)
    · rw [hW5]
      exact (Keeps.refl X w4).setCell (p := ⟨rb, 1 + g, none⟩) (fun _ => H1.out.inX.1) _)
  rw [← hW5]
  clear hW5 sE sC sA c4 f4 s0 R4
  go_wp2_with fail
  go_ret
  unfold RS.put_
  rw [show ((g : Int) + 1).toNat = g + 1 by omega]
  exact ⟨rfl, RE.out⟩

set_option maxRecDepth 100000 in
set_option maxHeartbeats 2000000 in
theorem one_add (F : Face PM) (s : St7) (b e : Sl) (hk : s.k = 10) (hR : r.R.length = 9) (ha : 0 ≤ s.ar ∧ s.ar ≤ 8) (hb : 0 ≤ s.br ∧ s.br ≤ 8) (hs : 1 ≤ s.r ∧ s.r ≤ 8) (h : RunM PM w rb r n X) :
    Calls Tryz.prog 51 #[.pointer (some ⟨rb, 0, none⟩), .agg (stAgg s b e)] w fun e' w' => e' = .returned .nilIface ∧ RDone PM w w' rb (r.put_ s.r (wrap64 (argv r.R s.ar s.an + argv r.R s.br s.bn) % 1000)) n X := by
  obtain ⟨k, c, g, ar, an, br, bn⟩ := s
  obtain ⟨x1, x2, x3⟩ := b
  obtain ⟨y1, y2, y3⟩ := e
  unfold stAgg slv at *
  simp only at *
  subst hk
  obtain ⟨g, hg, rfl⟩ : ∃ g0 : Nat, g0 < 8 ∧ g = (g0 : Int) + 1 := ⟨g.toNat - 1, by omega, by omega⟩
  clear hs
  obtain ⟨W1, hW1⟩ : ∃ V, V = w.alloc (.cells #[.int .i64 10, .int .i64 c, .int .i64 ((g : Int) + 1), .int .i64 ar, .int .i64 an, .int .i64 br, .int .i64 bn, .slice x1 x2 x3, .slice y1 y2 y3] 40) := ⟨_, rfl⟩
  have K1 : Keeps (fun _ => False) w W1 := by rw [hW1]; exact (Keeps.refl _ w).alloc _
  have B1 : Whole W1 w.heap.size 40 #[.int .i64 10, .int .i64 c, .int .i64 ((g : Int) + 1), .int .i64 ar, .int .i64 an, .int .i64 br, .int .i64 bn, .slice x1 x2 x3, .slice y1 y2 y3] := by rw [hW1]; exact Whole.made _ _ _
  have HK := Lib.hid K1
  have HB := Lib.hid B1
  have hW1' := Lib.hid hW1
  obtain ⟨sb, tv, Xs, h0⟩ := h
  have h1 := h0.same F K1
  have H1 := Lib.hid h1
  have HL : Hid (rb < w.heap.size) := Lib.hid (h0.old rb h0.inX.1)
  clear h0
  have S0 : Hid (∀ V, Keeps (fun _ => False) W1 V → V.cell? ⟨w.heap.size, 2, none⟩ = some (.int .i64 ((g : Int) + 1)) ∧ V.cell? ⟨w.heap.size, 3, none⟩ = some (.int .i64 ar) ∧ V.cell? ⟨w.heap.size, 4, none⟩ = some (.int .i64 an) ∧ V.cell? ⟨w.heap.size, 5, none⟩ = some (.int .i64 br) ∧ V.cell? ⟨w.heap.size, 6, none⟩ = some (.int .i64 bn)) := Lib.hid fun V q => ⟨(B1.keeps q id).at_ 2, (B1.keeps q id).at_ 3, (B1.keeps q id).at_ 4, (B1.keeps q id).at_ 5, (B1.keeps q id).at_ 6⟩
  have SF : Hid (∀ V v, Keeps (fun _ => False) W1 V → (V.setCell ⟨rb, 1 + g, none⟩ v).cell? ⟨w.heap.size, 2, none⟩ = some (.int .i64 ((g : Int) + 1)) ∧ (V.setCell ⟨rb, 1 + g, none⟩ v).cell? ⟨w.heap.size, 3, none⟩ = some (.int .i64 ar) ∧ (V.setCell ⟨rb, 1 + g, none⟩ v).cell? ⟨w.heap.size, 4, none⟩ = some (.int .i64 an) ∧ (V.setCell ⟨rb, 1 + g, none⟩ v).cell? ⟨w.heap.size, 5, none⟩ = some (.int .i64 br) ∧ (V.setCell ⟨rb, 1 + g, none⟩ v).cell? ⟨w.heap.size, 6, none⟩ = some (.int .i64 bn)) := Lib.hid fun V v q => by
    have hb := (B1.keeps q id).far (p := ⟨rb, 1 + g, none⟩) (fun e => by have := HL.out; simp only at e; omega) v
    exact ⟨hb.at_ 2, hb.at_ 3, hb.at_ 4, hb.at_ 5, hb.at_ 6⟩
  have s0 := Lib.hid (S0.out W1.drew (Keeps.refl _ W1).drew)
  have k0 := Lib.hid ((Keeps.refl (fun _ => False) W1).drew)
  have CA := Lib.hid (fun V (q : Keeps (fun _ => False) W1 V) => arg_any11 (RunM.same F ⟨sb, tv, Xs, h1⟩ q) hR ar an ha)
  have CB := Lib.hid (fun V (q : Keeps (fun _ => False) W1 V) => arg_any11 (RunM.same F ⟨sb, tv, Xs, h1⟩ q) hR br bn hb)
  obtain ⟨p, hp⟩ : ∃ p, argv r.R ar an = p := ⟨_, rfl⟩
  obtain ⟨q, hq⟩ : ∃ q, argv r.R br bn = q := ⟨_, rfl⟩
  rw [hp] at CA ⊢
  rw [hq] at CB ⊢
  obtain ⟨v, hv⟩ : ∃ v, wrap64 (p + q) % 1000 = v := ⟨_, rfl⟩
  have CV := Lib.hid (fun V => value_any (wrap64 (p + q)) V)
  rw [hv] at CV ⊢
  have CW := Lib.hid (fun V => show Calls Tryz.prog 77 #[.int .i64 (IntKind.i64.wrap (p + q))] V _ from by rw [wrap64_is]; exact CV.out V)
  have hR' := Lib.hid hR
  have hgl := Lib.hid hg
  have b0 : ¬ (g : Int) < 0 := by omega
  have b1 : (0 : Int) ≤ (g : Int) := by omega
  have b2 : (g : Int) < 8 := by omega
  have e1 : wrap64 (((g : Int) + 1) - 1) = (g : Int) := by rw [IntWalk.wrap64_in _ ⟨by omega, by omega⟩]; omega
  have e2 : IntKind.i64.wrap (((g : Int) + 1) - 1) = (g : Int) := by rw [wrap64_is]; exact e1
  have e3 : wrap64 (g : Int) = (g : Int) := IntWalk.wrap64_in _ ⟨by omega, by omega⟩
  have e4 : IntKind.i64.wrap (g : Int) = (g : Int) := by rw [wrap64_is]; exact e3
  clear h1 hR B1 K1 hv hp hq
  go_enter Tryz.func51, Tryz.ntmps51
  go_upto_region 1 with fail
  rw [← hW1'.out]
  clear hW1 hW1'
  have d0 : W1.cell? ⟨w.heap.size, 0, none⟩ = some (.int .i64 10) := HB.out.at_ 0
  go_upto_region 16 with fail
  go_region_held3 (fun V => V.cell? ⟨w.heap.size, 2, none⟩ = some (.int .i64 ((g : Int) + 1)) ∧ V.cell? ⟨w.heap.size, 3, none⟩ = some (.int .i64 ar) ∧ V.cell? ⟨w.heap.size, 4, none⟩ = some (.int .i64 an) ∧ V.cell? ⟨w.heap.size, 5, none⟩ = some (.int .i64 br) ∧ V.cell? ⟨w.heap.size, 6, none⟩ = some (.int .i64 bn)) (first | with_reducible exact sE.out | with_reducible exact sC.out | with_reducible exact sA.out | with_reducible exact s0.out)
    (first
      | (go_at_call 77; refine (CV.out _).mono ?_; rintro e w' ⟨rfl, rfl⟩)
      | (go_at_call 77; refine (CW.out _).mono ?_; rintro e w' ⟨rfl, rfl⟩)
      | (go_at_call 78; refine (CB.out _ k2.out).mono ?_; rintro e w4 ⟨rfl, hK⟩; have k4 := Lib.hid (k2.out.trans hK fun _ _ => id); have sC := Lib.hid (S0.out w4 k4.out); have sE := Lib.hid (SF.out w4 (.int .i64 v) k4.out); have R4 := Lib.hid (H1.out.same F k4.out); have c4 : w4.cell? ⟨rb, 1 + g, none⟩ = some (.int .i64 (r.R.getD (g + 1) 0)) := (by rw [Nat.add_comm 1 g]; exact R4.out.reg hR'.out hgl.out); have f4 := R4.out.box.free (1 + g); clear hK)
      | (go_at_call 78; refine (CA.out _ k0.out).mono ?_; rintro e w2 ⟨rfl, hK⟩; have k2 := Lib.hid (k0.out.trans hK fun _ _ => id); have sA := Lib.hid (S0.out w2 k2.out); clear hK))
  obtain ⟨W5, hW5⟩ : ∃ V, V = w4.setCell ⟨rb, 1 + g, none⟩ (.int .i64 v) := ⟨_, rfl⟩
  have RE : Hid (RDone PM w W5 rb { r with R := r.R.set (g + 1) v } n X) := Lib.hid (by
    refine RDone.after (HK.out.trans k4.out fun _ _ => id) ⟨X, ⟨sb, tv, Xs, ?_⟩, fun x hx => .inl hx, ?_⟩
    · rw [hW5]
      exact R4.out.setCell F (1 + g) (.int .i64 v) (by rw [Nat.add_comm 1 g]; exact runCells_reg hR'.out hgl.out v)
    · rw [hW5]
      exact (Keeps.refl X w4).setCell (p := ⟨rb, 1 + g, none⟩) (fun _ => H1.out.inX.1) _)
  rw [← hW5]
  clear hW5 sE sC sA c4 f4 s0 R4
  go_wp2_with fail
  go_ret
  unfold RS.put_
  rw [show ((g : Int) + 1).toNat = g + 1 by omega]
  exact ⟨rfl, RE.out⟩

end
end Go.Proofs.YthidipigpfcbbaaGreatDoor
