/-
  eval.Run by contract: Face11.
-/
import Derived.Test.YthidipigpfcbbaaGreatDoorEvAll
import Derived.Test.YthidipigpfcbbaaGreatDoorMdFace
import Derived.Test.YthidipigpfcbbaaGreatDoorPvCheck
namespace Go.Proofs.YthidipigpfcbbaaGreatDoor
open Go.RowKit Go.Maps Go.Extern.Stop Go.Stop Go.Extern

set_option maxRecDepth 100000 in
theorem same_one {w : World} {s : Nat} {A : M8} {X : Nat → Prop} (h : PM w s A X) :
    Calls Tryz.prog 13 #[.pointer (some ⟨s, 0, none⟩), .pointer none] w fun e w' => e = .returned (.bool false) ∧ w = w' := by
  obtain ⟨vK, gC, cap, bs, h⟩ := h
  have hN := Lib.hid (mnone_there w (h.blk.at_ 1))
  clear h
  go_enter Tryz.func13, Tryz.ntmps13
  go_wp2_with fail
  refine hN.out.mono ?_
  rintro e w' ⟨rfl, rfl⟩
  go_wp2_with fail
  refine (mnone_nil _).mono ?_
  rintro e w' ⟨rfl, rfl⟩
  go_wp2_with fail
  refine hN.out.mono ?_
  rintro e w' ⟨rfl, rfl⟩
  go_wp2_with fail
  go_ret
  exact ⟨rfl, rfl⟩
theorem intl_of {w : World} {u : Value} {K : List Int} (h : IRow w u K) (few : K.length ≤ 8) : ∃ a c, u = .slice a K.length c ∧ IntL w a K.length K := by
  obtain ⟨o, c, rfl, ho⟩ := irow_cells h rfl
  refine ⟨o, c, rfl, rfl, by unfold maxLen; omega, fun e => ?_, fun h0 => ?_⟩
  · rcases Nat.eq_zero_or_pos K.length with g | g
    · exact g
    · obtain ⟨b, hb, _⟩ := ho g
      rw [hb] at e
      cases e
  · obtain ⟨b, hb, hc⟩ := ho h0
    exact ⟨b, 0, hb, fun i x hx => by rw [Nat.zero_add]; exact hc i x hx⟩
theorem ErrU.shape {B : Nat} {w : World} {v : Value} {k : Nat} {a : Int} (h : ErrU B w v k a) (hk : k ≠ 0) : ∃ t x, v = .iface t x := by
  rcases h with ⟨h, _⟩ | ⟨_, _, _, h⟩ | ⟨_, _, p, _, h, _⟩
  · exact absurd h hk
  · exact ⟨_, _, h⟩
  · exact ⟨_, _, h⟩
/-- An error's value stays when another block, of another type, is set. -/
theorem ErrU.other {B : Nat} {w w' : World} {v : Value} {k : Nat} {a : Int} {b : Nat} {t : TypeId} {cs : Array Value} (h : ErrU B w v k a) (hb : Whole w b t cs) (ht : t ≠ 105) (K : Keeps (fun x => x = b) w w') : ErrU B w' v k a := by
  rcases h with h | h | ⟨h1, h2, p, h3, h4, h5⟩
  · exact .inl h
  · exact .inr (.inl h)
  · exact .inr (.inr ⟨h1, h2, p, h3, h4, h5.keeps K fun e => by subst e; exact Whole.ne_ h5 hb (fun e => ht e.symm) rfl⟩)
/-- What Run answers. -/
def RunAll (w : World) (A : M8) (F : Fo) (e : Ending) (w' : World) : Prop := Keeps (fun _ => False) w w' ∧
  ((¬ ((right F A.K).1 = 0 ∧ (runA A F).2.1 ≠ 5) ∧ ∃ ev k a, e = .returned (.tuple #[.pointer none, evalV 0 (.slice none 0 0), ev]) ∧ k ≠ 0 ∧ ErrU w.heap.size w' ev k a) ∨
   ((right F A.K).1 = 0 ∧ (runA A F).2.1 ≠ 5 ∧ ∃ t Z tv, e = .returned (.tuple #[.pointer (some ⟨t, 0, none⟩), evalV (endC (runA A F).2.1) tv, .nilIface]) ∧
      PM w' t (runS A F) Z ∧ (∀ x, Z x → w.heap.size ≤ x) ∧ IRow w' tv (runA A F).1.T ∧ (runA A F).1.T.length ≤ 300000 ∧ (∀ g, tv.ownBlock = some g → w.heap.size ≤ g)))
theorem fine0 {A : M8} (h : A.Ok) : (rs0 A).Fine A.K 0 := ⟨by simp [rs0], h, rfl, by simp [rs0]⟩

set_option maxRecDepth 100000 in
set_option maxHeartbeats 4000000 in
theorem run_any11 {w : World} {s : Nat} {A : M8} {X : Nat → Prop} {v : Value} {F : Fo} (hg : Glob w) (st : PM w s A X) (hv : SlOf w v F) (hs : F.size ≤ 20000) (hd : F.deep ≤ 20000) :
    Calls Tryz.prog 10 #[.pointer (some ⟨s, 0, none⟩), v] w fun e w' => RunAll w A F e w' := by
  obtain ⟨W1, hW1⟩ : ∃ V, V = w.alloc (.cells #[.int .i64 0, .slice none 0 0] 32) := ⟨_, rfl⟩
  have K1 : Keeps (fun _ => False) w W1 := by rw [hW1]; exact (Keeps.refl _ w).alloc _
  have B1 : Whole W1 w.heap.size 32 #[.int .i64 0, .slice none 0 0] := by rw [hW1]; exact Whole.made _ _ _
  have CS := Lib.hid (same_one (PM.same st K1))
  have CK := Lib.hid (face.kinds_ (face.same st K1))
  have CC := Lib.hid (fun V (k : Keeps (fun _ => False) w V) => face.copy_ (face.same st k))
  have k8 : A.K.length ≤ 8 := by have := (face.ok st).len; have := (face.ok st).few; omega
  have CR := Lib.hid (fun V a c (k : Keeps (fun _ => False) w V) (q : IntL V a A.K.length A.K) => right_call (w := V) (kc := c) (hv.same k) q (by omega) hs hd)
  have CA := Lib.hid (fun (q : (right F A.K).1 = 0) => all_any11 face (w0 := w) (K := A.K) F.size F (Nat.le_refl _) (right_f q))
  have HV := Lib.hid hv
  have HG := Lib.hid hg
  have OK := Lib.hid (face.ok st)
  have HK := Lib.hid K1
  have HB := Lib.hid B1
  have K8 := Lib.hid k8
  have hW1' := Lib.hid hW1
  obtain ⟨vo, vc, ev, _⟩ := hv.fit
  have hvv := Lib.hid ev
  clear K1 B1 st hv hg hs hd k8
  rw [ev] at CR
  subst ev
  go_enter Tryz.func10, Tryz.ntmps10
  go_upto_region 1 with fail
  rw [← hW1'.out]
  clear hW1 hW1'
  go_wp2_with fail
  refine CS.out.mono ?_
  rintro e w2 ⟨rfl, rfl⟩
  clear CS
  go_wp2_with fail
  refine CK.out.mono ?_
  rintro e w2 ⟨u, rfl, hrow, hown, hK⟩
  obtain ⟨ko, kc, rfl, hil⟩ := intl_of hrow K8.out
  have K2 := Lib.hid (HK.out.trans hK fun _ _ => id)
  have B2 := Lib.hid (HB.out.keeps hK id)
  have C2 := Lib.hid (CR.out w2 ko kc K2.out hil)
  clear hrow hown hK hil CK CR
  go_wp2_with fail
  refine C2.out.mono ?_
  rintro e w3 ⟨ev, rfl, hE, hK⟩
  have K3 := Lib.hid (K2.out.trans hK fun _ _ => id)
  have B3 := Lib.hid (B2.out.keeps hK id)
  have z2 : w.heap.size ≤ w2.heap.size := K2.out.size
  have HE := Lib.hid (hE.less z2)
  clear hE hK C2 z2
  by_cases h0 : (right F A.K).1 = 0
  · obtain rfl : ev = .nilIface := by
      have := HE.out
      rw [h0] at this
      exact this.nil
    have CA' := Lib.hid (CA.out h0)
    have H0 := Lib.hid h0
    clear CA h0 HE
    go_wp2_with fail
    refine (CC.out w3 K3.out).mono ?_
    rintro e w4 ⟨s2, Z, rfl, hP, hZ, hK⟩
    obtain ⟨W5, hW5⟩ : ∃ V, V = w4.alloc (.cells #[.pointer (some ⟨s2, 0, none⟩), .int .i64 0, .int .i64 0, .int .i64 0, .int .i64 0, .int .i64 0, .int .i64 0, .int .i64 0, .int .i64 0, .slice none 0 0, .int .i64 0] 73) := ⟨_, rfl⟩
    have KA : Keeps (fun _ => False) w4 W5 := by rw [hW5]; exact (Keeps.refl _ w4).alloc _
    have BA : Whole W5 w4.heap.size 73 (runCells s2 (List.replicate 9 0) (.slice none 0 0) 0) := by rw [hW5]; exact Whole.made _ _ _
    have z3 := K3.out.size
    have z4 := hK.size
    have z5 := KA.size
    have hb3 := B3.out.lt
    have K5 := K3.out.trans (hK.trans KA fun _ _ => id) fun _ _ => id
    have R5 : RunM PM W5 w4.heap.size (rs0 A) 0 (fun x => Z x ∨ x = w4.heap.size) := ⟨s2, .slice none 0 0, Z, BA, face.same hP KA, World.ownsRow_nil .., ⟨.inr rfl, fun x hx => .inl hx, fun g hg => by simp [Value.ownBlock] at hg⟩, ⟨fun hx => by have := face.old hP _ hx; omega, fun g hg => by simp [Value.ownBlock] at hg⟩, fun x hx => by
      rcases hx with hx | hx
      · have := face.old hP x hx; omega
      · have := BA.lt; omega⟩
    have hX5 : ∀ x, (Z x ∨ x = w4.heap.size) → w.heap.size + 1 ≤ x := fun x hx => by
      rcases hx with hx | hx
      · have := hZ x hx; omega
      · omega
    have C5 := Lib.hid (CA'.out W5 _ w4.heap.size 0 (rs0 A) _ HV.out K5 R5 (fun x hx => by have := hX5 x hx; omega) (fine0 OK.out) (by omega))
    have HX5 := Lib.hid hX5
    have K5' := Lib.hid K5
    have B5 := Lib.hid ((B3.out.keeps hK id).keeps KA id)
    have hW5' := Lib.hid hW5
    have Y : Hid (runA A F = evF F (rs0 A) 0) := Lib.hid rfl
    have FY := Lib.hid (ev_fine A.K F (rs0 A) 0 (fine0 OK.out) (by omega))
    generalize evF F (rs0 A) 0 = y at *
    clear hP hZ hK KA BA z3 z4 z5 hb3 K5 R5 hX5 hW5 CA' B3
    go_upto_region 7 with fail
    rw [← hW5'.out]
    clear hW5'
    go_wp2_with fail
    refine C5.out.mono ?_
    rintro e w6 ⟨ev, rfl, hEv, hD⟩
    obtain ⟨X6, ⟨sb, tv, Xs, q1⟩, q2, q3⟩ := hD
    have K6 := Lib.hid (K5'.out.trans q3 fun x hx e => by have := HX5.out x e; omega)
    have B6 := Lib.hid (B5.out.keeps q3 fun e => by have := HX5.out _ e; omega)
    have CE := Lib.hid (ended_any11 hEv (HG.out.keeps K6.out id))
    have HEv := Lib.hid hEv
    have Q1 := Lib.hid q1
    have hX6 : Hid (∀ x, X6 x → w.heap.size + 1 ≤ x) := Lib.hid fun x hx => by
      rcases q2 x hx with g | g
      · exact HX5.out x g
      · have := K5'.out.size; have := B5.out.lt; omega
    have hk5 : y.2.1 = 0 ∨ y.2.1 = 5 ∨ (y.2.1 ≠ 0 ∧ y.2.1 ≠ 5 ∧ y.2.1 ≠ 1) := by
      rcases hEv with ⟨h, _⟩ | ⟨h, h', _⟩ | ⟨h, _⟩ <;> omega
    clear q1 q2 q3 C5 hEv K5' B5 HX5
    go_wp2_with fail
    refine CE.out.mono ?_
    rintro e w7 ⟨rfl, hK⟩
    have K7 := Lib.hid (K6.out.trans hK fun _ _ => id)
    have B7 := Lib.hid (B6.out.keeps hK id)
    have Q7 := Lib.hid (Q1.out.same face hK)
    have HE7 := Lib.hid (HEv.out.same hK fun _ _ => id)
    clear hK CE K6 B6 Q1 HEv
    have c0 : w7.cell? ⟨w4.heap.size, 0, none⟩ = some (.pointer (some ⟨sb, 0, none⟩)) := Q7.out.cell0
    obtain ⟨tb, tc, rfl, _⟩ := row_shape Q7.out.told
    have c9 : w7.cell? ⟨w4.heap.size, 9, none⟩ = some (.slice tb y.1.T.length tc) := Q7.out.cell9 FY.out.1.regs
    have g0 : w7.frozen? ⟨w4.heap.size, 0, none⟩ = false := Q7.out.box.free 0
    have q0 : w7.cell? ⟨w.heap.size, 0, none⟩ = some (.int .i64 0) := B7.out.at_ 0
    have qq1 : w7.cell? ⟨w.heap.size, 1, none⟩ = some (.slice none 0 0) := B7.out.at_ 1
    have f0 : w7.frozen? ⟨w.heap.size, 0, none⟩ = false := B7.out.free 0
    have f1 : w7.frozen? ⟨w.heap.size, 1, none⟩ = false := B7.out.free 1
    rcases hk5 with hk | hk | ⟨hk, hk', hk1⟩
    · have eE : endedV y.2.1 ev = .tuple #[.int .i64 1, .nilIface] := by rw [hk]; rfl
      have HKY := Lib.hid hk
      rw [eE]
      clear eE hk
      have BL := Lib.hid B7.out.lt
      have QL := Lib.hid (Q7.out.old _ Q7.out.inX.1)
      have QN : Hid (w.heap.size + 1 ≤ w4.heap.size) := Lib.hid (hX6.out _ Q7.out.inX.1)
      go_upto_region 12 with fail
      go_region
      obtain ⟨W9, hW9⟩ : ∃ V, V = ((w7.setCell ⟨w.heap.size, 0, none⟩ (.int .i64 1)).setCell ⟨w.heap.size, 1, none⟩ (.slice tb y.1.T.length tc)).drew := ⟨_, rfl⟩
      have B9 : Whole W9 w.heap.size 32 #[.int .i64 1, .slice tb y.1.T.length tc] := by rw [hW9]; exact ((B7.out.set_ 0 _).set_ 1 _).drew
      have k9 : Keeps (fun x => x = w.heap.size) w7 W9 := by rw [hW9]; exact (((Keeps.refl (fun x => x = w.heap.size) w7).setCell (p := ⟨w.heap.size, 0, none⟩) (fun _ => rfl) _).setCell (p := ⟨w.heap.size, 1, none⟩) (fun _ => rfl) _).drew
      have K9 := K7.out.trans k9 fun x hx e => by omega
      have y0 : W9.cell? ⟨w.heap.size, 0, none⟩ = some (.int .i64 1) := B9.at_ 0
      have y1 : W9.cell? ⟨w.heap.size, 1, none⟩ = some (.slice tb y.1.T.length tc) := B9.at_ 1
      rw [← hW9]
      have eS : runS A F = y.1.A := by unfold runS; rw [Y.out, if_pos HKY.out]
      have eC : endC (runA A F).2.1 = 1 := by rw [Y.out, HKY.out]; rfl
      have PS : PM W9 sb (runS A F) Xs := by rw [eS]; exact face.keeps Q7.out.st k9 fun x hx e => by have := hX6.out x (Q7.out.inX.2.1 x hx); omega
      have TS : IRow W9 (.slice tb y.1.T.length tc) (runA A F).1.T := by rw [Y.out]; exact ownsRow_keeps Q7.out.told k9 fun g hg e => by have := hX6.out g (Q7.out.inX.2.2 g hg); omega
      have LT : (runA A F).1.T.length ≤ 300000 := by rw [Y.out]; have := FY.out.1.told; have := FY.out.2.2; omega
      clear hW9
      go_wp2_with fail
      refine bodyPost_ret (v := .tuple #[.pointer (some ⟨sb, 0, none⟩), evalV 1 (.slice tb y.1.T.length tc), .nilIface]) (by simp [results, Tryz.results10, go_sem, evalV, y0, y1]) rfl ⟨K9, .inr ⟨H0.out, by rw [Y.out, HKY.out]; decide, sb, Xs, _, by rw [eC], PS, fun x hx => by have := hX6.out x (Q7.out.inX.2.1 x hx); omega, TS, LT, fun g hg => by have := hX6.out g (Q7.out.inX.2.2 g hg); omega⟩⟩
    · have eE : endedV y.2.1 ev = .tuple #[.int .i64 0, ev] := by rw [hk]; rfl
      have HKY := Lib.hid hk
      rw [eE]
      obtain ⟨t, x, rfl⟩ : ∃ t x, ev = .iface t x := by
        rcases HE7.out.shape with ⟨h, _⟩ | ⟨_, h⟩
        · omega
        · exact h
      have HU : Hid (∃ a, ErrU w.heap.size w7 (.iface t x) 8 a) := Lib.hid (by
        rcases HE7.out with ⟨h, _⟩ | ⟨_, h, _⟩ | ⟨_, h⟩
        · omega
        · omega
        · exact h)
      clear eE hk
      go_wp2_with fail
      obtain ⟨W9, hW9⟩ : ∃ V, V = (w7.setCell ⟨w.heap.size, 0, none⟩ (.int .i64 0)).setCell ⟨w.heap.size, 1, none⟩ (.slice none 0 0) := ⟨_, rfl⟩
      have B9 : Whole W9 w.heap.size 32 #[.int .i64 0, .slice none 0 0] := by rw [hW9]; exact (B7.out.set_ 0 _).set_ 1 _
      have k9 : Keeps (fun x => x = w.heap.size) w7 W9 := by rw [hW9]; exact ((Keeps.refl (fun x => x = w.heap.size) w7).setCell (p := ⟨w.heap.size, 0, none⟩) (fun _ => rfl) _).setCell (p := ⟨w.heap.size, 1, none⟩) (fun _ => rfl) _
      have K9 := K7.out.trans k9 fun x hx e => by omega
      have y0 : W9.cell? ⟨w.heap.size, 0, none⟩ = some (.int .i64 0) := B9.at_ 0
      have y1 : W9.cell? ⟨w.heap.size, 1, none⟩ = some (.slice none 0 0) := B9.at_ 1
      rw [← hW9]
      obtain ⟨a, hu⟩ := HU.out
      have HU9 := hu.other B7.out (by decide) k9
      have nz : ¬ ((right F A.K).1 = 0 ∧ (runA A F).2.1 ≠ 5) := fun h => h.2 (by rw [Y.out]; exact HKY.out)
      refine bodyPost_ret (v := .tuple #[.pointer none, evalV 0 (.slice none 0 0), .iface t x]) (by simp [results, Tryz.results10, go_sem, evalV, y0, y1]) rfl ⟨K9, .inl ⟨nz, _, 8, a, rfl, by omega, HU9⟩⟩
    · have eC : endC y.2.1 = (y.2.1 : Int) := by unfold endC; rw [if_neg hk]
      have eE : endedV y.2.1 ev = .tuple #[.int .i64 (y.2.1 : Int), .nilIface] := by unfold endedV; rw [if_neg hk', eC]
      have HKY := Lib.hid (And.intro hk (And.intro hk' eC))
      have b1 : ((y.2.1 : Int) != 1) = true := by simp; omega
      rw [eE]
      obtain ⟨kk, hkk⟩ : ∃ kk, (y.2.1 : Int) = kk := ⟨_, rfl⟩
      have HKK := Lib.hid hkk
      rw [hkk] at b1 ⊢
      have CC7 := Lib.hid (CC.out w7 K7.out)
      have BL := Lib.hid B7.out.lt
      have QL := Lib.hid (Q7.out.old _ Q7.out.inX.1)
      have QN : Hid (w.heap.size + 1 ≤ w4.heap.size) := Lib.hid (hX6.out _ Q7.out.inX.1)
      clear eE eC hk hk' hk1 hkk c0 g0 c9 q0 qq1 f0 f1
      go_wp2_with fail
      refine CC7.out.mono ?_
      rintro e w8 ⟨s3, Z3, rfl, hP, hZ, hK⟩
      have Q8 := Lib.hid (Q7.out.same face hK)
      have K8' := Lib.hid (K7.out.trans hK fun _ _ => id)
      obtain ⟨W9, hW9⟩ : ∃ V, V = w8.setCell ⟨w4.heap.size, 0, none⟩ (.pointer (some ⟨s3, 0, none⟩)) := ⟨_, rfl⟩
      have c0 : w8.cell? ⟨w4.heap.size, 0, none⟩ = some (.pointer (some ⟨sb, 0, none⟩)) := Q8.out.cell0
      have g0 : w8.frozen? ⟨w4.heap.size, 0, none⟩ = false := Q8.out.box.free 0
      have z7 : w4.heap.size < w7.heap.size := QL.out
      have zN := QN.out
      have k9 : Keeps (fun x => x = w4.heap.size) w8 W9 := by rw [hW9]; exact (Keeps.refl (fun x => x = w4.heap.size) w8).setCell (p := ⟨w4.heap.size, 0, none⟩) (fun _ => rfl) _
      have K9 := Lib.hid (K8'.out.trans k9 fun x hx e => by omega)
      have Q9 : Hid (RunMt PM W9 w4.heap.size s3 (.slice tb y.1.T.length tc) { y.1 with A := A } y.2.2 Z3 (fun x => X6 x ∨ Z3 x)) := Lib.hid (by
        rw [hW9]
        exact Q8.out.setState face hP fun x hx => ⟨fun e => by have := hZ x hx; omega, fun e => by have := Q7.out.old x (Q7.out.inX.2.2 x e); have := hZ x hx; omega⟩)
      have B9 := Lib.hid ((B7.out.keeps hK id).keeps k9 (by omega))
      have ZZ := Lib.hid hZ
      have Z77 := Lib.hid (show w.heap.size ≤ w7.heap.size from K7.out.size)
      have hW9' := Lib.hid hW9
      have d0 : W9.cell? ⟨w4.heap.size, 0, none⟩ = some (.pointer (some ⟨s3, 0, none⟩)) := Q9.out.cell0
      have d9 : W9.cell? ⟨w4.heap.size, 9, none⟩ = some (.slice tb y.1.T.length tc) := Q9.out.cell9 FY.out.1.regs
      have q0 : W9.cell? ⟨w.heap.size, 0, none⟩ = some (.int .i64 0) := B9.out.at_ 0
      have qq1 : W9.cell? ⟨w.heap.size, 1, none⟩ = some (.slice none 0 0) := B9.out.at_ 1
      have f0 : W9.frozen? ⟨w.heap.size, 0, none⟩ = false := B9.out.free 0
      have f1 : W9.frozen? ⟨w.heap.size, 1, none⟩ = false := B9.out.free 1
      clear hP hZ hK hW9 k9 z7 zN CC7
      go_upto_region 12 with fail
      rw [← hW9'.out]
      clear c0 g0 hW9'
      go_region
      obtain ⟨W10, hW10⟩ : ∃ V, V = ((W9.setCell ⟨w.heap.size, 0, none⟩ (.int .i64 kk)).setCell ⟨w.heap.size, 1, none⟩ (.slice tb y.1.T.length tc)).drew := ⟨_, rfl⟩
      have B10 : Whole W10 w.heap.size 32 #[.int .i64 kk, .slice tb y.1.T.length tc] := by rw [hW10]; exact ((B9.out.set_ 0 _).set_ 1 _).drew
      have k10 : Keeps (fun x => x = w.heap.size) W9 W10 := by rw [hW10]; exact (((Keeps.refl (fun x => x = w.heap.size) W9).setCell (p := ⟨w.heap.size, 0, none⟩) (fun _ => rfl) _).setCell (p := ⟨w.heap.size, 1, none⟩) (fun _ => rfl) _).drew
      have K10 := K9.out.trans k10 fun x hx e => by omega
      have y0 : W10.cell? ⟨w.heap.size, 0, none⟩ = some (.int .i64 kk) := B10.at_ 0
      have y1 : W10.cell? ⟨w.heap.size, 1, none⟩ = some (.slice tb y.1.T.length tc) := B10.at_ 1
      rw [← hW10]
      have eS : runS A F = A := by unfold runS; rw [Y.out, if_neg HKY.out.1]
      have eC : endC (runA A F).2.1 = kk := by rw [Y.out, HKY.out.2.2]; exact HKK.out
      have zN := QN.out
      have PS : PM W10 s3 (runS A F) Z3 := by rw [eS]; exact face.keeps Q9.out.st k10 fun x hx e => by have := ZZ.out x hx; have := QL.out; omega
      have TS : IRow W10 (.slice tb y.1.T.length tc) (runA A F).1.T := by rw [Y.out]; exact ownsRow_keeps Q9.out.told k10 fun g hg e => by have := hX6.out g (Q7.out.inX.2.2 g hg); omega
      have LT : (runA A F).1.T.length ≤ 300000 := by rw [Y.out]; have := FY.out.1.told; have := FY.out.2.2; omega
      clear hW10
      go_wp2_with fail
      refine bodyPost_ret (v := .tuple #[.pointer (some ⟨s3, 0, none⟩), evalV kk (.slice tb y.1.T.length tc), .nilIface]) (by simp [results, Tryz.results10, go_sem, evalV, y0, y1]) rfl ⟨K10, .inr ⟨H0.out, by rw [Y.out]; exact HKY.out.2.1, s3, Z3, _, by rw [eC], PS, fun x hx => by have := ZZ.out x hx; have := Z77.out; omega, TS, LT, fun g hg => by have := hX6.out g (Q7.out.inX.2.2 g hg); omega⟩⟩
  · have hne := HE.out.shape h0
    obtain ⟨t, x, rfl⟩ := hne
    have H0 := Lib.hid h0
    have q0 : w3.cell? ⟨w.heap.size, 0, none⟩ = some (.int .i64 0) := B3.out.at_ 0
    have q1 : w3.cell? ⟨w.heap.size, 1, none⟩ = some (.slice none 0 0) := B3.out.at_ 1
    have f0 : w3.frozen? ⟨w.heap.size, 0, none⟩ = false := B3.out.free 0
    have f1 : w3.frozen? ⟨w.heap.size, 1, none⟩ = false := B3.out.free 1
    clear CA h0
    go_wp2_with fail
    obtain ⟨W4, hW4⟩ : ∃ V, V = (w3.setCell ⟨w.heap.size, 0, none⟩ (.int .i64 0)).setCell ⟨w.heap.size, 1, none⟩ (.slice none 0 0) := ⟨_, rfl⟩
    have B4 : Whole W4 w.heap.size 32 #[.int .i64 0, .slice none 0 0] := by rw [hW4]; exact (B3.out.set_ 0 _).set_ 1 _
    have k4 : Keeps (fun x => x = w.heap.size) w3 W4 := by rw [hW4]; exact ((Keeps.refl (fun x => x = w.heap.size) w3).setCell (p := ⟨w.heap.size, 0, none⟩) (fun _ => rfl) _).setCell (p := ⟨w.heap.size, 1, none⟩) (fun _ => rfl) _
    have K4 := K3.out.trans k4 fun x hx e => by omega
    have y0 : W4.cell? ⟨w.heap.size, 0, none⟩ = some (.int .i64 0) := B4.at_ 0
    have y1 : W4.cell? ⟨w.heap.size, 1, none⟩ = some (.slice none 0 0) := B4.at_ 1
    rw [← hW4]
    have HU4 := HE.out.other B3.out (by decide) k4
    refine bodyPost_ret (v := .tuple #[.pointer none, evalV 0 (.slice none 0 0), .iface t x]) (by simp [results, Tryz.results10, go_sem, evalV, y0, y1]) rfl ⟨K4, .inl ⟨fun h => H0.out h.1, _, _, _, rfl, H0.out, HU4⟩⟩
theorem face11 : Face11 PM where
  run_ := fun hg st hv hs hd => (run_any11 hg st hv hs hd).mono fun e w' ⟨hK, h⟩ => by
    refine ⟨hK, ?_⟩
    rcases h with ⟨_, ev, k, a, h1, h2, h3⟩ | ⟨h1, h2, t, Z, tv, h3, h4, h5, h6, h7, h8⟩
    · exact .inl ⟨ev, k, a, h1, h2, h3⟩
    · exact .inr ⟨t, Z, tv, h3, h1, h2, h4, fun x hx => .inl (h5 x hx), h6, h7, h8⟩
  good_ := fun hg st hv hs hd h0 h5 => (run_any11 hg st hv hs hd).mono fun e w' ⟨hK, h⟩ => by
    refine ⟨hK, ?_⟩
    rcases h with ⟨h1, _⟩ | ⟨h1, h2, t, Z, tv, h3, h4, h5, h6, h7, h8⟩
    · exact absurd ⟨h0, h5⟩ h1
    · exact ⟨t, Z, tv, h3, h4, fun x hx => .inl (h5 x hx), h6, h7, h8⟩
end Go.Proofs.YthidipigpfcbbaaGreatDoor
