/-
  concordlaw11.EvalAtomic.
-/
import Derived.Test.YthidipigpfcbbaaGreatDoorEvLaw
namespace Go.Proofs.YthidipigpfcbbaaGreatDoor
open Go.RowKit Go.Maps Go.Extern.Stop Go.Stop Go.Extern

theorem atomic_eq {A : M8} {F : Fo} (h1 : endC (runA A F).2.1 ≠ 4) (h2 : endC (runA A (wrap F)).2.1 ≠ 4) :
    (endC (runA A F).2.1 = 2 → endC (runA A (wrap F)).2.1 = 1 ∧ (runA A (wrap F)).1.T = (runA A F).1.T ∧ runS A (wrap F) = A) ∧
    (endC (runA A F).2.1 ≠ 2 → endC (runA A F).2.1 = endC (runA A (wrap F)).2.1 ∧ (runA A F).1.T = (runA A (wrap F)).1.T ∧ runS A F = runS A (wrap F)) := by
  have e1 := endC_4 h1
  have e2 := endC_4 h2
  obtain ⟨q1, q2⟩ := atomic_law F (rs0 A) s13 rfl
  have no1 := plain_no1 F (rs0 A)
  unfold runS
  rw [e1, e2]
  unfold wrap
  rw [q1, q2]
  generalize evU F (rs0 A) = y at *
  refine ⟨fun h => ?_, fun h => ?_⟩
  · have h' : y.2.1 = 2 := by unfold endC at h; split at h <;> omega
    rw [if_pos h', if_pos h']
    exact ⟨rfl, rfl, rfl⟩
  · have h' : y.2.1 ≠ 2 := fun e => h (by rw [e]; rfl)
    rw [if_neg h', if_neg h']
    exact ⟨rfl, rfl, rfl⟩

set_option maxRecDepth 100000 in
set_option maxHeartbeats 4000000 in
theorem evatomic_any {w : World} {a0 : Option Addr} {len0 cap0 : Nat} {K : List Int} {a1 : Option Addr} {len1 cap1 : Nat} {L : List Act8} {vo : Option Addr} {vn vc : Nat} {F : Fo} (hK : IntL w a0 len0 K) (hL : Act8L w a1 len1 cap1 L) (hF : SlOf w (.slice vo vn vc) F) (hg : Glob w) :
    Calls Tryz.prog 3 #[.slice a0 len0 cap0, .slice a1 len1 cap1, .slice vo vn vc] w fun e w' => e = .returned (.bool true) ∧ Keeps (fun _ => False) w w' := by
  have CB := Lib.hid (both_any11 (cap0 := cap0) face hK hL hg)
  have CL := Lib.hid (fun V (k : Keeps (fun _ => False) w V) => alive_any11 (hg.keeps k id))
  have CF := Lib.hid (fun V (k : Keeps (fun _ => False) w V) => few_any (hF.same k))
  have HF := Lib.hid hF
  have HG := Lib.hid hg
  clear hK hL hF hg
  go_enter Tryz.func3, Tryz.ntmps3
  go_wp2_with fail
  refine CB.out.mono ?_
  rintro e w1 hB
  clear CB
  rcases hB with ⟨rfl, hk⟩ | ⟨s, r, A, rfl, hO⟩
  · have CL2 := Lib.hid (CL.out w1 hk)
    have K1 := Lib.hid hk
    clear hk CL CF
    go_wp2_with fail
    refine CL2.out.mono ?_
    rintro e w2 ⟨rfl, hk⟩
    have K2 := Lib.hid (K1.out.trans hk fun _ _ => id)
    clear hk CL2
    go_wp2_with fail
    go_ret
    exact ⟨rfl, K2.out⟩
  obtain ⟨X, hP, hX, hk⟩ := hO
  have P1 := Lib.hid hP
  have K1 := Lib.hid hk
  have CF1 := Lib.hid (CF.out w1 hk)
  clear hP hX hk CF
  go_wp2_with fail
  refine CF1.out.mono ?_
  rintro e w2 ⟨rfl, hk⟩
  have K2 := Lib.hid (K1.out.trans hk fun _ _ => id)
  have P2 := Lib.hid (face.same P1.out hk)
  clear hk CF1
  by_cases hfew : wt F 0 ≤ 250
  rotate_left
  · rw [decide_eq_false hfew]
    have CL2 := Lib.hid (CL.out w2 K2.out)
    clear CL hfew
    go_wp2_with fail
    refine CL2.out.mono ?_
    rintro e w3 ⟨rfl, hk⟩
    have K3 := Lib.hid (K2.out.trans hk fun _ _ => id)
    clear hk CL2
    go_wp2_with fail
    go_ret
    exact ⟨rfl, K3.out⟩
  rw [decide_eq_true hfew]
  have FEW := Lib.hid (few_says hfew)
  clear hfew
  have C1 := Lib.hid (ran_any11 (HG.out.keeps K2.out id) P2.out (HF.out.same K2.out) (by have := FEW.out; omega) (by have := FEW.out; omega))
  go_wp2_with fail
  refine C1.out.mono ?_
  rintro e w3 ⟨hk, t1, k1, o1, n1, c1, ev1, ne1, x1, rfl, hE1, hS1⟩
  obtain ⟨V3, hV3⟩ : ∃ V, V = w3.alloc (.cells #[.int .i64 k1, .slice o1 n1 c1] 32) := ⟨_, rfl⟩
  have kv3 : Keeps (fun _ => False) w3 V3 := by rw [hV3]; exact (Keeps.refl _ w3).alloc _
  have B3 := Lib.hid (show Whole V3 w3.heap.size 32 #[.int .i64 k1, .slice o1 n1 c1] by rw [hV3]; exact Whole.made _ _ _)
  have K3 := Lib.hid (K2.out.trans (hk.trans kv3 fun _ _ => id) fun _ _ => id)
  have P3 := Lib.hid (face.same P2.out (hk.trans kv3 fun _ _ => id))
  have E3 := Lib.hid (hE1.same kv3)
  have S3 : Hid (ne1 = 0 → ∃ tb Z, t1 = some ⟨tb, 0, none⟩ ∧ k1 = endC (runA A F).2.1 ∧ PM V3 tb (runS A F) Z ∧ IRow V3 (.slice o1 n1 c1) (runA A F).1.T ∧ (runA A F).1.T.length ≤ 1000000 ∧ (runA A F).2.1 ≠ 5) := Lib.hid fun h => by
    obtain ⟨tb, Z, q1, q2, q3, q4, q5, q6⟩ := hS1 h
    exact ⟨tb, Z, q1, q2, face.same q3 kv3, ownsRow_keeps q4 kv3 fun _ _ => id, q5, q6⟩
  have HV3 := Lib.hid hV3
  have k4 : Keeps (fun _ => False) V3 (V3.alloc (.cells (stAgg s13 (vo, vn, vc) (none, 0, 0)) 40)) := (Keeps.refl _ V3).alloc _
  have C2 := Lib.hid (ran_any11 (F := wrap F) (v := .slice (some ⟨V3.heap.size, 0, none⟩) 1 1) (HG.out.keeps (K3.out.trans k4 fun _ _ => id) id) (face.same P3.out k4) (sl_lit (Whole.made V3 _ _) ((HF.out.same (K3.out.trans k4 fun _ _ => id)) : SlOf _ (slv (vo, vn, vc)) F) (sl_none _) rfl) (by rw [wrap_size]; have := FEW.out; omega) (by rw [wrap_deep]; have := FEW.out; omega))
  have k4' := Lib.hid k4
  simp only [stAgg, slv, s13] at C2 k4'
  clear hk hE1 hS1 hV3 kv3 k4 C1
  go_upto_region 5 with fail
  rw [← HV3.out]
  clear HV3
  go_wp2_with fail
  refine C2.out.mono ?_
  rintro e w5 ⟨hk, t2, k2, o2, n2, c2, ev2, ne2, x2, rfl, hE2, hS2⟩
  obtain ⟨V5, hV5⟩ : ∃ V, V = w5.alloc (.cells #[.int .i64 k2, .slice o2 n2 c2] 32) := ⟨_, rfl⟩
  have kv5 : Keeps (fun _ => False) w5 V5 := by rw [hV5]; exact (Keeps.refl _ w5).alloc _
  have B5 := Lib.hid (show Whole V5 w5.heap.size 32 #[.int .i64 k2, .slice o2 n2 c2] by rw [hV5]; exact Whole.made _ _ _)
  have k35 := k4'.out.trans (hk.trans kv5 fun _ _ => id) fun _ _ => id
  have K5 := Lib.hid (K3.out.trans k35 fun _ _ => id)
  have P5 := Lib.hid (face.same P3.out k35)
  have E5 := Lib.hid (hE2.same kv5)
  have E35 := Lib.hid (E3.out.same k35)
  have B35 := B3.out.keeps k35 id
  have SA : Hid (ne1 = 0 → ∃ tb Z, t1 = some ⟨tb, 0, none⟩ ∧ k1 = endC (runA A F).2.1 ∧ PM V5 tb (runS A F) Z ∧ IRow V5 (.slice o1 n1 c1) (runA A F).1.T ∧ (runA A F).1.T.length ≤ 1000000 ∧ (runA A F).2.1 ≠ 5) := Lib.hid fun h => by
    obtain ⟨tb, Z, q1, q2, q3, q4, q5, q6⟩ := S3.out h
    exact ⟨tb, Z, q1, q2, face.same q3 k35, ownsRow_keeps q4 k35 fun _ _ => id, q5, q6⟩
  have SB : Hid (ne2 = 0 → ∃ tb Z, t2 = some ⟨tb, 0, none⟩ ∧ k2 = endC (runA A (wrap F)).2.1 ∧ PM V5 tb (runS A (wrap F)) Z ∧ IRow V5 (.slice o2 n2 c2) (runA A (wrap F)).1.T ∧ (runA A (wrap F)).1.T.length ≤ 1000000 ∧ (runA A (wrap F)).2.1 ≠ 5) := Lib.hid fun h => by
    obtain ⟨tb, Z, q1, q2, q3, q4, q5, q6⟩ := hS2 h
    exact ⟨tb, Z, q1, q2, face.same q3 kv5, ownsRow_keeps q4 kv5 fun _ _ => id, q5, q6⟩
  have HV5 := Lib.hid hV5
  have d0 := B35.at_ 0
  have d1 := B35.at_ 1
  have B5o := B5.out
  have d2 := B5o.at_ 0
  have d3 := B5o.at_ 1
  have CN1 := Lib.hid (no_u E35.out)
  have CN2 := Lib.hid (no_u E5.out)
  have CL5 := Lib.hid (fun V (k : Keeps (fun _ => False) V5 V) => CL.out V (K5.out.trans k fun _ _ => id))
  clear hk hE2 hS2 hV5 kv5 k35 B35 B5o C2 S3 B3 E3 P3 P2 P1 CL
  go_upto_region 6 with fail
  rw [← HV5.out]
  clear HV5
  by_cases h1 : ne1 = 0
  rotate_left
  · have b1 : ((ne1 : Int) != 0) = true := by simp; omega
    go_wp2_with fail
    refine CN1.out.mono ?_
    rintro e w' ⟨rfl, rfl⟩
    go_wp2_with fail
    refine (CL5.out _ (Keeps.refl _ _)).mono ?_
    rintro e w6 ⟨rfl, hk⟩
    have K6 := Lib.hid (K5.out.trans hk fun _ _ => id)
    clear hk CL5
    go_wp2_with fail
    go_ret
    exact ⟨rfl, K6.out⟩
  subst h1
  by_cases h2 : ne2 = 0
  rotate_left
  · have b1 : ((ne2 : Int) != 0) = true := by simp; omega
    go_wp2_with fail
    refine CN1.out.mono ?_
    rintro e w' ⟨rfl, rfl⟩
    go_wp2_with fail
    refine CN2.out.mono ?_
    rintro e w' ⟨rfl, rfl⟩
    go_wp2_with fail
    refine (CL5.out _ (Keeps.refl _ _)).mono ?_
    rintro e w6 ⟨rfl, hk⟩
    have K6 := Lib.hid (K5.out.trans hk fun _ _ => id)
    clear hk CL5
    go_wp2_with fail
    go_ret
    exact ⟨rfl, K6.out⟩
  subst h2
  obtain ⟨tb1, Z1, rfl, hk1, hP1, hT1, hf1, -⟩ := SA.out rfl
  obtain ⟨tb2, Z2, rfl, hk2, hP2, hT2, hf2, -⟩ := SB.out rfl
  by_cases h3 : k1 = 4
  · have b1 : (k1 == 4) = true := by simp [h3]
    clear hk1 hk2 hP1 hT1 hP2 hT2 SA SB
    go_wp2_with fail
    refine CN1.out.mono ?_
    rintro e w' ⟨rfl, rfl⟩
    go_wp2_with fail
    refine CN2.out.mono ?_
    rintro e w' ⟨rfl, rfl⟩
    go_wp2_with fail
    refine (CL5.out _ (Keeps.refl _ _)).mono ?_
    rintro e w6 ⟨rfl, hk⟩
    have K6 := Lib.hid (K5.out.trans hk fun _ _ => id)
    clear hk CL5
    go_wp2_with fail
    go_ret
    exact ⟨rfl, K6.out⟩
  have b3 : (k1 == 4) = false := by simpa using h3
  by_cases h4 : k2 = 4
  · have b1 : (k2 == 4) = true := by simp [h4]
    clear hk1 hk2 hP1 hT1 hP2 hT2 SA SB h3
    go_wp2_with fail
    refine CN1.out.mono ?_
    rintro e w' ⟨rfl, rfl⟩
    go_wp2_with fail
    refine CN2.out.mono ?_
    rintro e w' ⟨rfl, rfl⟩
    go_wp2_with fail
    refine (CL5.out _ (Keeps.refl _ _)).mono ?_
    rintro e w6 ⟨rfl, hk⟩
    have K6 := Lib.hid (K5.out.trans hk fun _ _ => id)
    clear hk CL5
    go_wp2_with fail
    go_ret
    exact ⟨rfl, K6.out⟩
  have b4 : (k2 == 4) = false := by simpa using h4
  obtain ⟨q1, q2⟩ := atomic_eq (A := A) (F := F) (by rw [← hk1]; exact h3) (by rw [← hk2]; exact h4)
  by_cases h5 : k1 = 2
  · obtain ⟨e1, e2, e3⟩ := q1 (by rw [← hk1]; exact h5)
    have b5 : (k1 == 2) = true := by simp [h5]
    have CS := Lib.hid (eval_yes (k := k2) (l := 1) hT2 hT1 hf2 (by rw [hk2, e1]) e2)
    have CM := Lib.hid (fun V (k : Keeps (fun _ => False) V5 V) => same_yes (face.same hP2 k) (face.same P5.out k) e3)
    clear hk1 hk2 hP1 hT1 hP2 hT2 SA SB h3 h4 h5 q1 q2 e1 e2 e3 hf1 hf2
    go_wp2_with fail
    refine CN1.out.mono ?_
    rintro e w' ⟨rfl, rfl⟩
    go_wp2_with fail
    refine CN2.out.mono ?_
    rintro e w' ⟨rfl, rfl⟩
    go_wp2_with fail
    refine CS.out.mono ?_
    rintro e w6 ⟨rfl, hk⟩
    have CM6 := Lib.hid (CM.out _ hk)
    have K6 := Lib.hid hk
    clear hk CS CM
    go_wp2_with fail
    refine CM6.out.mono ?_
    rintro e w7 ⟨rfl, hk⟩
    have K7 := Lib.hid (K6.out.trans hk fun _ _ => id)
    clear hk CM6
    go_wp2_with fail
    refine (CL5.out _ K7.out).mono ?_
    rintro e w8 ⟨rfl, hk⟩
    have K8 := Lib.hid (K5.out.trans (K7.out.trans hk fun _ _ => id) fun _ _ => id)
    clear hk CL5
    go_wp2_with fail
    go_ret
    exact ⟨rfl, K8.out⟩
  · obtain ⟨e1, e2, e3⟩ := q2 (by rw [← hk1]; exact h5)
    have b5 : (k1 == 2) = false := by simpa using h5
    have CS := Lib.hid (eval_yes (k := k1) (l := k2) hT1 hT2 hf1 (by rw [hk1, hk2, e1]) e2)
    have CM := Lib.hid (fun V (k : Keeps (fun _ => False) V5 V) => same_yes (face.same hP1 k) (face.same hP2 k) e3)
    clear hk1 hk2 hP1 hT1 hP2 hT2 SA SB h3 h4 h5 q1 q2 e1 e2 e3 hf1 hf2
    go_wp2_with fail
    refine CN1.out.mono ?_
    rintro e w' ⟨rfl, rfl⟩
    go_wp2_with fail
    refine CN2.out.mono ?_
    rintro e w' ⟨rfl, rfl⟩
    go_wp2_with fail
    refine CS.out.mono ?_
    rintro e w6 ⟨rfl, hk⟩
    have CM6 := Lib.hid (CM.out _ hk)
    have K6 := Lib.hid hk
    clear hk CS CM
    go_wp2_with fail
    refine CM6.out.mono ?_
    rintro e w7 ⟨rfl, hk⟩
    have K7 := Lib.hid (K6.out.trans hk fun _ _ => id)
    clear hk CM6
    go_wp2_with fail
    refine (CL5.out _ K7.out).mono ?_
    rintro e w8 ⟨rfl, hk⟩
    have K8 := Lib.hid (K5.out.trans (K7.out.trans hk fun _ _ => id) fun _ _ => id)
    clear hk CL5
    go_wp2_with fail
    go_ret
    exact ⟨rfl, K8.out⟩
end Go.Proofs.YthidipigpfcbbaaGreatDoor
