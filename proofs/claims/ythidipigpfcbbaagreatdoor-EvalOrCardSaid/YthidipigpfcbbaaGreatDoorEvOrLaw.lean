/-
  concordlaw11.EvalOr.
-/
import Derived.Test.YthidipigpfcbbaaGreatDoorEvLaw
import Derived.Test.YthidipigpfcbbaaGreatDoorPgBoth
import Derived.Test.YthidipigpfcbbaaGreatDoorRkArg
import Derived.LoopTactic
namespace Go.Proofs.YthidipigpfcbbaaGreatDoor
open Go.RowKit Go.Maps Go.Extern.Stop Go.Stop Go.Extern

theorem errU_le {B : Nat} {w : World} {v : Value} {k : Nat} {a : Int} (h : ErrU B w v k a) : k ≤ 17 := by
  rcases h with ⟨h, _⟩ | ⟨_, h, _⟩ | ⟨_, h, _⟩ <;> omega
def orF (F G : Fo) : Fo := .cons sOr F G .nil
def retF (F : Fo) : Fo := F.app (.cons sRetry .nil .nil .nil)
/-- How statements end. -/
theorem plain_in (s : St7) (r : RS) : (plainS s r).2 = 0 ∨ (plainS s r).2 = 2 ∨ (plainS s r).2 = 3 ∨ (plainS s r).2 = 5 := by
  unfold plainS
  repeat' split
  all_goals first
    | exact .inl rfl
    | exact .inr (.inl rfl)
    | exact .inr (.inr (.inl rfl))
    | (rcases ask_end s r with h | h <;> simp [h])
theorem end_in : ∀ (F : Fo) (r : RS), (evU F r).2.1 = 0 ∨ (evU F r).2.1 = 2 ∨ (evU F r).2.1 = 3 ∨ (evU F r).2.1 = 5
  | .nil => fun r => .inl rfl
  | .cons s B E F => fun r => by
    have ht : ∀ m r, (timesU (evU B) m r).2.1 = 0 ∨ (timesU (evU B) m r).2.1 = 2 ∨ (timesU (evU B) m r).2.1 = 3 ∨ (timesU (evU B) m r).2.1 = 5 := fun m => by
      induction m with
      | zero => intro r; exact .inl rfl
      | succ m ih =>
        intro r
        simp only [timesU]
        split
        · exact ih _
        · exact end_in B r
    have hS : ∀ r, (stU s (evU B) (evU E) r).2.1 = 0 ∨ (stU s (evU B) (evU E) r).2.1 = 2 ∨ (stU s (evU B) (evU E) r).2.1 = 3 ∨ (stU s (evU B) (evU E) r).2.1 = 5 := fun r => by
      unfold stU
      split
      · split
        · exact end_in B r
        · exact end_in E r
      · split
        · exact ht _ r
        · split
          · split
            · exact .inl rfl
            · exact end_in B r
          · split
            · split
              · exact end_in E r
              · exact end_in B r
            · exact plain_in s r
    simp only [evU]
    split
    · exact end_in F _
    · exact hS r
theorem or_eq {A : M8} {F G : Fo} (h1 : endC (runA A F).2.1 ≠ 4) (h2 : endC (runA A G).2.1 ≠ 4) (h3 : endC (runA A (orF (retF F) G)).2.1 ≠ 4) (h4 : endC (runA A (orF F G)).2.1 ≠ 4) (hp : (runA A F).2.1 ≠ 5) :
    (endC (runA A F).2.1 = 2 → endC (runA A (orF (retF F) G)).2.1 = 2 ∧ endC (runA A (orF F G)).2.1 = 2) ∧
    (endC (runA A F).2.1 ≠ 2 → endC (runA A (orF (retF F) G)).2.1 = endC (runA A G).2.1 ∧ (runA A (orF (retF F) G)).1.T = (runA A G).1.T ∧ runS A (orF (retF F) G) = runS A G ∧
      (endC (runA A F).2.1 = 3 → endC (runA A (orF F G)).2.1 = endC (runA A G).2.1 ∧ (runA A (orF F G)).1.T = (runA A G).1.T ∧ runS A (orF F G) = runS A G) ∧
      (endC (runA A F).2.1 ≠ 3 → endC (runA A (orF F G)).2.1 = endC (runA A F).2.1 ∧ (runA A (orF F G)).1.T = (runA A F).1.T ∧ runS A (orF F G) = runS A F)) := by
  have e1 := endC_4 h1
  have e2 := endC_4 h2
  have e3 := endC_4 h3
  have e4 := endC_4 h4
  obtain ⟨q1, q2⟩ := or_law (retF F) G (rs0 A) sOr rfl
  obtain ⟨q3, q4⟩ := or_law F G (rs0 A) sOr rfl
  have q5 := retry_law F (rs0 A) sRetry rfl
  have no1 := plain_no1 F (rs0 A)
  have no4 := ev_end F (rs0 A)
  rw [e1] at hp
  unfold runS
  rw [e1, e2, e3, e4]
  unfold orF
  rw [q1, q2, q3, q4]
  have q5' : (evU (retF F) (rs0 A)).2.1 = (if (evU F (rs0 A)).2.1 = 0 then 3 else (evU F (rs0 A)).2.1) := q5
  have hcase : (evU F (rs0 A)).2.1 ≠ 0 → (evU (retF F) (rs0 A)).2.1 = (evU F (rs0 A)).2.1 := fun h => by rw [q5', if_neg h]
  have ends := end_in F (rs0 A)
  generalize evU G (rs0 A) = z at *
  generalize evU F (rs0 A) = y at *
  generalize evU (retF F) (rs0 A) = x at *
  refine ⟨fun h => ?_, fun h => ?_⟩
  · have h' : y.2.1 = 2 := by unfold endC at h; split at h <;> omega
    have hx : x.2.1 = 2 := by rw [q5', h']; rfl
    rw [if_neg (by omega), if_neg (by omega), hx, h']
    exact ⟨rfl, rfl⟩
  · have h' : y.2.1 ≠ 2 := fun e => h (by rw [e]; rfl)
    have hx : x.2.1 = 3 := by
      rw [q5']
      split
      · rfl
      · omega
    rw [if_pos hx, if_pos hx]
    refine ⟨rfl, rfl, rfl, fun g => ?_, fun g => ?_⟩
    · have h3 : y.2.1 = 3 := by unfold endC at g; split at g <;> omega
      rw [if_pos h3, if_pos h3]
      exact ⟨rfl, rfl, rfl⟩
    · have h3 : y.2.1 ≠ 3 := fun e => g (by rw [e]; rfl)
      rw [if_neg h3, if_neg h3]
      exact ⟨rfl, rfl, rfl⟩

/-- What Run answered, at a later world. -/
def Ran2 (V : World) (A : M8) (F : Fo) (t : Option Addr) (k : Int) (o : Option Addr) (n c : Nat) : Prop := ∃ tb Z, t = some ⟨tb, 0, none⟩ ∧ k = endC (runA A F).2.1 ∧ PM V tb (runS A F) Z ∧ IRow V (.slice o n c) (runA A F).1.T ∧ (runA A F).1.T.length ≤ 1000000 ∧ (runA A F).2.1 ≠ 5
theorem Ran2.same {V W : World} {A : M8} {F : Fo} {t : Option Addr} {k : Int} {o : Option Addr} {n c : Nat} (h : Ran2 V A F t k o n c) (kk : Keeps (fun _ => False) V W) : Ran2 W A F t k o n c := by
  obtain ⟨tb, Z, q1, q2, q3, q4, q5, q6⟩ := h
  exact ⟨tb, Z, q1, q2, face.same q3 kk, ownsRow_keeps q4 kk fun _ _ => id, q5, q6⟩
/-- A retry in a row of its own. -/
theorem ret_cells {w : World} {b : Nat} (h : Whole w b 40 (stAgg sRetry (none, 0, 0) (none, 0, 0))) : ∀ j u, (stK.cs [(sRetry, (none, 0, 0), (none, 0, 0))])[j]? = some u → w.cell? ((⟨b, 0, none⟩ : Addr).add j) = some u := by
  intro j u hj
  rw [add_plain _ rfl, Nat.zero_add]
  refine (h.at_ j).trans ?_
  have e : stK.cs [(sRetry, (none, 0, 0), (none, 0, 0))] = (stAgg sRetry (none, 0, 0) (none, 0, 0)).toList := rfl
  rw [e] at hj
  simpa using hj
theorem ret_at (w : World) : StsAt w [(sRetry, (none, 0, 0), (none, 0, 0))] (Fo.cons sRetry .nil .nil .nil).items :=
  ⟨rfl, fun i x y hx hy => by
    match i, hx, hy with
    | 0, hx, hy =>
      cases hx
      cases hy
      exact ⟨rfl, sl_none _, sl_none _, rfl⟩
    | i + 1, hx, _ => simp at hx⟩

set_option maxRecDepth 100000 in
set_option maxHeartbeats 8000000 in
theorem evor_any {w : World} {a0 : Option Addr} {len0 cap0 : Nat} {K : List Int} {a1 : Option Addr} {len1 cap1 : Nat} {L : List Act8} {vo : Option Addr} {vn vc : Nat} {F : Fo} {uo : Option Addr} {un uc : Nat} {G : Fo} (hK : IntL w a0 len0 K) (hL : Act8L w a1 len1 cap1 L) (hF : SlOf w (.slice vo vn vc) F) (hG : SlOf w (.slice uo un uc) G) (hg : Glob w) :
    Calls Tryz.prog 4 #[.slice a0 len0 cap0, .slice a1 len1 cap1, .slice vo vn vc, .slice uo un uc] w fun e w' => e = .returned (.bool true) ∧ Keeps (fun _ => False) w w' := by
  have CB := Lib.hid (both_any11 (cap0 := cap0) face hK hL hg)
  have CL := Lib.hid (fun V (k : Keeps (fun _ => False) w V) => alive_any11 (hg.keeps k id))
  have CF := Lib.hid (fun V (k : Keeps (fun _ => False) w V) => few_any (hF.same k))
  have CG := Lib.hid (fun V (k : Keeps (fun _ => False) w V) => few_any (hG.same k))
  have HF := Lib.hid hF
  have HG' := Lib.hid hG
  have HG := Lib.hid hg
  clear hK hL hF hG hg
  go_enter Tryz.func4, Tryz.ntmps4
  go_wp2_with fail
  refine CB.out.mono ?_
  rintro e w1 hB
  clear CB
  rcases hB with ⟨rfl, hk⟩ | ⟨s, r, A, rfl, hO⟩
  · have CL2 := Lib.hid (CL.out w1 hk)
    have K1 := Lib.hid hk
    clear hk CL CF
    go_wp2_with fail
    refine CL2.out.mono ?_
    rintro e w2 ⟨rfl, hk⟩
    have K2 := Lib.hid (K1.out.trans hk fun _ _ => id)
    clear hk CL2
    go_wp2_with fail
    go_ret
    exact ⟨rfl, K2.out⟩
  obtain ⟨X, hP, hX, hk⟩ := hO
  have P1 := Lib.hid hP
  have K1 := Lib.hid hk
  have CF1 := Lib.hid (CF.out w1 hk)
  clear hP hX hk CF
  go_wp2_with fail
  refine CF1.out.mono ?_
  rintro e w2 ⟨rfl, hk⟩
  have K2 := Lib.hid (K1.out.trans hk fun _ _ => id)
  have P2 := Lib.hid (face.same P1.out hk)
  clear hk CF1
  by_cases hfew : wt F 0 ≤ 250
  rotate_left
  · rw [decide_eq_false hfew]
    have CL2 := Lib.hid (CL.out w2 K2.out)
    clear CL hfew
    go_wp2_with fail
    refine CL2.out.mono ?_
    rintro e w3 ⟨rfl, hk⟩
    have K3 := Lib.hid (K2.out.trans hk fun _ _ => id)
    clear hk CL2
    go_wp2_with fail
    go_ret
    exact ⟨rfl, K3.out⟩
  rw [decide_eq_true hfew]
  have FEWF := Lib.hid (few_says hfew)
  have CG2 := Lib.hid (CG.out w2 K2.out)
  clear hfew CG
  go_wp2_with fail
  refine CG2.out.mono ?_
  rintro e w2' ⟨rfl, hk⟩
  have K2' := Lib.hid (K2.out.trans hk fun _ _ => id)
  have P2' := Lib.hid (face.same P2.out hk)
  clear hk CG2 K2 P2
  have K2 := K2'
  have P2 := P2'
  clear K2' P2'
  by_cases hfew : wt G 0 ≤ 250
  rotate_left
  · rw [decide_eq_false hfew]
    have CL2 := Lib.hid (CL.out w2' K2.out)
    clear CL hfew
    go_wp2_with fail
    refine CL2.out.mono ?_
    rintro e w3 ⟨rfl, hk⟩
    have K3 := Lib.hid (K2.out.trans hk fun _ _ => id)
    clear hk CL2
    go_wp2_with fail
    go_ret
    exact ⟨rfl, K3.out⟩
  rw [decide_eq_true hfew]
  have FEWG := Lib.hid (few_says hfew)
  clear hfew
  have C3 := Lib.hid (ran_any11 (HG.out.keeps K2.out id) P2.out (HF.out.same K2.out) (by have := FEWF.out; omega) (by have := FEWF.out; omega))
  go_wp2_with fail
  refine C3.out.mono ?_
  rintro e w3 ⟨hk0, t3, k3, o3, n3, c3, ev3, ne3, x3, rfl, hE3, hS3⟩
  have hk := hk0
  obtain ⟨V3, hV3⟩ : ∃ V, V = w3.alloc (.cells #[.int .i64 k3, .slice o3 n3 c3] 32) := ⟨_, rfl⟩
  have kv : Keeps (fun _ => False) w3 V3 := by rw [hV3]; exact (Keeps.refl _ w3).alloc _
  have kk := hk.trans kv fun _ _ => id
  have B3 := Lib.hid (show Whole V3 w3.heap.size 32 #[.int .i64 k3, .slice o3 n3 c3] by rw [hV3]; exact Whole.made _ _ _)
  have K3 := Lib.hid (K2.out.trans kk fun _ _ => id)
  have P3 := Lib.hid (face.same P2.out kk)
  have E3 := Lib.hid (hE3.same kv)
  have S3 : Hid (ne3 = 0 → Ran2 V3 A (F) t3 k3 o3 n3 c3) := Lib.hid fun h => Ran2.same (hS3 h) kv
  have HV3 := Lib.hid hV3
  clear hk hk0 hE3 hS3 hV3 kv kk C3 P2 P1
  go_upto_region 5 with fail
  rw [← HV3.out]
  clear HV3
  have C4 := Lib.hid (ran_any11 (HG.out.keeps K3.out id) P3.out (HG'.out.same K3.out) (by have := FEWG.out; omega) (by have := FEWG.out; omega))
  go_wp2_with fail
  refine C4.out.mono ?_
  rintro e w4 ⟨hk0, t4, k4, o4, n4, c4, ev4, ne4, x4, rfl, hE4, hS4⟩
  have hk := hk0
  obtain ⟨V4, hV4⟩ : ∃ V, V = w4.alloc (.cells #[.int .i64 k4, .slice o4 n4 c4] 32) := ⟨_, rfl⟩
  have kv : Keeps (fun _ => False) w4 V4 := by rw [hV4]; exact (Keeps.refl _ w4).alloc _
  have kk := hk.trans kv fun _ _ => id
  have B4 := Lib.hid (show Whole V4 w4.heap.size 32 #[.int .i64 k4, .slice o4 n4 c4] by rw [hV4]; exact Whole.made _ _ _)
  have K4 := Lib.hid (K3.out.trans kk fun _ _ => id)
  have P4 := Lib.hid (face.same P3.out kk)
  have E4 := Lib.hid (hE4.same kv)
  have S4 : Hid (ne4 = 0 → Ran2 V4 A (G) t4 k4 o4 n4 c4) := Lib.hid fun h => Ran2.same (hS4 h) kv
  have B3' := Lib.hid (B3.out.keeps kk id)
  have E3' := Lib.hid (E3.out.same kk)
  have S3' : Hid (ne3 = 0 → Ran2 V4 A (F) t3 k3 o3 n3 c3) := Lib.hid fun h => (S3.out h).same kk
  have HV4 := Lib.hid hV4
  clear hk hk0 hE4 hS4 hV4 kv kk C4 P3
  clear B3 E3 S3
  have B3 := B3'
  have E3 := E3'
  have S3 := S3'
  clear B3' E3' S3'
  go_upto_region 6 with fail
  rw [← HV4.out]
  clear HV4
  obtain ⟨ps, SP, p1, pF, p0, pc⟩ := (HF.out.same K4.out).sts
  have hlen := Fo.len_le_size F
  have vn2 : vn ≤ 250 := by have := FEWF.out; omega
  have SP := Lib.hid SP
  have PC := Lib.hid pc
  have P0 := Lib.hid p0
  have PL := Lib.hid p1
  clear pc p0 p1 pF hlen
  have M0 : Hid (Mine stK V4 (V4.alloc (.cells #[] 40)) (.slice (some ⟨V4.heap.size, 0, none⟩) 0 0) []) := Lib.hid ⟨row_none stK (Whole.made V4 _ _) rfl, fun g hg => by simp [Value.ownBlock] at hg; omega⟩
  have kM : Hid (Keeps (fun _ => False) V4 (V4.alloc (.cells #[] 40))) := Lib.hid ((Keeps.refl _ V4).alloc _)
  go_wp2_with (first
    | (at_builtin; refine wpList_append_arg stK rfl _ _ rfl V4 (.slice (some ⟨V4.heap.size, 0, none⟩) 0 0) [] ps rfl M0.out kM.out vo vn vc rfl PL.out (fun ad ha j y hy => by have := PC.out ad ha j y hy; exact (kM.out.cell (cell_lt this) id).trans this) P0.out vn (by rw [List.length_nil, Nat.zero_add]) (by omega) ?_; intro ao ac w5a hM hk _; have M1 := Lib.hid hM; have kM1 := Lib.hid hk; have kR : Hid (Keeps (fun _ => False) V4 (w5a.alloc (.cells (stAgg sRetry (none, 0, 0) (none, 0, 0)) 40))) := Lib.hid (hk.alloc _); have M1r : Hid (Mine stK V4 (w5a.alloc (.cells (stAgg sRetry (none, 0, 0) (none, 0, 0)) 40)) (.slice ao vn ac) ([] ++ ps)) := Lib.hid (hM.same ((Keeps.refl _ _).alloc _)); have RC := Lib.hid (ret_cells (Whole.made w5a 40 (stAgg sRetry (none, 0, 0) (none, 0, 0)))); clear hM hk)
    | (at_builtin; refine wpList_append_arg stK rfl _ _ rfl V4 (.slice ao vn ac) ([] ++ ps) [(sRetry, (none, 0, 0), (none, 0, 0))] rfl M1r.out kR.out (some ⟨w5a.heap.size, 0, none⟩) 1 1 rfl rfl (fun ad ha j y hy => by injection ha with ha; subst ha; exact RC.out j y hy) (fun e => by cases e) (vn + 1) (by rw [List.nil_append, PL.out]) (by omega) ?_; intro ao2 ac2 w5b hM hk _; have M2 := Lib.hid hM; have kM2 := Lib.hid hk; clear hM hk))
  have SLF : Hid (SlOf w5b (.slice ao2 (vn + 1) ac2) (retF F)) := Lib.hid (by
    unfold retF
    rw [← app_items]
    exact sl_row M2.out ((SP.out.same kM2.out).app (ret_at w5b)) (by rw [List.nil_append, List.length_append, PL.out]; rfl) (by omega))
  have K5b := Lib.hid (K4.out.trans kM2.out fun _ _ => id)
  have k5 : Keeps (fun _ => False) w5b (w5b.alloc (.cells (stAgg sOr (ao2, vn + 1, ac2) (uo, un, uc)) 40)) := (Keeps.refl _ w5b).alloc _
  have k45 := kM2.out.trans k5 fun _ _ => id
  have C5 := Lib.hid (ran_any11 (F := orF (retF F) G) (v := .slice (some ⟨w5b.heap.size, 0, none⟩) 1 1) (HG.out.keeps (K4.out.trans k45 fun _ _ => id) id) (face.same P4.out k45) (sl_lit (Whole.made w5b _ _) (SLF.out.same k5 : SlOf _ (slv (ao2, vn + 1, ac2)) (retF F)) (HG'.out.same (K4.out.trans k45 fun _ _ => id) : SlOf _ (slv (uo, un, uc)) G) rfl) (by have := FEWF.out; have := FEWG.out; simp only [orF, retF, Fo.size, Fo.size_app]; omega) (by have := FEWF.out; have := FEWG.out; simp only [orF, retF, Fo.deep, Fo.deep_app]; omega))
  have k45' := Lib.hid k45
  simp only [stAgg, slv, sOr] at C5 k45'
  clear k5 k45 SP PC P0 PL M0 kM M1 kM1 kR M1r RC M2 kM2 SLF K5b
  go_wp2_with fail
  refine C5.out.mono ?_
  rintro e w5 ⟨hk0, t5, k5, o5, n5, c5, ev5, ne5, x5, rfl, hE5, hS5⟩
  have hk := k45'.out.trans hk0 fun _ _ => id
  obtain ⟨V5, hV5⟩ : ∃ V, V = w5.alloc (.cells #[.int .i64 k5, .slice o5 n5 c5] 32) := ⟨_, rfl⟩
  have kv : Keeps (fun _ => False) w5 V5 := by rw [hV5]; exact (Keeps.refl _ w5).alloc _
  have kk := hk.trans kv fun _ _ => id
  have B5 := Lib.hid (show Whole V5 w5.heap.size 32 #[.int .i64 k5, .slice o5 n5 c5] by rw [hV5]; exact Whole.made _ _ _)
  have K5 := Lib.hid (K4.out.trans kk fun _ _ => id)
  have P5 := Lib.hid (face.same P4.out kk)
  have E5 := Lib.hid (hE5.same kv)
  have S5 : Hid (ne5 = 0 → Ran2 V5 A (orF (retF F) G) t5 k5 o5 n5 c5) := Lib.hid fun h => Ran2.same (hS5 h) kv
  have B3' := Lib.hid (B3.out.keeps kk id)
  have E3' := Lib.hid (E3.out.same kk)
  have S3' : Hid (ne3 = 0 → Ran2 V5 A (F) t3 k3 o3 n3 c3) := Lib.hid fun h => (S3.out h).same kk
  have B4' := Lib.hid (B4.out.keeps kk id)
  have E4' := Lib.hid (E4.out.same kk)
  have S4' : Hid (ne4 = 0 → Ran2 V5 A (G) t4 k4 o4 n4 c4) := Lib.hid fun h => (S4.out h).same kk
  have HV5 := Lib.hid hV5
  clear hk hk0 hE5 hS5 hV5 kv kk C5 P4 k45'
  clear B3 E3 S3
  clear B4 E4 S4
  have B3 := B3'
  have E3 := E3'
  have S3 := S3'
  clear B3' E3' S3'
  have B4 := B4'
  have E4 := E4'
  have S4 := S4'
  clear B4' E4' S4'
  go_upto_region 8 with fail
  rw [← HV5.out]
  clear HV5
  have k6 : Keeps (fun _ => False) V5 (V5.alloc (.cells (stAgg sOr (vo, vn, vc) (uo, un, uc)) 40)) := (Keeps.refl _ V5).alloc _
  have C6 := Lib.hid (ran_any11 (F := orF F G) (v := .slice (some ⟨V5.heap.size, 0, none⟩) 1 1) (HG.out.keeps (K5.out.trans k6 fun _ _ => id) id) (face.same P5.out k6) (sl_lit (Whole.made V5 _ _) (HF.out.same (K5.out.trans k6 fun _ _ => id) : SlOf _ (slv (vo, vn, vc)) F) (HG'.out.same (K5.out.trans k6 fun _ _ => id) : SlOf _ (slv (uo, un, uc)) G) rfl) (by have := FEWF.out; have := FEWG.out; simp only [orF, Fo.size]; omega) (by have := FEWF.out; have := FEWG.out; simp only [orF, Fo.deep]; omega))
  have k6' := Lib.hid k6
  simp only [stAgg, slv, sOr] at C6 k6'
  clear k6
  go_wp2_with fail
  refine C6.out.mono ?_
  rintro e w6 ⟨hk0, t6, k6, o6, n6, c6, ev6, ne6, x6, rfl, hE6, hS6⟩
  have hk := k6'.out.trans hk0 fun _ _ => id
  obtain ⟨V6, hV6⟩ : ∃ V, V = w6.alloc (.cells #[.int .i64 k6, .slice o6 n6 c6] 32) := ⟨_, rfl⟩
  have kv : Keeps (fun _ => False) w6 V6 := by rw [hV6]; exact (Keeps.refl _ w6).alloc _
  have kk := hk.trans kv fun _ _ => id
  have B6 := Lib.hid (show Whole V6 w6.heap.size 32 #[.int .i64 k6, .slice o6 n6 c6] by rw [hV6]; exact Whole.made _ _ _)
  have K6 := Lib.hid (K5.out.trans kk fun _ _ => id)
  have P6 := Lib.hid (face.same P5.out kk)
  have E6 := Lib.hid (hE6.same kv)
  have S6 : Hid (ne6 = 0 → Ran2 V6 A (orF F G) t6 k6 o6 n6 c6) := Lib.hid fun h => Ran2.same (hS6 h) kv
  have B3' := Lib.hid (B3.out.keeps kk id)
  have E3' := Lib.hid (E3.out.same kk)
  have S3' : Hid (ne3 = 0 → Ran2 V6 A (F) t3 k3 o3 n3 c3) := Lib.hid fun h => (S3.out h).same kk
  have B4' := Lib.hid (B4.out.keeps kk id)
  have E4' := Lib.hid (E4.out.same kk)
  have S4' : Hid (ne4 = 0 → Ran2 V6 A (G) t4 k4 o4 n4 c4) := Lib.hid fun h => (S4.out h).same kk
  have B5' := Lib.hid (B5.out.keeps kk id)
  have E5' := Lib.hid (E5.out.same kk)
  have S5' : Hid (ne5 = 0 → Ran2 V6 A (orF (retF F) G) t5 k5 o5 n5 c5) := Lib.hid fun h => (S5.out h).same kk
  have HV6 := Lib.hid hV6
  clear hk hk0 hE6 hS6 hV6 kv kk C6 P5 k6'
  clear B3 E3 S3
  clear B4 E4 S4
  clear B5 E5 S5
  have B3 := B3'
  have E3 := E3'
  have S3 := S3'
  clear B3' E3' S3'
  have B4 := B4'
  have E4 := E4'
  have S4 := S4'
  clear B4' E4' S4'
  have B5 := B5'
  have E5 := E5'
  have S5 := S5'
  clear B5' E5' S5'
  go_upto_region 9 with fail
  rw [← HV6.out]
  clear HV6
  have B3o := B3.out
  have B4o := B4.out
  have B5o := B5.out
  have B6o := B6.out
  have d30 := B3o.at_ 0
  have d31 := B3o.at_ 1
  have d40 := B4o.at_ 0
  have d41 := B4o.at_ 1
  have d50 := B5o.at_ 0
  have d51 := B5o.at_ 1
  have d60 := B6o.at_ 0
  have d61 := B6o.at_ 1
  have CN3 := Lib.hid (no_u E3.out)
  have CN4 := Lib.hid (no_u E4.out)
  have CN5 := Lib.hid (no_u E5.out)
  have CN6 := Lib.hid (no_u E6.out)
  have CL6 := Lib.hid (fun V (k : Keeps (fun _ => False) V6 V) => CL.out V (K6.out.trans k fun _ _ => id))
  have NE : Hid (ne3 ≤ 17 ∧ ne4 ≤ 17 ∧ ne5 ≤ 17 ∧ ne6 ≤ 17) := Lib.hid ⟨errU_le E3.out, errU_le E4.out, errU_le E5.out, errU_le E6.out⟩
  have HB3 := B3
  have HB4 := B4
  have HB6 := B6
  clear B3o B4o B5o B6o B3 B4 B5 B6 E3 E4 E5 E6 CL P6 K3 K4 K5
  by_cases h0 : ne3 = 0 ∧ ne4 = 0 ∧ ne5 = 0 ∧ ne6 = 0
  rotate_left
  · have b1 : ((ne3 : Int) + (ne4 : Int) + (ne5 : Int) + (ne6 : Int) != 0) = true := by have := NE.out; simp; omega
    have l3 : (ne3 : Int) ≤ 17 := by have := NE.out; omega
    have l4 : (ne4 : Int) ≤ 17 := by have := NE.out; omega
    have l5 : (ne5 : Int) ≤ 17 := by have := NE.out; omega
    have l6 : (ne6 : Int) ≤ 17 := by have := NE.out; omega
    clear S3 S4 S5 S6 h0
    go_wp2_with fail
    refine CN3.out.mono ?_
    rintro e w' ⟨rfl, rfl⟩
    go_wp2_with fail
    refine CN4.out.mono ?_
    rintro e w' ⟨rfl, rfl⟩
    go_wp2_with fail
    refine CN5.out.mono ?_
    rintro e w' ⟨rfl, rfl⟩
    go_wp2_with fail
    refine CN6.out.mono ?_
    rintro e w' ⟨rfl, rfl⟩
    go_wp2_with fail
    refine (CL6.out _ (Keeps.refl _ _)).mono ?_
    rintro e w8 ⟨rfl, hk⟩
    have K8 := Lib.hid (K6.out.trans hk fun _ _ => id)
    clear hk CL6
    go_wp2_with fail
    go_ret
    exact ⟨rfl, K8.out⟩
  obtain ⟨rfl, rfl, rfl, rfl⟩ := h0
  obtain ⟨tb3, Z3, rfl, hk3, hP3, hT3, hf3, hn5⟩ := S3.out rfl
  obtain ⟨tb4, Z4, rfl, hk4, hP4, hT4, hf4, -⟩ := S4.out rfl
  obtain ⟨tb5, Z5, rfl, hk5, hP5, hT5, hf5, -⟩ := S5.out rfl
  obtain ⟨tb6, Z6, rfl, hk6, hP6, hT6, hf6, -⟩ := S6.out rfl
  clear S3 S4 S5 S6
  by_cases g3 : k3 = 4
  · have b1 : (k3 == 4) = true := by simp [g3]
    clear hk3 hk4 hk5 hk6 hP3 hP4 hP5 hP6 hT3 hT4 hT5 hT6 
    go_wp2_with fail
    refine CN3.out.mono ?_
    rintro e w' ⟨rfl, rfl⟩
    go_wp2_with fail
    refine CN4.out.mono ?_
    rintro e w' ⟨rfl, rfl⟩
    go_wp2_with fail
    refine CN5.out.mono ?_
    rintro e w' ⟨rfl, rfl⟩
    go_wp2_with fail
    refine CN6.out.mono ?_
    rintro e w' ⟨rfl, rfl⟩
    go_wp2_with fail
    refine (CL6.out _ (Keeps.refl _ _)).mono ?_
    rintro e w8 ⟨rfl, hk⟩
    have K8 := Lib.hid (K6.out.trans hk fun _ _ => id)
    clear hk CL6
    go_wp2_with fail
    go_ret
    exact ⟨rfl, K8.out⟩
  have c34 : (k3 == 4) = false := by simpa using g3
  by_cases g4 : k4 = 4
  · have b1 : (k4 == 4) = true := by simp [g4]
    clear hk3 hk4 hk5 hk6 hP3 hP4 hP5 hP6 hT3 hT4 hT5 hT6 g3 
    go_wp2_with fail
    refine CN3.out.mono ?_
    rintro e w' ⟨rfl, rfl⟩
    go_wp2_with fail
    refine CN4.out.mono ?_
    rintro e w' ⟨rfl, rfl⟩
    go_wp2_with fail
    refine CN5.out.mono ?_
    rintro e w' ⟨rfl, rfl⟩
    go_wp2_with fail
    refine CN6.out.mono ?_
    rintro e w' ⟨rfl, rfl⟩
    go_wp2_with fail
    refine (CL6.out _ (Keeps.refl _ _)).mono ?_
    rintro e w8 ⟨rfl, hk⟩
    have K8 := Lib.hid (K6.out.trans hk fun _ _ => id)
    clear hk CL6
    go_wp2_with fail
    go_ret
    exact ⟨rfl, K8.out⟩
  have c44 : (k4 == 4) = false := by simpa using g4
  by_cases g5 : k5 = 4
  · have b1 : (k5 == 4) = true := by simp [g5]
    clear hk3 hk4 hk5 hk6 hP3 hP4 hP5 hP6 hT3 hT4 hT5 hT6 g3 g4 
    go_wp2_with fail
    refine CN3.out.mono ?_
    rintro e w' ⟨rfl, rfl⟩
    go_wp2_with fail
    refine CN4.out.mono ?_
    rintro e w' ⟨rfl, rfl⟩
    go_wp2_with fail
    refine CN5.out.mono ?_
    rintro e w' ⟨rfl, rfl⟩
    go_wp2_with fail
    refine CN6.out.mono ?_
    rintro e w' ⟨rfl, rfl⟩
    go_wp2_with fail
    refine (CL6.out _ (Keeps.refl _ _)).mono ?_
    rintro e w8 ⟨rfl, hk⟩
    have K8 := Lib.hid (K6.out.trans hk fun _ _ => id)
    clear hk CL6
    go_wp2_with fail
    go_ret
    exact ⟨rfl, K8.out⟩
  have c54 : (k5 == 4) = false := by simpa using g5
  by_cases g6 : k6 = 4
  · have b1 : (k6 == 4) = true := by simp [g6]
    clear hk3 hk4 hk5 hk6 hP3 hP4 hP5 hP6 hT3 hT4 hT5 hT6 g3 g4 g5 
    go_wp2_with fail
    refine CN3.out.mono ?_
    rintro e w' ⟨rfl, rfl⟩
    go_wp2_with fail
    refine CN4.out.mono ?_
    rintro e w' ⟨rfl, rfl⟩
    go_wp2_with fail
    refine CN5.out.mono ?_
    rintro e w' ⟨rfl, rfl⟩
    go_wp2_with fail
    refine CN6.out.mono ?_
    rintro e w' ⟨rfl, rfl⟩
    go_wp2_with fail
    refine (CL6.out _ (Keeps.refl _ _)).mono ?_
    rintro e w8 ⟨rfl, hk⟩
    have K8 := Lib.hid (K6.out.trans hk fun _ _ => id)
    clear hk CL6
    go_wp2_with fail
    go_ret
    exact ⟨rfl, K8.out⟩
  have c64 : (k6 == 4) = false := by simpa using g6
  obtain ⟨q1, q2⟩ := or_eq (A := A) (F := F) (G := G) (by rw [← hk3]; exact g3) (by rw [← hk4]; exact g4) (by rw [← hk5]; exact g5) (by rw [← hk6]; exact g6) hn5
  by_cases g2 : k3 = 2
  · obtain ⟨e1, e2⟩ := q1 (by rw [← hk3]; exact g2)
    have b2 : (k3 == 2) = true := by simp [g2]
    have b3 : (k5 == 2) = true := by rw [hk5, e1]; rfl
    have b4 : (k6 == 2) = true := by rw [hk6, e2]; rfl
    clear hk3 hk4 hk5 hk6 hP3 hP4 hP5 hP6 hT3 hT4 hT5 hT6 g3 g4 g5 g6 q1 q2 e1 e2 g2
    go_wp2_with fail
    refine CN3.out.mono ?_
    rintro e w' ⟨rfl, rfl⟩
    go_wp2_with fail
    refine CN4.out.mono ?_
    rintro e w' ⟨rfl, rfl⟩
    go_wp2_with fail
    refine CN5.out.mono ?_
    rintro e w' ⟨rfl, rfl⟩
    go_wp2_with fail
    refine CN6.out.mono ?_
    rintro e w' ⟨rfl, rfl⟩
    go_wp2_with fail
    refine (CL6.out _ (Keeps.refl _ _)).mono ?_
    rintro e w8 ⟨rfl, hk⟩
    have K8 := Lib.hid (K6.out.trans hk fun _ _ => id)
    clear hk CL6
    go_wp2_with fail
    go_ret
    exact ⟨rfl, K8.out⟩
  obtain ⟨e1, e2, e3, q3, q4⟩ := q2 (by rw [← hk3]; exact g2)
  have b2 : (k3 == 2) = false := by simpa using g2
  have CS := Lib.hid (eval_yes (k := k5) (l := k4) hT5 hT4 hf5 (by rw [hk5, hk4, e1]) e2)
  have CM := Lib.hid (fun V (k : Keeps (fun _ => False) V6 V) => same_yes (face.same hP5 k) (face.same hP4 k) e3)
  by_cases g9 : k3 = 3
  · obtain ⟨f1, f2, f3⟩ := q3 (by rw [← hk3]; exact g9)
    have b5 : (k3 == 3) = true := by simp [g9]
    have CT := Lib.hid (fun V (k : Keeps (fun _ => False) V6 V) => eval_yes (k := k6) (l := k4) (ownsRow_keeps hT6 k fun _ _ => id) (ownsRow_keeps hT4 k fun _ _ => id) hf6 (by rw [hk6, hk4, f1]) f2)
    have CM2 := Lib.hid (fun V (k : Keeps (fun _ => False) V6 V) => same_yes (face.same hP6 k) (face.same hP4 k) f3)
    clear hk3 hk4 hk5 hk6 hP3 hP4 hP5 hP6 hT3 hT4 hT5 hT6 g3 g4 g5 g6 q1 q2 q3 q4 e1 e2 e3 f1 f2 f3 g2 g9
    go_wp2_with fail
    refine CN3.out.mono ?_
    rintro e w' ⟨rfl, rfl⟩
    go_wp2_with fail
    refine CN4.out.mono ?_
    rintro e w' ⟨rfl, rfl⟩
    go_wp2_with fail
    refine CN5.out.mono ?_
    rintro e w' ⟨rfl, rfl⟩
    go_wp2_with fail
    refine CN6.out.mono ?_
    rintro e w' ⟨rfl, rfl⟩
    go_wp2_with fail
    refine CS.out.mono ?_
    rintro e w7 ⟨rfl, hk⟩
    have CM7 := Lib.hid (CM.out _ hk)
    have K7 := Lib.hid hk
    have m30 := (HB3.out.keeps hk id).at_ 0
    have m31 := (HB3.out.keeps hk id).at_ 1
    have m40 := (HB4.out.keeps hk id).at_ 0
    have m41 := (HB4.out.keeps hk id).at_ 1
    have m60 := (HB6.out.keeps hk id).at_ 0
    have m61 := (HB6.out.keeps hk id).at_ 1
    clear hk CS CM
    go_wp2_with fail
    refine CM7.out.mono ?_
    rintro e w8 ⟨rfl, hk⟩
    have K8 := Lib.hid (K7.out.trans hk fun _ _ => id)
    have B38 := HB3.out.keeps K8.out id
    have B48 := HB4.out.keeps K8.out id
    have B68 := HB6.out.keeps K8.out id
    have r30 := B38.at_ 0
    have r31 := B38.at_ 1
    have r40 := B48.at_ 0
    have r41 := B48.at_ 1
    have r60 := B68.at_ 0
    have r61 := B68.at_ 1
    have CS2 := Lib.hid (CT.out w8 K8.out)
    clear hk CM7 B38 B48 B68 CT
    go_wp2_with fail
    refine CS2.out.mono ?_
    rintro e w9 ⟨rfl, hk⟩
    have K9 := Lib.hid (K8.out.trans hk fun _ _ => id)
    have CM9 := Lib.hid (CM2.out w9 K9.out)
    clear hk CS2 CM2
    go_wp2_with fail
    refine CM9.out.mono ?_
    rintro e w10 ⟨rfl, hk⟩
    have K10 := Lib.hid (K9.out.trans hk fun _ _ => id)
    clear hk CM9
    go_wp2_with fail
    refine (CL6.out _ K10.out).mono ?_
    rintro e w11 ⟨rfl, hk⟩
    have K11 := Lib.hid (K6.out.trans (K10.out.trans hk fun _ _ => id) fun _ _ => id)
    clear hk CL6
    go_wp2_with fail
    go_ret
    exact ⟨rfl, K11.out⟩
  · obtain ⟨f1, f2, f3⟩ := q4 (by rw [← hk3]; exact g9)
    have b5 : (k3 == 3) = false := by simpa using g9
    have CT := Lib.hid (fun V (k : Keeps (fun _ => False) V6 V) => eval_yes (k := k6) (l := k3) (ownsRow_keeps hT6 k fun _ _ => id) (ownsRow_keeps hT3 k fun _ _ => id) hf6 (by rw [hk6, hk3, f1]) f2)
    have CM2 := Lib.hid (fun V (k : Keeps (fun _ => False) V6 V) => same_yes (face.same hP6 k) (face.same hP3 k) f3)
    clear hk3 hk4 hk5 hk6 hP3 hP4 hP5 hP6 hT3 hT4 hT5 hT6 g3 g4 g5 g6 q1 q2 q3 q4 e1 e2 e3 f1 f2 f3 g2 g9
    go_wp2_with fail
    refine CN3.out.mono ?_
    rintro e w' ⟨rfl, rfl⟩
    go_wp2_with fail
    refine CN4.out.mono ?_
    rintro e w' ⟨rfl, rfl⟩
    go_wp2_with fail
    refine CN5.out.mono ?_
    rintro e w' ⟨rfl, rfl⟩
    go_wp2_with fail
    refine CN6.out.mono ?_
    rintro e w' ⟨rfl, rfl⟩
    go_wp2_with fail
    refine CS.out.mono ?_
    rintro e w7 ⟨rfl, hk⟩
    have CM7 := Lib.hid (CM.out _ hk)
    have K7 := Lib.hid hk
    have m30 := (HB3.out.keeps hk id).at_ 0
    have m31 := (HB3.out.keeps hk id).at_ 1
    have m40 := (HB4.out.keeps hk id).at_ 0
    have m41 := (HB4.out.keeps hk id).at_ 1
    have m60 := (HB6.out.keeps hk id).at_ 0
    have m61 := (HB6.out.keeps hk id).at_ 1
    clear hk CS CM
    go_wp2_with fail
    refine CM7.out.mono ?_
    rintro e w8 ⟨rfl, hk⟩
    have K8 := Lib.hid (K7.out.trans hk fun _ _ => id)
    have B38 := HB3.out.keeps K8.out id
    have B48 := HB4.out.keeps K8.out id
    have B68 := HB6.out.keeps K8.out id
    have r30 := B38.at_ 0
    have r31 := B38.at_ 1
    have r40 := B48.at_ 0
    have r41 := B48.at_ 1
    have r60 := B68.at_ 0
    have r61 := B68.at_ 1
    have CS2 := Lib.hid (CT.out w8 K8.out)
    clear hk CM7 B38 B48 B68 CT
    go_wp2_with fail
    refine CS2.out.mono ?_
    rintro e w9 ⟨rfl, hk⟩
    have K9 := Lib.hid (K8.out.trans hk fun _ _ => id)
    have CM9 := Lib.hid (CM2.out w9 K9.out)
    clear hk CS2 CM2
    go_wp2_with fail
    refine CM9.out.mono ?_
    rintro e w10 ⟨rfl, hk⟩
    have K10 := Lib.hid (K9.out.trans hk fun _ _ => id)
    clear hk CM9
    go_wp2_with fail
    refine (CL6.out _ K10.out).mono ?_
    rintro e w11 ⟨rfl, hk⟩
    have K11 := Lib.hid (K6.out.trans (K10.out.trans hk fun _ _ => id) fun _ _ => id)
    clear hk CL6
    go_wp2_with fail
    go_ret
    exact ⟨rfl, K11.out⟩
end Go.Proofs.YthidipigpfcbbaaGreatDoor
