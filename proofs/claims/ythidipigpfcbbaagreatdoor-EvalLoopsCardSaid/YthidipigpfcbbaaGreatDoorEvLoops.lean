/-
  concordlaw11.EvalLoops.
-/
import Derived.Test.YthidipigpfcbbaaGreatDoorEvLaw
import Derived.Test.YthidipigpfcbbaaGreatDoorPgBoth
import Derived.Test.YthidipigpfcbbaaGreatDoorRkArg
import Derived.LoopTactic
namespace Go.Proofs.YthidipigpfcbbaaGreatDoor
open Go.RowKit Go.Maps Go.Extern.Stop Go.Stop Go.Extern

def sLoop (n : Nat) : St7 := ⟨12, 0, 0, 0, (n : Int), 0, 0⟩
def loopF (F : Fo) (n : Nat) : Fo := .cons (sLoop n) F .nil .nil
theorem many_items (F : Fo) : ∀ n : Nat, Fo.ofItems (List.replicate n F.items).flatten = F.many n
  | 0 => rfl
  | n + 1 => by
    rw [List.replicate_succ, List.flatten_cons]
    have h := many_items F n
    have : ∀ l : List (St7 × Fo × Fo), Fo.ofItems (F.items ++ l) = F.app (Fo.ofItems l) := fun l => by
      have := app_items F (Fo.ofItems l)
      rwa [Fo.items_of] at this
    rw [this, h]
    rfl
theorem many_size (F : Fo) : ∀ n : Nat, (F.many n).size = n * F.size
  | 0 => by simp [Fo.many, Fo.size]
  | n + 1 => by
    show (F.app (F.many n)).size = _
    rw [Fo.size_app, many_size F n, Nat.succ_mul]
    omega
theorem many_deep (F : Fo) : ∀ n : Nat, (F.many n).deep ≤ F.deep
  | 0 => by simp [Fo.many, Fo.deep]
  | n + 1 => by
    show (F.app (F.many n)).deep ≤ _
    rw [Fo.deep_app]
    have := many_deep F n
    omega
theorem StsAt.many {w : World} {ps : List StV} {l : List (St7 × Fo × Fo)} (h : StsAt w ps l) : ∀ n : Nat, StsAt w (List.replicate n ps).flatten (List.replicate n l).flatten
  | 0 => ⟨rfl, fun i x y hx => by simp at hx⟩
  | n + 1 => by
    rw [List.replicate_succ, List.flatten_cons, List.replicate_succ, List.flatten_cons]
    exact h.app (StsAt.many h n)
theorem rep_len {α : Type} (l : List α) (n : Nat) : (List.replicate n l).flatten.length = n * l.length := by simp
theorem rep_snoc {α : Type} (l : List α) (n : Nat) : (List.replicate n l).flatten ++ l = (List.replicate (n + 1) l).flatten := by
  rw [List.replicate_succ', List.flatten_append]
  simp
theorem mod_any11 (n : Int) (w : World) : ∃ k : Nat, k < 6 ∧ Calls Tryz.prog 14 #[.int .i64 n, .int .i64 6] w fun e w' => e = .returned (.int .i64 (k : Int)) ∧ w = w' := by
  have h1 : n.tmod 6 < 6 := Int.tmod_lt_of_pos n (by decide)
  have h2 : -6 < n.tmod 6 := by
    have := Int.tmod_lt_of_pos (-n) (show (0 : Int) < 6 by decide)
    rw [Int.neg_tmod] at this
    omega
  have hw : wrap64 (n.tmod 6 + 6) = n.tmod 6 + 6 := IntWalk.wrap64_in _ ⟨by omega, by omega⟩
  have h3 := Int.tmod_nonneg 6 (a := n.tmod 6 + 6) (by omega)
  have h4 := Int.tmod_lt_of_pos (n.tmod 6 + 6) (show (0 : Int) < 6 by decide)
  refine ⟨((n.tmod 6 + 6).tmod 6).toNat, by omega, ?_⟩
  rw [show ((((n.tmod 6 + 6).tmod 6).toNat : Nat) : Int) = (wrap64 (n.tmod 6 + 6)).tmod 6 by rw [hw]; omega]
  clear h1 h2 hw h3 h4
  go_enter Tryz.func14, Tryz.ntmps14
  go_wp2_with fail
  go_ret
  exact ⟨rfl, rfl⟩
set_option maxRecDepth 100000 in
theorem psame_nil (w : World) : Calls Tryz.prog 15 #[.slice none 0 0, .slice none 0 0] w fun e w' => e = .returned (.bool true) ∧ w = w' := by
  go_enter Tryz.func15, Tryz.ntmps15
  go_wp2_with fail
  refine wp_loop_rounds 1 ?_
  rw [rounds_succ]
  go_wp2_with fail
  go_ret
  exact ⟨rfl, rfl⟩

theorem loops_eq {A : M8} {F : Fo} {n : Nat} (h1 : endC (runA A (F.many n)).2.1 ≠ 4) (h2 : endC (runA A (loopF F n)).2.1 ≠ 4) :
    endC (runA A (F.many n)).2.1 = endC (runA A (loopF F n)).2.1 ∧ (runA A (F.many n)).1.T = (runA A (loopF F n)).1.T ∧ runS A (F.many n) = runS A (loopF F n) := by
  have e1 := endC_4 h1
  have e2 := endC_4 h2
  obtain ⟨q1, q2⟩ := loop_law F (rs0 A) (sLoop n) rfl
  have e3 : (sLoop n).an.toNat = n := Int.toNat_natCast n
  rw [e3] at q1 q2
  unfold runS
  rw [e1, e2]
  unfold loopF
  rw [q1, q2]
  exact ⟨rfl, rfl, rfl⟩

set_option maxRecDepth 100000 in
set_option maxHeartbeats 4000000 in
theorem evloops_any {w : World} {a0 : Option Addr} {len0 cap0 : Nat} {K : List Int} {a1 : Option Addr} {len1 cap1 : Nat} {L : List Act8} {vo : Option Addr} {vn vc : Nat} {F : Fo} (nn : Int) (hK : IntL w a0 len0 K) (hL : Act8L w a1 len1 cap1 L) (hF : SlOf w (.slice vo vn vc) F) (hg : Glob w) :
    Calls Tryz.prog 5 #[.slice a0 len0 cap0, .slice a1 len1 cap1, .slice vo vn vc, .int .i64 nn] w fun e w' => e = .returned (.bool true) ∧ Keeps (fun _ => False) w w' := by
  have CB := Lib.hid (both_any11 (cap0 := cap0) face hK hL hg)
  have CL := Lib.hid (fun V (k : Keeps (fun _ => False) w V) => alive_any11 (hg.keeps k id))
  have CF := Lib.hid (fun V (k : Keeps (fun _ => False) w V) => few_any (hF.same k))
  have HF := Lib.hid hF
  have HG := Lib.hid hg
  clear hK hL hF hg
  go_enter Tryz.func5, Tryz.ntmps5
  go_wp2_with fail
  refine CB.out.mono ?_
  rintro e w1 hB
  clear CB
  obtain ⟨m, hm6, CM⟩ := mod_any11 nn w1
  have CM := Lib.hid CM
  rcases hB with ⟨rfl, hk⟩ | ⟨s, r, A, rfl, hO⟩
  · have CL2 := Lib.hid (CL.out w1 hk)
    have K1 := Lib.hid hk
    clear hk CL CF
    go_wp2_with fail
    refine CM.out.mono ?_
    rintro e w2 ⟨rfl, rfl⟩
    go_wp2_with fail
    refine CL2.out.mono ?_
    rintro e w2 ⟨rfl, hk⟩
    have K2 := Lib.hid (K1.out.trans hk fun _ _ => id)
    clear hk CL2
    go_wp2_with fail
    go_ret
    exact ⟨rfl, K2.out⟩
  obtain ⟨X, hP, hX, hk⟩ := hO
  have P1 := Lib.hid hP
  have K1 := Lib.hid hk
  have CF1 := Lib.hid (CF.out w1 hk)
  clear hP hX hk CF
  go_wp2_with fail
  refine CM.out.mono ?_
  rintro e w2 ⟨rfl, rfl⟩
  clear CM
  go_wp2_with fail
  refine CF1.out.mono ?_
  rintro e w2 ⟨rfl, hk⟩
  have K2 := Lib.hid (K1.out.trans hk fun _ _ => id)
  have P2 := Lib.hid (face.same P1.out hk)
  clear hk CF1
  by_cases hfew : wt F 0 ≤ 250
  rotate_left
  · rw [decide_eq_false hfew]
    have CL2 := Lib.hid (CL.out w2 K2.out)
    clear CL hfew
    go_wp2_with fail
    refine CL2.out.mono ?_
    rintro e w3 ⟨rfl, hk⟩
    have K3 := Lib.hid (K2.out.trans hk fun _ _ => id)
    clear hk CL2
    go_wp2_with fail
    go_ret
    exact ⟨rfl, K3.out⟩
  rw [decide_eq_true hfew]
  have FEW := Lib.hid (few_says hfew)
  clear hfew
  obtain ⟨ps, S1, p1, pF, p0, pc⟩ := (HF.out.same K2.out).sts
  have hlen := Fo.len_le_size F
  have vn2 : vn ≤ 250 := by have := FEW.out; omega
  have SP := Lib.hid S1
  have PC := Lib.hid pc
  have P0 := Lib.hid p0
  have PL := Lib.hid p1
  clear S1 pc p0 p1 pF hlen
  go_wp2_with fail
  go_loopw [39, 11] (fun iv fv wr => ∃ (i : Nat) (fo : Option Addr) (fc : Nat), iv = .int .i64 (i : Int) ∧ i ≤ m ∧ fv = .slice fo (i * vn) fc ∧ Mine stK w2 wr (.slice fo (i * vn) fc) (List.replicate i ps).flatten ∧ Keeps (fun _ => False) w2 wr) (fun iv _ _ => m - (intOf iv).toNat)
  case atStart => exact ⟨0, none, 0, rfl, Nat.zero_le _, by rw [Nat.zero_mul], by rw [Nat.zero_mul]; exact ⟨World.ownsRow_nil .., fun g hg => by simp [Value.ownBlock] at hg⟩, Keeps.refl _ _⟩
  case round =>
    obtain ⟨i, fo, fc, rfl, hi, rfl, hM, hk⟩ := hrel
    have M1 := Lib.hid hM
    have K1r := Lib.hid hk
    clear hM hk
    by_cases hlt : i < m
    · have b1 : (i : Int) < (m : Int) := by omega
      have PCr : Hid (∀ ad, vo = some ad → ∀ j u, (stK.cs ps)[j]? = some u → wr.cell? (ad.add j) = some u) := Lib.hid fun ad ha j u hu => by
        have := PC.out ad ha j u hu
        exact (K1r.out.cell (cell_lt this) id).trans this
      have hsum : Hid ((List.replicate i ps).flatten.length + vn = (i + 1) * vn) := Lib.hid (by rw [rep_len, PL.out, Nat.succ_mul])
      have hle : Hid ((i + 1) * vn ≤ 1000000) := Lib.hid (by
        have : (i + 1) * vn ≤ 6 * 250 := Nat.mul_le_mul (by omega) vn2
        omega)
      go_wp2_with (at_builtin; refine wpList_append_arg stK rfl _ _ rfl w2 (.slice fo (i * vn) fc) (List.replicate i ps).flatten ps rfl M1.out K1r.out vo vn vc rfl PL.out PCr.out P0.out ((i + 1) * vn) hsum.out hle.out ?_; intro ao ac w3 hM hk _; have M3 := Lib.hid hM; have K3r := Lib.hid hk; clear hM hk)
      go_roundw
      case rel => exact ⟨i + 1, ao, ac, by go_num, by omega, rfl, by rw [← rep_snoc]; exact M3.out, K3r.out⟩
      case measure => simp [intOf]; omega
    · obtain rfl : i = m := by omega
      have b1 : ¬ (i : Int) < (i : Int) := by omega
      have hfl : SlOf wr (.slice fo (i * vn) fc) (F.many i) := by
        rw [← many_items]
        exact sl_row M1.out ((SP.out.same K1r.out).many i) (by rw [rep_len, PL.out]) (by
          have : i * vn ≤ 6 * 250 := Nat.mul_le_mul (by omega) vn2
          omega)
      have hms : (F.many i).size ≤ 20000 := by
        rw [many_size]
        have : i * F.size ≤ 6 * 250 := Nat.mul_le_mul (by omega) FEW.out.1
        omega
      have hmd : (F.many i).deep ≤ 20000 := by have := many_deep F i; have := FEW.out; omega
      have K2x := K2.out.trans K1r.out fun _ _ => id
      have C1 := Lib.hid (ran_any11 (HG.out.keeps K2x id) (face.same P2.out K1r.out) hfl hms hmd)
      have P2w := Lib.hid (face.same P2.out K1r.out)
      have K2w := Lib.hid K2x
      generalize i * vn = fn at *
      clear hfl hms hmd K2x M1 K1r P2 K2 hlt
      have P2 := P2w
      have K2 := K2w
      clear P2w K2w
      go_wp2_with fail
      refine C1.out.mono ?_
      rintro e w3 ⟨hk, t1, k1, o1, n1, c1, ev1, ne1, x1, rfl, hE1, hS1⟩
      obtain ⟨V3, hV3⟩ : ∃ V, V = w3.alloc (.cells #[.int .i64 k1, .slice o1 n1 c1] 32) := ⟨_, rfl⟩
      have kv3 : Keeps (fun _ => False) w3 V3 := by rw [hV3]; exact (Keeps.refl _ w3).alloc _
      have B3 := Lib.hid (show Whole V3 w3.heap.size 32 #[.int .i64 k1, .slice o1 n1 c1] by rw [hV3]; exact Whole.made _ _ _)
      have K3 := Lib.hid (K2.out.trans (hk.trans kv3 fun _ _ => id) fun _ _ => id)
      have P3 := Lib.hid (face.same P2.out (hk.trans kv3 fun _ _ => id))
      have E3 := Lib.hid (hE1.same kv3)
      have S3 : Hid (ne1 = 0 → ∃ tb Z, t1 = some ⟨tb, 0, none⟩ ∧ k1 = endC (runA A (F.many i)).2.1 ∧ PM V3 tb (runS A (F.many i)) Z ∧ IRow V3 (.slice o1 n1 c1) (runA A (F.many i)).1.T ∧ (runA A (F.many i)).1.T.length ≤ 1000000 ∧ (runA A (F.many i)).2.1 ≠ 5) := Lib.hid fun h => by
        obtain ⟨tb, Z, q1, q2, q3, q4, q5, q6⟩ := hS1 h
        exact ⟨tb, Z, q1, q2, face.same q3 kv3, ownsRow_keeps q4 kv3 fun _ _ => id, q5, q6⟩
      have HV3 := Lib.hid hV3
      have k4 : Keeps (fun _ => False) V3 (V3.alloc (.cells (stAgg (sLoop i) (vo, vn, vc) (none, 0, 0)) 40)) := (Keeps.refl _ V3).alloc _
      have C2 := Lib.hid (ran_any11 (F := loopF F i) (v := .slice (some ⟨V3.heap.size, 0, none⟩) 1 1) (HG.out.keeps (K3.out.trans k4 fun _ _ => id) id) (face.same P3.out k4) (sl_lit (Whole.made V3 _ _) ((HF.out.same (K3.out.trans k4 fun _ _ => id)) : SlOf _ (slv (vo, vn, vc)) F) (sl_none _) rfl) (by have := FEW.out; simp only [loopF, Fo.size]; omega) (by have := FEW.out; simp only [loopF, Fo.deep]; omega))
      have k4' := Lib.hid k4
      simp only [stAgg, slv, sLoop] at C2 k4'
      clear hk hE1 hS1 hV3 kv3 k4 C1
      go_upto_region 11 with fail
      rw [← HV3.out]
      clear HV3
      go_wp2_with fail
      refine C2.out.mono ?_
      rintro e w5 ⟨hk, t2, k2, o2, n2, c2, ev2, ne2, x2, rfl, hE2, hS2⟩
      obtain ⟨V5, hV5⟩ : ∃ V, V = w5.alloc (.cells #[.int .i64 k2, .slice o2 n2 c2] 32) := ⟨_, rfl⟩
      have kv5 : Keeps (fun _ => False) w5 V5 := by rw [hV5]; exact (Keeps.refl _ w5).alloc _
      have B5 := Lib.hid (show Whole V5 w5.heap.size 32 #[.int .i64 k2, .slice o2 n2 c2] by rw [hV5]; exact Whole.made _ _ _)
      have k35 := k4'.out.trans (hk.trans kv5 fun _ _ => id) fun _ _ => id
      have K5 := Lib.hid (K3.out.trans k35 fun _ _ => id)
      have P5 := Lib.hid (face.same P3.out k35)
      have E5 := Lib.hid (hE2.same kv5)
      have E35 := Lib.hid (E3.out.same k35)
      have B35 := B3.out.keeps k35 id
      have SA : Hid (ne1 = 0 → ∃ tb Z, t1 = some ⟨tb, 0, none⟩ ∧ k1 = endC (runA A (F.many i)).2.1 ∧ PM V5 tb (runS A (F.many i)) Z ∧ IRow V5 (.slice o1 n1 c1) (runA A (F.many i)).1.T ∧ (runA A (F.many i)).1.T.length ≤ 1000000 ∧ (runA A (F.many i)).2.1 ≠ 5) := Lib.hid fun h => by
        obtain ⟨tb, Z, q1, q2, q3, q4, q5, q6⟩ := S3.out h
        exact ⟨tb, Z, q1, q2, face.same q3 k35, ownsRow_keeps q4 k35 fun _ _ => id, q5, q6⟩
      have SB : Hid (ne2 = 0 → ∃ tb Z, t2 = some ⟨tb, 0, none⟩ ∧ k2 = endC (runA A (loopF F i)).2.1 ∧ PM V5 tb (runS A (loopF F i)) Z ∧ IRow V5 (.slice o2 n2 c2) (runA A (loopF F i)).1.T ∧ (runA A (loopF F i)).1.T.length ≤ 1000000 ∧ (runA A (loopF F i)).2.1 ≠ 5) := Lib.hid fun h => by
        obtain ⟨tb, Z, q1, q2, q3, q4, q5, q6⟩ := hS2 h
        exact ⟨tb, Z, q1, q2, face.same q3 kv5, ownsRow_keeps q4 kv5 fun _ _ => id, q5, q6⟩
      have HV5 := Lib.hid hV5
      have d0 := B35.at_ 0
      have d1 := B35.at_ 1
      have B5o := B5.out
      have d2 := B5o.at_ 0
      have d3 := B5o.at_ 1
      have CN1 := Lib.hid (no_u E35.out)
      have CN2 := Lib.hid (no_u E5.out)
      have CL5 := Lib.hid (fun V (k : Keeps (fun _ => False) V5 V) => CL.out V (K5.out.trans k fun _ _ => id))
      clear hk hE2 hS2 hV5 kv5 k35 B35 B5o C2 S3 B3 E3 P3 P2 P1 CL
      go_upto_region 12 with fail
      rw [← HV5.out]
      clear HV5
      by_cases h1 : ne1 = 0
      rotate_left
      · have b1 : ((ne1 : Int) != 0) = true := by simp; omega
        go_wp2_with fail
        refine CN1.out.mono ?_
        rintro e w' ⟨rfl, rfl⟩
        go_wp2_with fail
        refine (CL5.out _ (Keeps.refl _ _)).mono ?_
        rintro e w6 ⟨rfl, hk⟩
        have K6 := Lib.hid (K5.out.trans hk fun _ _ => id)
        clear hk CL5
        go_wp2_with fail
        go_ret
        exact ⟨rfl, K6.out⟩
      subst h1
      by_cases h2 : ne2 = 0
      rotate_left
      · have b1 : ((ne2 : Int) != 0) = true := by simp; omega
        go_wp2_with fail
        refine CN1.out.mono ?_
        rintro e w' ⟨rfl, rfl⟩
        go_wp2_with fail
        refine CN2.out.mono ?_
        rintro e w' ⟨rfl, rfl⟩
        go_wp2_with fail
        refine (CL5.out _ (Keeps.refl _ _)).mono ?_
        rintro e w6 ⟨rfl, hk⟩
        have K6 := Lib.hid (K5.out.trans hk fun _ _ => id)
        clear hk CL5
        go_wp2_with fail
        go_ret
        exact ⟨rfl, K6.out⟩
      subst h2
      obtain ⟨tb1, Z1, rfl, hk1, hP1, hT1, hf1, -⟩ := SA.out rfl
      obtain ⟨tb2, Z2, rfl, hk2, hP2, hT2, hf2, -⟩ := SB.out rfl
      by_cases h3 : k1 = 4
      · have b1 : (k1 == 4) = true := by simp [h3]
        clear hk1 hk2 hP1 hT1 hP2 hT2 SA SB
        go_wp2_with fail
        refine CN1.out.mono ?_
        rintro e w' ⟨rfl, rfl⟩
        go_wp2_with fail
        refine CN2.out.mono ?_
        rintro e w' ⟨rfl, rfl⟩
        go_wp2_with fail
        refine (CL5.out _ (Keeps.refl _ _)).mono ?_
        rintro e w6 ⟨rfl, hk⟩
        have K6 := Lib.hid (K5.out.trans hk fun _ _ => id)
        clear hk CL5
        go_wp2_with fail
        go_ret
        exact ⟨rfl, K6.out⟩
      have b3 : (k1 == 4) = false := by simpa using h3
      by_cases h4 : k2 = 4
      · have b1 : (k2 == 4) = true := by simp [h4]
        clear hk1 hk2 hP1 hT1 hP2 hT2 SA SB h3
        go_wp2_with fail
        refine CN1.out.mono ?_
        rintro e w' ⟨rfl, rfl⟩
        go_wp2_with fail
        refine CN2.out.mono ?_
        rintro e w' ⟨rfl, rfl⟩
        go_wp2_with fail
        refine (CL5.out _ (Keeps.refl _ _)).mono ?_
        rintro e w6 ⟨rfl, hk⟩
        have K6 := Lib.hid (K5.out.trans hk fun _ _ => id)
        clear hk CL5
        go_wp2_with fail
        go_ret
        exact ⟨rfl, K6.out⟩
      have b4 : (k2 == 4) = false := by simpa using h4
      obtain ⟨e1, e2, e3⟩ := loops_eq (A := A) (F := F) (n := i) (by rw [← hk1]; exact h3) (by rw [← hk2]; exact h4)
      have CS := Lib.hid (eval_yes (k := k1) (l := k2) hT1 hT2 hf1 (by rw [hk1, hk2, e1]) e2)
      have CM := Lib.hid (fun V (k : Keeps (fun _ => False) V5 V) => same_yes (face.same hP1 k) (face.same hP2 k) e3)
      clear hk1 hk2 hP1 hT1 hP2 hT2 SA SB h3 h4 e1 e2 e3 hf1 hf2
      go_wp2_with fail
      refine CN1.out.mono ?_
      rintro e w' ⟨rfl, rfl⟩
      go_wp2_with fail
      refine CN2.out.mono ?_
      rintro e w' ⟨rfl, rfl⟩
      go_wp2_with fail
      refine CS.out.mono ?_
      rintro e w6 ⟨rfl, hk⟩
      have CM6 := Lib.hid (CM.out _ hk)
      have K6 := Lib.hid hk
      clear hk CS CM
      go_wp2_with fail
      refine CM6.out.mono ?_
      rintro e w7 ⟨rfl, hk⟩
      have K7 := Lib.hid (K6.out.trans hk fun _ _ => id)
      clear hk CM6
      go_wp2_with fail
      refine (psame_nil _).mono ?_
      rintro e w' ⟨rfl, rfl⟩
      go_wp2_with fail
      refine (CL5.out _ K7.out).mono ?_
      rintro e w8 ⟨rfl, hk⟩
      have K8 := Lib.hid (K5.out.trans (K7.out.trans hk fun _ _ => id) fun _ _ => id)
      clear hk CL5
      go_wp2_with fail
      go_ret
      exact ⟨rfl, K8.out⟩
end Go.Proofs.YthidipigpfcbbaaGreatDoor
