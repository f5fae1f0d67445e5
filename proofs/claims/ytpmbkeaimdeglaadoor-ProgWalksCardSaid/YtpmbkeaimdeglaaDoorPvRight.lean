/-
  prog.right, check by contract.
-/
import Derived.Test.YtpmbkeaimdeglaaDoorPvTaken
import Derived.Test.YtpmbkeaimdeglaaDoorPvOne
namespace Go.Proofs.YtpmbkeaimdeglaaDoor
open Go.RowKit Go.Extern.Stop Go.Stop Go.Extern

/-- What the program asks of a statement. -/
def oneB (s : St7) (nb ne : Nat) (K : List Int) (b0 b1 b2 b3 b4 b5 b6 b7 kn : Bool) : Bool :=
  kn && ((if b0 then decide (0 ≤ s.c ∧ s.c < (K.length : Int)) && (!b1 || K.getD s.c.toNat 0 == 3) else decide (s.c = 0)) && ((if b2 then decide (1 ≤ s.r ∧ s.r ≤ 8) else decide (s.r = 0)) && ((if b5 then decide (s.ar = 0 ∧ 0 ≤ s.an ∧ s.an ≤ 5) else argOk s.ar s.an b3) && (argOk s.br s.bn b4 && ((b6 || decide (nb = 0)) && (b7 || decide (ne = 0)))))))

theorem loop_arg (r n : Int) : (argOk r n true && decide (r = 0 ∧ 0 ≤ n ∧ n ≤ 5)) = decide (r = 0 ∧ 0 ≤ n ∧ n ≤ 5) := by
  by_cases h : r = 0 ∧ 0 ≤ n ∧ n ≤ 5
  · have h2 : argOk r n true = true := by simp [argOk]; omega
    rw [h2]; rfl
  · rw [decide_eq_false h, Bool.and_false]

theorem one_eq (s : St7) (nb ne : Nat) (K : List Int) : one s nb ne K = oneB s nb ne K (decide (1 ≤ s.k ∧ s.k ≤ 8)) (decide (s.k = 6 ∨ s.k = 7)) (inL s.k [1, 4, 5, 6, 7, 9, 10]) (inL s.k [1, 2, 3, 4, 6, 7, 9, 10, 11]) (inL s.k [2, 7, 10, 11]) (decide (s.k = 12)) (decide (11 ≤ s.k ∧ s.k ≤ 14)) (decide (s.k = 11 ∨ s.k = 14)) (decide (1 ≤ s.k ∧ s.k ≤ 16)) := by
  obtain ⟨k, c, r, ar, an, br, bn⟩ := s
  by_cases h : 1 ≤ k ∧ k ≤ 16
  · have hk : k = 1 ∨ k = 2 ∨ k = 3 ∨ k = 4 ∨ k = 5 ∨ k = 6 ∨ k = 7 ∨ k = 8 ∨ k = 9 ∨ k = 10 ∨ k = 11 ∨ k = 12 ∨ k = 13 ∨ k = 14 ∨ k = 15 ∨ k = 16 := by omega
    rcases hk with rfl | rfl | rfl | rfl | rfl | rfl | rfl | rfl | rfl | rfl | rfl | rfl | rfl | rfl | rfl | rfl
    all_goals simp [one, oneB, inL, Bool.and_assoc]
    have h12 := loop_arg ar an
    simp only [Bool.decide_and] at h12
    generalize decide (ar = 0) = p at *
    generalize decide (0 ≤ an) = q at *
    generalize decide (an ≤ 5) = u at *
    generalize argOk ar an true = A at *
    generalize decide (c = 0) = c0
    generalize decide (r = 0) = r0
    generalize argOk br bn false = z0
    generalize decide (ne = 0) = y0
    cases p <;> cases q <;> cases u <;> cases A <;> first | (cases h12; done) | (cases c0 <;> cases r0 <;> cases z0 <;> rfl)
  · unfold one oneB
    simp only
    rw [decide_eq_false h]
    simp only [Bool.false_and]

set_option maxRecDepth 100000 in
set_option maxHeartbeats 1000000 in
theorem right_any {w : World} (s : St7) (b e : Sl) {ko : Option Addr} {kn kc : Nat} {K : List Int} (hK : IntL w ko kn K) (few : kn ≤ 1000) :
    Calls Tryd.prog 45 #[.agg (stAgg s b e), .slice ko kn kc] w fun e' w' => e' = .returned (.bool (one s b.2.1 e.2.1 K)) ∧ Keeps (fun _ => False) w w' := by
  rw [one_eq]
  have CT := Lib.hid (fun V => taken_any (w := V) s.k)
  unfold tks at CT
  generalize decide (1 ≤ s.k ∧ s.k ≤ 8) = b0 at *
  generalize decide (s.k = 6 ∨ s.k = 7) = b1 at *
  generalize inL s.k [1, 4, 5, 6, 7, 9, 10] = b2 at *
  generalize inL s.k [1, 2, 3, 4, 6, 7, 9, 10, 11] = b3 at *
  generalize inL s.k [2, 7, 10, 11] = b4 at *
  generalize decide (s.k = 12) = b5 at *
  generalize decide (11 ≤ s.k ∧ s.k ≤ 14) = b6 at *
  generalize decide (s.k = 11 ∨ s.k = 14) = b7 at *
  generalize decide (1 ≤ s.k ∧ s.k ≤ 16) = kk at *
  obtain ⟨k, c, r, ar, an, br, bn⟩ := s
  obtain ⟨x1, x2, x3⟩ := b
  obtain ⟨y1, y2, y3⟩ := e
  unfold stAgg slv oneB
  simp only at CT ⊢
  have CC := Lib.hid (fun V (q : Keeps (fun _ => False) w V) => collR_any b0 b1 b2 b3 b4 b5 b6 b7 c (w := V) (kc := kc) (hK.same q) few)
  have CR := Lib.hid (fun V => regR_any (w := V) b0 b1 b2 b3 b4 b5 b6 b7 r)
  have CA := Lib.hid (fun V => aR_any (w := V) b0 b1 b2 b3 b4 b5 b6 b7 ar an)
  have CB := Lib.hid (fun V => argR_any br bn b4 V)
  generalize (if b0 then decide (0 ≤ c ∧ c < (K.length : Int)) && (!b1 || K.getD c.toNat 0 == 3) else decide (c = 0)) = q1 at *
  generalize (if b2 then decide (1 ≤ r ∧ r ≤ 8) else decide (r = 0)) = q2 at *
  generalize (if b5 then decide (ar = 0 ∧ 0 ≤ an ∧ an ≤ 5) else argOk ar an b3) = q3 at *
  generalize argOk br bn b4 = q4 at *
  clear hK few
  go_enter Tryd.func45, Tryd.ntmps45
  go_wp2_with fail
  refine (CT.out _).mono ?_
  rintro e w2 ⟨rfl, hK⟩
  have K2 := Lib.hid (((Keeps.refl (fun _ => False) w).alloc _).trans hK fun _ _ => id)
  have S2 := Lib.hid ((Whole.made w 42 #[.int .i64 k, .int .i64 c, .int .i64 r, .int .i64 ar, .int .i64 an, .int .i64 br, .int .i64 bn, .slice x1 x2 x3, .slice y1 y2 y3]).keeps hK id)
  have SB : Hid (w.heap.size < w2.heap.size) := Lib.hid S2.out.lt
  clear hK CT
  go_upto_region 2 with fail
  obtain ⟨W3, hW3⟩ : ∃ V, V = w2.alloc (.cells #[.bool b0, .bool b1, .bool b2, .bool b3, .bool b4, .bool b5, .bool b6, .bool b7] 62) := ⟨_, rfl⟩
  have k3 : Keeps (fun _ => False) w2 W3 := by rw [hW3]; exact (Keeps.refl _ w2).alloc _
  have T3 : Whole W3 w2.heap.size 62 #[.bool b0, .bool b1, .bool b2, .bool b3, .bool b4, .bool b5, .bool b6, .bool b7] := by rw [hW3]; exact Whole.made _ _ _
  have S3 := S2.out.keeps k3 id
  have K3 := Lib.hid (K2.out.trans k3 fun _ _ => id)
  have FA : Hid (∀ V, Keeps (fun _ => False) W3 V → Whole V w2.heap.size 62 #[.bool b0, .bool b1, .bool b2, .bool b3, .bool b4, .bool b5, .bool b6, .bool b7] ∧ Whole V w.heap.size 42 #[.int .i64 k, .int .i64 c, .int .i64 r, .int .i64 ar, .int .i64 an, .int .i64 br, .int .i64 bn, .slice x1 x2 x3, .slice y1 y2 y3]) := Lib.hid fun V kV => ⟨T3.keeps kV id, S3.keeps kV id⟩
  rw [← hW3]
  obtain ⟨tb, htb⟩ : ∃ b, w2.heap.size = b := ⟨_, rfl⟩
  obtain ⟨sb, hsb⟩ : ∃ b, w.heap.size = b := ⟨_, rfl⟩
  rw [htb] at FA
  rw [hsb] at FA
  rw [htb, hsb]
  clear hW3 T3 S3 S2 k3 SB htb hsb
  have JJ : Hid (Keeps (fun _ => False) W3 W3) := Lib.hid (Keeps.refl _ _)
  cases kk with
  | false =>
    go_wp2_with fail
    go_ret
    exact ⟨by simp, K3.out⟩
  | true =>
    obtain ⟨tt, ss⟩ := FA.out _ JJ.out
    have t0 : W3.cell? ⟨tb, 0, none⟩ = some (.bool b0) := tt.at_ 0
    have t1 : W3.cell? ⟨tb, 1, none⟩ = some (.bool b1) := tt.at_ 1
    have t2 : W3.cell? ⟨tb, 2, none⟩ = some (.bool b2) := tt.at_ 2
    have t3 : W3.cell? ⟨tb, 3, none⟩ = some (.bool b3) := tt.at_ 3
    have t4 : W3.cell? ⟨tb, 4, none⟩ = some (.bool b4) := tt.at_ 4
    have t5 : W3.cell? ⟨tb, 5, none⟩ = some (.bool b5) := tt.at_ 5
    have t6 : W3.cell? ⟨tb, 6, none⟩ = some (.bool b6) := tt.at_ 6
    have t7 : W3.cell? ⟨tb, 7, none⟩ = some (.bool b7) := tt.at_ 7
    have s0 : W3.cell? ⟨sb, 0, none⟩ = some (.int .i64 k) := ss.at_ 0
    have s1 : W3.cell? ⟨sb, 1, none⟩ = some (.int .i64 c) := ss.at_ 1
    have s2 : W3.cell? ⟨sb, 2, none⟩ = some (.int .i64 r) := ss.at_ 2
    have s3 : W3.cell? ⟨sb, 3, none⟩ = some (.int .i64 ar) := ss.at_ 3
    have s4 : W3.cell? ⟨sb, 4, none⟩ = some (.int .i64 an) := ss.at_ 4
    have s5 : W3.cell? ⟨sb, 5, none⟩ = some (.int .i64 br) := ss.at_ 5
    have s6 : W3.cell? ⟨sb, 6, none⟩ = some (.int .i64 bn) := ss.at_ 6
    have s7 : W3.cell? ⟨sb, 7, none⟩ = some (.slice x1 x2 x3) := ss.at_ 7
    have s8 : W3.cell? ⟨sb, 8, none⟩ = some (.slice y1 y2 y3) := ss.at_ 8
    clear tt ss
    go_wp2_with fail
    refine (CC.out _ K3.out).mono ?_
    rintro e V0 ⟨rfl, hK⟩
    have J0 := Lib.hid (JJ.out.trans hK fun _ _ => id)
    have L0 := Lib.hid (K3.out.trans hK fun _ _ => id)
    clear hK t0 t1 t2 t3 t4 t5 t6 t7 s0 s1 s2 s3 s4 s5 s6 s7 s8
    cases q1 with
    | false =>
      go_wp2_with fail
      go_ret
      exact ⟨by simp, L0.out⟩
    | true =>
      obtain ⟨tt, ss⟩ := FA.out _ J0.out
      have t0 : V0.cell? ⟨tb, 0, none⟩ = some (.bool b0) := tt.at_ 0
      have t1 : V0.cell? ⟨tb, 1, none⟩ = some (.bool b1) := tt.at_ 1
      have t2 : V0.cell? ⟨tb, 2, none⟩ = some (.bool b2) := tt.at_ 2
      have t3 : V0.cell? ⟨tb, 3, none⟩ = some (.bool b3) := tt.at_ 3
      have t4 : V0.cell? ⟨tb, 4, none⟩ = some (.bool b4) := tt.at_ 4
      have t5 : V0.cell? ⟨tb, 5, none⟩ = some (.bool b5) := tt.at_ 5
      have t6 : V0.cell? ⟨tb, 6, none⟩ = some (.bool b6) := tt.at_ 6
      have t7 : V0.cell? ⟨tb, 7, none⟩ = some (.bool b7) := tt.at_ 7
      have s0 : V0.cell? ⟨sb, 0, none⟩ = some (.int .i64 k) := ss.at_ 0
      have s1 : V0.cell? ⟨sb, 1, none⟩ = some (.int .i64 c) := ss.at_ 1
      have s2 : V0.cell? ⟨sb, 2, none⟩ = some (.int .i64 r) := ss.at_ 2
      have s3 : V0.cell? ⟨sb, 3, none⟩ = some (.int .i64 ar) := ss.at_ 3
      have s4 : V0.cell? ⟨sb, 4, none⟩ = some (.int .i64 an) := ss.at_ 4
      have s5 : V0.cell? ⟨sb, 5, none⟩ = some (.int .i64 br) := ss.at_ 5
      have s6 : V0.cell? ⟨sb, 6, none⟩ = some (.int .i64 bn) := ss.at_ 6
      have s7 : V0.cell? ⟨sb, 7, none⟩ = some (.slice x1 x2 x3) := ss.at_ 7
      have s8 : V0.cell? ⟨sb, 8, none⟩ = some (.slice y1 y2 y3) := ss.at_ 8
      clear tt ss
      go_wp2_with fail
      refine (CR.out _).mono ?_
      rintro e V1 ⟨rfl, hK⟩
      have J1 := Lib.hid (J0.out.trans hK fun _ _ => id)
      have L1 := Lib.hid (L0.out.trans hK fun _ _ => id)
      clear hK t0 t1 t2 t3 t4 t5 t6 t7 s0 s1 s2 s3 s4 s5 s6 s7 s8
      cases q2 with
      | false =>
        go_wp2_with fail
        go_ret
        exact ⟨by simp, L1.out⟩
      | true =>
        obtain ⟨tt, ss⟩ := FA.out _ J1.out
        have t0 : V1.cell? ⟨tb, 0, none⟩ = some (.bool b0) := tt.at_ 0
        have t1 : V1.cell? ⟨tb, 1, none⟩ = some (.bool b1) := tt.at_ 1
        have t2 : V1.cell? ⟨tb, 2, none⟩ = some (.bool b2) := tt.at_ 2
        have t3 : V1.cell? ⟨tb, 3, none⟩ = some (.bool b3) := tt.at_ 3
        have t4 : V1.cell? ⟨tb, 4, none⟩ = some (.bool b4) := tt.at_ 4
        have t5 : V1.cell? ⟨tb, 5, none⟩ = some (.bool b5) := tt.at_ 5
        have t6 : V1.cell? ⟨tb, 6, none⟩ = some (.bool b6) := tt.at_ 6
        have t7 : V1.cell? ⟨tb, 7, none⟩ = some (.bool b7) := tt.at_ 7
        have s0 : V1.cell? ⟨sb, 0, none⟩ = some (.int .i64 k) := ss.at_ 0
        have s1 : V1.cell? ⟨sb, 1, none⟩ = some (.int .i64 c) := ss.at_ 1
        have s2 : V1.cell? ⟨sb, 2, none⟩ = some (.int .i64 r) := ss.at_ 2
        have s3 : V1.cell? ⟨sb, 3, none⟩ = some (.int .i64 ar) := ss.at_ 3
        have s4 : V1.cell? ⟨sb, 4, none⟩ = some (.int .i64 an) := ss.at_ 4
        have s5 : V1.cell? ⟨sb, 5, none⟩ = some (.int .i64 br) := ss.at_ 5
        have s6 : V1.cell? ⟨sb, 6, none⟩ = some (.int .i64 bn) := ss.at_ 6
        have s7 : V1.cell? ⟨sb, 7, none⟩ = some (.slice x1 x2 x3) := ss.at_ 7
        have s8 : V1.cell? ⟨sb, 8, none⟩ = some (.slice y1 y2 y3) := ss.at_ 8
        clear tt ss
        go_wp2_with fail
        refine (CA.out _).mono ?_
        rintro e V2 ⟨rfl, hK⟩
        have J2 := Lib.hid (J1.out.trans hK fun _ _ => id)
        have L2 := Lib.hid (L1.out.trans hK fun _ _ => id)
        clear hK t0 t1 t2 t3 t4 t5 t6 t7 s0 s1 s2 s3 s4 s5 s6 s7 s8
        cases q3 with
        | false =>
          go_wp2_with fail
          go_ret
          exact ⟨by simp, L2.out⟩
        | true =>
          obtain ⟨tt, ss⟩ := FA.out _ J2.out
          have t0 : V2.cell? ⟨tb, 0, none⟩ = some (.bool b0) := tt.at_ 0
          have t1 : V2.cell? ⟨tb, 1, none⟩ = some (.bool b1) := tt.at_ 1
          have t2 : V2.cell? ⟨tb, 2, none⟩ = some (.bool b2) := tt.at_ 2
          have t3 : V2.cell? ⟨tb, 3, none⟩ = some (.bool b3) := tt.at_ 3
          have t4 : V2.cell? ⟨tb, 4, none⟩ = some (.bool b4) := tt.at_ 4
          have t5 : V2.cell? ⟨tb, 5, none⟩ = some (.bool b5) := tt.at_ 5
          have t6 : V2.cell? ⟨tb, 6, none⟩ = some (.bool b6) := tt.at_ 6
          have t7 : V2.cell? ⟨tb, 7, none⟩ = some (.bool b7) := tt.at_ 7
          have s0 : V2.cell? ⟨sb, 0, none⟩ = some (.int .i64 k) := ss.at_ 0
          have s1 : V2.cell? ⟨sb, 1, none⟩ = some (.int .i64 c) := ss.at_ 1
          have s2 : V2.cell? ⟨sb, 2, none⟩ = some (.int .i64 r) := ss.at_ 2
          have s3 : V2.cell? ⟨sb, 3, none⟩ = some (.int .i64 ar) := ss.at_ 3
          have s4 : V2.cell? ⟨sb, 4, none⟩ = some (.int .i64 an) := ss.at_ 4
          have s5 : V2.cell? ⟨sb, 5, none⟩ = some (.int .i64 br) := ss.at_ 5
          have s6 : V2.cell? ⟨sb, 6, none⟩ = some (.int .i64 bn) := ss.at_ 6
          have s7 : V2.cell? ⟨sb, 7, none⟩ = some (.slice x1 x2 x3) := ss.at_ 7
          have s8 : V2.cell? ⟨sb, 8, none⟩ = some (.slice y1 y2 y3) := ss.at_ 8
          clear tt ss
          go_wp2_with fail
          refine (CB.out _).mono ?_
          rintro e V3 ⟨rfl, hK⟩
          have J3 := Lib.hid (J2.out.trans hK fun _ _ => id)
          have L3 := Lib.hid (L2.out.trans hK fun _ _ => id)
          clear hK t0 t1 t2 t3 t4 t5 t6 t7 s0 s1 s2 s3 s4 s5 s6 s7 s8
          cases q4 with
          | false =>
            go_wp2_with fail
            go_ret
            exact ⟨by simp, L3.out⟩
          | true =>
            obtain ⟨tt, ss⟩ := FA.out _ J3.out
            have t0 : V3.cell? ⟨tb, 0, none⟩ = some (.bool b0) := tt.at_ 0
            have t1 : V3.cell? ⟨tb, 1, none⟩ = some (.bool b1) := tt.at_ 1
            have t2 : V3.cell? ⟨tb, 2, none⟩ = some (.bool b2) := tt.at_ 2
            have t3 : V3.cell? ⟨tb, 3, none⟩ = some (.bool b3) := tt.at_ 3
            have t4 : V3.cell? ⟨tb, 4, none⟩ = some (.bool b4) := tt.at_ 4
            have t5 : V3.cell? ⟨tb, 5, none⟩ = some (.bool b5) := tt.at_ 5
            have t6 : V3.cell? ⟨tb, 6, none⟩ = some (.bool b6) := tt.at_ 6
            have t7 : V3.cell? ⟨tb, 7, none⟩ = some (.bool b7) := tt.at_ 7
            have s0 : V3.cell? ⟨sb, 0, none⟩ = some (.int .i64 k) := ss.at_ 0
            have s1 : V3.cell? ⟨sb, 1, none⟩ = some (.int .i64 c) := ss.at_ 1
            have s2 : V3.cell? ⟨sb, 2, none⟩ = some (.int .i64 r) := ss.at_ 2
            have s3 : V3.cell? ⟨sb, 3, none⟩ = some (.int .i64 ar) := ss.at_ 3
            have s4 : V3.cell? ⟨sb, 4, none⟩ = some (.int .i64 an) := ss.at_ 4
            have s5 : V3.cell? ⟨sb, 5, none⟩ = some (.int .i64 br) := ss.at_ 5
            have s6 : V3.cell? ⟨sb, 6, none⟩ = some (.int .i64 bn) := ss.at_ 6
            have s7 : V3.cell? ⟨sb, 7, none⟩ = some (.slice x1 x2 x3) := ss.at_ 7
            have s8 : V3.cell? ⟨sb, 8, none⟩ = some (.slice y1 y2 y3) := ss.at_ 8
            clear tt ss
            cases b6 with
            | true =>
              cases b7 with
              | true =>
                go_wp2_with fail
                go_ret
                exact ⟨by simp, L3.out⟩
              | false =>
                by_cases hy : y2 = 0
                · subst hy
                  go_wp2_with fail
                  go_ret
                  exact ⟨by simp, L3.out⟩
                · have hy0 : ((y2 : Int) == 0) = false := by simp; omega
                  go_wp2_with fail
                  go_ret
                  exact ⟨by first | (simp; done) | simp [hy], L3.out⟩
            | false =>
              by_cases hx : x2 = 0
              · subst hx
                cases b7 with
                | true =>
                  go_wp2_with fail
                  go_ret
                  exact ⟨by simp, L3.out⟩
                | false =>
                  by_cases hy : y2 = 0
                  · subst hy
                    go_wp2_with fail
                    go_ret
                    exact ⟨by simp, L3.out⟩
                  · have hy0 : ((y2 : Int) == 0) = false := by simp; omega
                    go_wp2_with fail
                    go_ret
                    exact ⟨by first | (simp; done) | simp [hy], L3.out⟩
              · have hx0 : ((x2 : Int) == 0) = false := by simp; omega
                go_wp2_with fail
                go_ret
                exact ⟨by first | (simp; done) | simp [hx], L3.out⟩
end Go.Proofs.YtpmbkeaimdeglaaDoor
