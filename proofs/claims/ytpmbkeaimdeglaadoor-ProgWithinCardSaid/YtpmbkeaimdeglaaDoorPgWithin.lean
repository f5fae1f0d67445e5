/-
  The law ProgWithin, for any program that keeps 'Face9' (printed by gen/mkwithin9.py).
-/
import Derived.Test.YtpmbkeaimdeglaaDoorPgFace
namespace Go.Proofs.YtpmbkeaimdeglaaDoor
open Go.RowKit Go.Extern.Stop Go.Stop Go.Extern

set_option maxRecDepth 100000 in
set_option maxHeartbeats 2000000 in
theorem within_any9 (F9 : Face9) {w : World} {v : Value} {F : Fo} {ko : Option Addr} {kn kc : Nat} {K : List Int} (h : SlOf w v F) (hK : IntL w ko kn K) (hg : Glob w) :
    Calls Tryd.prog 7 #[v, .slice ko kn kc] w fun e w' => e = .returned (.bool true) ∧ Keeps (fun _ => False) w w' := by
  have cf := Lib.hid (few_any h)
  have HG := Lib.hid hg
  by_cases hf : wt F 0 ≤ 250
  · rw [decide_eq_true hf] at cf
    by_cases hk : kn ≤ 20
    · have b1 : ¬ (20 : Int) < (kn : Int) := by omega
      obtain ⟨f1, f2⟩ := few_says hf
      have C1 := Lib.hid (fun V (k : Keeps (fun _ => False) w V) => F9.right_ (kc := kc) (h.same k) (hK.same k) hk (by omega) (by omega))
      by_cases hr : (right F K).1 = 0
      · obtain ⟨x, rfl, hx⟩ := h.plain
        obtain ⟨p1, p2, p3, p4, p5⟩ := within hr
        have ws := wrap_size F
        have wdp := wrap_deep F
        have CQ : Hid (∀ (V U : World) (g : Nat), Keeps (fun _ => False) w V → Keeps (fun _ => False) V U → Whole V g 42 #[.int .i64 13, .int .i64 0, .int .i64 0, .int .i64 0, .int .i64 0, .int .i64 0, .int .i64 0, slv x, .slice none 0 0] → SlOf U (.slice (some ⟨g, 0, none⟩) 1 1) (wrap F)) := Lib.hid fun V U g k k2 hW =>
          SlOf.same (sl_lit (s := s13) (b := x) (e := (none, 0, 0)) hW (h.same k) (sl_none V) rfl) k2
        have CR := Lib.hid (fun V (q : Value) (k : Keeps (fun _ => False) w V) (hq : SlOf V q (wrap F)) => F9.right_ (kc := kc) hq (hK.same k) hk (by omega) (by omega))
        have CS := Lib.hid (fun V (k : Keeps (fun _ => False) w V) => F9.size_ (h.same k) (by omega) (by omega))
        have CD := Lib.hid (fun V (k : Keeps (fun _ => False) w V) => F9.deep_ (h.same k) (by omega) (by omega))
        have CS2 := Lib.hid (fun V (q : Value) (hq : SlOf V q (wrap F)) => F9.size_ hq (by omega) (by omega))
        have CD2 := Lib.hid (fun V (q : Value) (hq : SlOf V q (wrap F)) => F9.deep_ hq (by omega) (by omega))
        rw [ws] at CS2
        rw [wdp] at CD2
        generalize hr2 : right (wrap F) K = r at *
        obtain ⟨r1, r2⟩ := r
        generalize hr3 : right F K = t at *
        obtain ⟨t1, t2⟩ := t
        simp only at hr C1 CR p3 p4 p5
        subst hr
        generalize F.size = sz at *
        generalize F.deep = dp at *
        have P3 := Lib.hid p3
        have P4 := Lib.hid p4
        have P5 := Lib.hid p5
        unfold slv at C1 CS CD CQ cf ⊢
        clear h hK hg hf hk f1 f2 p3 p4 p5 hr2 hr3 ws wdp hx
        obtain ⟨xo, xn, xc⟩ := x
        simp only at C1 CS CD CQ cf ⊢
        go_enter Tryd.func7, Tryd.ntmps7
        go_wp2_with fail
        refine cf.out.mono ?_
        rintro e w1 ⟨rfl, hK⟩
        have K1 := Lib.hid hK
        clear hK
        go_wp2_with fail
        refine (C1.out _ K1.out).mono ?_
        rintro e w2 ⟨ev, rfl, hE, hK⟩
        have K2 := Lib.hid (K1.out.trans hK fun _ _ => id)
        have E2 := Lib.hid hE
        clear hE
        clear hK
        go_wp2_with fail
        obtain rfl := E2.out.nil
        refine (no_nil _).mono ?_
        rintro e w' ⟨rfl, rfl⟩
        go_wp2_with fail
        refine (CR.out _ _ (K2.out.alloc _) (CQ.out _ _ _ (K2.out.alloc _) (Keeps.refl _ _) (Whole.made w2 _ _))).mono ?_
        rintro e w3 ⟨ev, rfl, hE, hK⟩
        have E3 := Lib.hid hE
        have K3 := Lib.hid ((K2.out.alloc _).trans hK fun _ _ => id)
        have Q3 : Hid (∀ U, Keeps (fun _ => False) w3 U → SlOf U (.slice (some ⟨w2.heap.size, 0, none⟩) 1 1) (wrap F)) := Lib.hid fun U k => CQ.out _ U _ (K2.out.alloc _) (hK.trans k fun _ _ => id) (Whole.made w2 _ _)
        clear hE hK CQ
        go_wp2_with fail
        refine (CD.out _ K3.out).mono ?_
        rintro e w4 ⟨rfl, hK⟩
        have K4 := Lib.hid (K3.out.trans hK fun _ _ => id)
        have E4 := Lib.hid (E3.out.same hK)
        have J4 := Lib.hid hK
        clear hK
        by_cases d8 : dp = 8
        · subst d8
          have p3 := P3.out rfl
          rcases p3 with rfl | rfl
          · skip
            go_wp2_with fail
            refine (no_u E4.out).mono ?_
            rintro e w' ⟨rfl, rfl⟩
            go_wp2_with fail
            refine (alive_any9 F9 (HG.out.keeps K4.out id)).mono ?_
            rintro e w9 ⟨rfl, hK⟩
            have K9 := Lib.hid (K4.out.trans hK fun _ _ => id)
            clear hK
            go_wp2_with fail
            go_ret
            exact ⟨rfl, K9.out⟩
          · skip
            go_wp2_with fail
            refine (no_u E4.out).mono ?_
            rintro e w' ⟨rfl, rfl⟩
            go_wp2_with fail
            refine (no_u E4.out).mono ?_
            rintro e w' ⟨rfl, rfl⟩
            go_wp2_with fail
            refine (alive_any9 F9 (HG.out.keeps K4.out id)).mono ?_
            rintro e w9 ⟨rfl, hK⟩
            have K9 := Lib.hid (K4.out.trans hK fun _ _ => id)
            clear hK
            go_wp2_with fail
            go_ret
            exact ⟨rfl, K9.out⟩
        · have b8 : ((dp : Int) == 8) = false := by simp; omega
          by_cases s100 : sz = 100
          · obtain rfl := P4.out d8 s100
            subst s100
            go_wp2_with fail
            refine (CS.out _ K4.out).mono ?_
            rintro e w5 ⟨rfl, hK⟩
            have K5 := Lib.hid (K4.out.trans hK fun _ _ => id)
            have E5 := Lib.hid (E4.out.same hK)
            clear hK
            go_wp2_with fail
            refine (no_u E5.out).mono ?_
            rintro e w' ⟨rfl, rfl⟩
            go_wp2_with fail
            refine (alive_any9 F9 (HG.out.keeps K5.out id)).mono ?_
            rintro e w9 ⟨rfl, hK⟩
            have K9 := Lib.hid (K5.out.trans hK fun _ _ => id)
            clear hK
            go_wp2_with fail
            go_ret
            exact ⟨rfl, K9.out⟩
          · obtain rfl := P5.out d8 s100
            have b100 : ((sz : Int) == 100) = false := by simp; omega
            have wz : IntKind.i64.wrap ((sz : Int) + 1) = ((sz + 1 : Nat) : Int) := by rw [show (sz : Int) + 1 = ((sz + 1 : Nat) : Int) by omega]; exact IntWalk.i64_in _ (by omega)
            have wq : IntKind.i64.wrap ((dp : Int) + 1) = ((dp + 1 : Nat) : Int) := by rw [show (dp : Int) + 1 = ((dp + 1 : Nat) : Int) by omega]; exact IntWalk.i64_in _ (by omega)
            have eq1 : (((sz + 1 : Nat) : Int) == ((sz + 1 : Nat) : Int)) = true := by simp
            have eq2 : (((dp + 1 : Nat) : Int) == ((dp + 1 : Nat) : Int)) = true := by simp
            go_wp2_with fail
            refine (CS.out _ K4.out).mono ?_
            rintro e w5 ⟨rfl, hK⟩
            have K5 := Lib.hid (K4.out.trans hK fun _ _ => id)
            have E5 := Lib.hid (E4.out.same hK)
            have J5 := Lib.hid (J4.out.trans hK fun _ _ => id)
            clear hK
            go_wp2_with fail
            refine (no_u E5.out).mono ?_
            rintro e w' ⟨rfl, rfl⟩
            go_wp2_with fail
            refine (CS2.out _ _ (Q3.out _ J5.out)).mono ?_
            rintro e w6 ⟨rfl, hK⟩
            have K6 := Lib.hid (K5.out.trans hK fun _ _ => id)
            have J6 := Lib.hid (J5.out.trans hK fun _ _ => id)
            clear hK
            go_wp2_with fail
            refine (CS.out _ K6.out).mono ?_
            rintro e w7 ⟨rfl, hK⟩
            have K7 := Lib.hid (K6.out.trans hK fun _ _ => id)
            have J7 := Lib.hid (J6.out.trans hK fun _ _ => id)
            clear hK
            go_wp2_with fail
            refine (CD2.out _ _ (Q3.out _ J7.out)).mono ?_
            rintro e w8 ⟨rfl, hK⟩
            have K8 := Lib.hid (K7.out.trans hK fun _ _ => id)
            clear hK
            go_wp2_with fail
            refine (CD.out _ K8.out).mono ?_
            rintro e w10 ⟨rfl, hK⟩
            have K10 := Lib.hid (K8.out.trans hK fun _ _ => id)
            clear hK
            go_wp2_with fail
            refine (alive_any9 F9 (HG.out.keeps K10.out id)).mono ?_
            rintro e w9 ⟨rfl, hK⟩
            have K9 := Lib.hid (K10.out.trans hK fun _ _ => id)
            clear hK
            go_wp2_with fail
            go_ret
            exact ⟨rfl, K9.out⟩
      · have C1 := C1
        generalize right F K = t at *
        obtain ⟨t1, t2⟩ := t
        simp only at hr C1
        have b2 : ((t1 : Int) != 0) = true := by simp; omega
        clear h hK hg hf hk f1 f2
        go_enter Tryd.func7, Tryd.ntmps7
        go_wp2_with fail
        refine cf.out.mono ?_
        rintro e w1 ⟨rfl, hK⟩
        have K1 := Lib.hid hK
        clear hK
        go_wp2_with fail
        refine (C1.out _ K1.out).mono ?_
        rintro e w2 ⟨ev, rfl, hE, hK⟩
        have K2 := Lib.hid (K1.out.trans hK fun _ _ => id)
        have E2 := Lib.hid hE
        clear hE
        clear hK
        go_wp2_with fail
        refine (no_u E2.out).mono ?_
        rintro e w' ⟨rfl, rfl⟩
        go_wp2_with fail
        refine (alive_any9 F9 (HG.out.keeps K2.out id)).mono ?_
        rintro e w9 ⟨rfl, hK⟩
        have K9 := Lib.hid (K2.out.trans hK fun _ _ => id)
        clear hK
        go_wp2_with fail
        go_ret
        exact ⟨rfl, K9.out⟩
    · have b1 : (20 : Int) < (kn : Int) := by omega
      clear h hK hg hf hk
      go_enter Tryd.func7, Tryd.ntmps7
      go_wp2_with fail
      refine cf.out.mono ?_
      rintro e w1 ⟨rfl, hK⟩
      have K1 := Lib.hid hK
      clear hK
      go_wp2_with fail
      refine (alive_any9 F9 (HG.out.keeps K1.out id)).mono ?_
      rintro e w9 ⟨rfl, hK⟩
      have K9 := Lib.hid (K1.out.trans hK fun _ _ => id)
      clear hK
      go_wp2_with fail
      go_ret
      exact ⟨rfl, K9.out⟩
  · rw [decide_eq_false hf] at cf
    clear h hK hg hf
    go_enter Tryd.func7, Tryd.ntmps7
    go_wp2_with fail
    refine cf.out.mono ?_
    rintro e w1 ⟨rfl, hK⟩
    have K1 := Lib.hid hK
    clear hK
    go_wp2_with fail
    refine (alive_any9 F9 (HG.out.keeps K1.out id)).mono ?_
    rintro e w9 ⟨rfl, hK⟩
    have K9 := Lib.hid (K1.out.trans hK fun _ _ => id)
    clear hK
    go_wp2_with fail
    go_ret
    exact ⟨rfl, K9.out⟩
end Go.Proofs.YtpmbkeaimdeglaaDoor
