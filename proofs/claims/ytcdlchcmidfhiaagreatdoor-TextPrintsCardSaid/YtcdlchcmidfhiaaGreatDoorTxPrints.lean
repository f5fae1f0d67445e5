/-
  concordref10.Print, concordlaw10.TextPrints by contract.
-/
import Derived.Test.YtcdlchcmidfhiaaGreatDoorTxTold
import Derived.Test.YtcdlchcmidfhiaaGreatDoorTpPrint
import Derived.Test.YtcdlchcmidfhiaaGreatDoorTxAgain
namespace Go.Proofs.YtcdlchcmidfhiaaGreatDoor
open Go.RowKit Go.Maps Go.Extern.Stop Go.Stop Go.Extern

theorem k8_list {w : World} {b : Nat} (h : Whole w b 3 #[.int .i64 3, .int .i64 3, .int .i64 3, .int .i64 3, .int .i64 3, .int .i64 3, .int .i64 3, .int .i64 3]) : IntL w (some ⟨b, 0, none⟩) 8 K8 :=
  ⟨rfl, by decide, (fun e => by cases e), fun _ => ⟨b, 0, rfl, fun i x hx => by
    have hi : i < 8 := by have := (List.getElem?_eq_some_iff.1 hx).1; simpa [K8] using this
    have hv : x = 3 := by
      have : ∀ j, j < 8 → K8[j]? = some 3 := by decide
      rw [this i hi] at hx
      exact (Option.some.inj hx).symm
    rw [hv, Nat.zero_add, h.at_ i]
    match i, hi with
    | 0, _ => rfl
    | 1, _ => rfl
    | 2, _ => rfl
    | 3, _ => rfl
    | 4, _ => rfl
    | 5, _ => rfl
    | 6, _ => rfl
    | 7, _ => rfl⟩⟩

set_option maxRecDepth 100000 in
set_option maxHeartbeats 1000000 in
theorem rprint10_any {w : World} {v : Value} {F : Fo} (h : SlOf w v F) (hs : F.size ≤ 250) (hd : F.deep ≤ 30) :
    Calls Tryz.prog 10 #[v] w fun e w' => Keeps (fun _ => False) w w' ∧
      (((right F K8).1 = 0 ∧ e = .returned (.tuple #[.string (mkB (textT F)), .int .i64 0, .int .i64 0])) ∨
       ((right F K8).1 ≠ 0 ∧ e = .returned (.tuple #[.string (mkB []), .int .i64 ((right F K8).1 : Nat), .int .i64 ((right F K8).2 : Nat)]))) := by
  obtain ⟨W1, hW1⟩ : ∃ V, V = w.alloc (.cells #[.int .i64 3, .int .i64 3, .int .i64 3, .int .i64 3, .int .i64 3, .int .i64 3, .int .i64 3, .int .i64 3] 3) := ⟨_, rfl⟩
  have K1 := Lib.hid (show Keeps (fun _ => False) w W1 by rw [hW1]; exact (Keeps.refl _ w).alloc _)
  have IL : IntL W1 (some ⟨w.heap.size, 0, none⟩) 8 K8 := k8_list (by rw [hW1]; exact Whole.made w _ _)
  have CR := Lib.hid (rright_any (w := W1) (kc := 8) (h.same K1.out) IL (by omega) (by omega))
  have e0 : mkB (List.replicate 0 32) = (⟨#[]⟩ : ByteArray) := rfl
  have CL := fun V (k : Keeps (fun _ => False) w V) (hr : (right F K8).1 = 0) => told_any F.size F (Nat.le_refl _) V v 0 (h.same k) (ok_of_right hr) (by omega) (by have := (few_right hr).2.2; rw [text_txt] at this; omega)
  rw [e0] at CL
  have CL := Lib.hid CL
  have HT := Lib.hid (fun (hr : (right F K8).1 = 0) => (few_right hr).2.2)
  have hW1' := Lib.hid hW1
  obtain ⟨k, hk⟩ : ∃ k, (right F K8).1 = k := ⟨_, rfl⟩
  obtain ⟨a, ha⟩ : ∃ a, (right F K8).2 = a := ⟨_, rfl⟩
  rw [hk, ha] at CR
  rw [hk] at CL HT
  rw [hk, ha]
  rw [text_txt] at HT ⊢
  have zT := mkB_size (txt F 0)
  generalize txt F 0 = T at *
  clear h hs hd IL e0 hW1 hk ha
  go_enter Tryz.func10, Tryz.ntmps10
  go_wp2_with fail
  rw [← hW1'.out]
  refine CR.out.mono ?_
  rintro e w2 ⟨rfl, hK⟩
  have K2 := Lib.hid (K1.out.trans hK fun _ _ => id)
  clear hK CR
  by_cases h0 : k = 0
  · subst h0
    have C3 := Lib.hid (CL.out w2 K2.out rfl)
    have tl := HT.out rfl
    have b1 : ¬ (20000 : Int) < (T.length : Int) := by omega
    clear CL tl
    go_wp2_with fail
    refine C3.out.mono ?_
    rintro e w3 ⟨rfl, hK⟩
    have K3 := Lib.hid (K2.out.trans hK fun _ _ => id)
    clear hK C3
    go_wp2_with fail
    refine bodyPost_ret (v := .tuple #[.string (mkB T), .int .i64 0, .int .i64 0]) (by simp [results, Tryz.results10, go_sem]) rfl ?_
    exact ⟨K3.out, by first | exact rfl | exact .inl ⟨rfl, rfl⟩⟩
  · have b1 : ((k : Int) != 0) = true := by simp; exact h0
    have b2 : ¬ (k : Int) = 0 := by omega
    go_wp2_with fail
    refine bodyPost_ret (v := .tuple #[.string (mkB []), .int .i64 (k : Nat), .int .i64 (a : Nat)]) (by simp [results, Tryz.results10, go_sem, mkB]) rfl ?_
    exact ⟨K2.out, by first | exact .inr ⟨h0, rfl⟩ | exact ⟨h0, rfl⟩ | exact rfl⟩

set_option maxRecDepth 100000 in
set_option maxHeartbeats 2000000 in
theorem prints_any10 (F10 : Face10) {w : World} {v : Value} {F : Fo} (hF : SlOf w v F) (hg : GlobT w) :
    Calls Tryz.prog 3 #[v] w fun e w' => e = .returned (.bool true) ∧ Keeps (fun _ => False) w w' := by
  have AL := Lib.hid (fun V (h : GlobT V) => alive_any10 F10 (w := V) h)
  have HG := Lib.hid hg
  have CW := Lib.hid (few_any hF)
  have V0 := Lib.hid hF
  have qe : (mkB []).toList = [] := mkB_list []
  have HS := Lib.hid (fun (q : wt F 0 ≤ 250) => few_says q)
  generalize wt F 0 = x at *
  clear hg hF
  go_enter Tryz.func3, Tryz.ntmps3
  go_wp2_with fail
  refine CW.out.mono ?_
  rintro e w1 ⟨rfl, hK⟩
  have K1 := Lib.hid hK
  clear hK CW
  by_cases hx : x ≤ 250
  · obtain ⟨q1, q2⟩ := HS.out hx
    have bx : decide (x ≤ 250) = true := decide_eq_true hx
    have CP := Lib.hid (F10.print_ (w := w1) (HG.out.keeps K1.out id) (V0.out.same K1.out) (by omega) (by omega))
    have CR := Lib.hid (fun V (k : Keeps (fun _ => False) w V) => rprint10_any (w := V) (V0.out.same k) q1 q2)
    have Q1 := Lib.hid (show F.size ≤ 20000 by omega)
    clear q1 q2 hx
    go_wp2_with fail
    refine CP.out.mono ?_
    rintro e w2 ⟨hK, h⟩
    have J2 := Lib.hid hK
    have K2 := Lib.hid (K1.out.trans hK fun _ _ => id)
    clear hK CP
    rcases h with ⟨hr, hl, rfl⟩ | ⟨hr, hl, _⟩ | ⟨hr, ev, rfl, hE⟩
    · have PT := Lib.hid (parse_text (ok_of_right hr) hl)
      have TE := Lib.hid (show ((mkB (textT F)).toList == (mkB (textT F)).toList) = true by simp)
      have HR := Lib.hid hr
      have HL := Lib.hid hl
      clear hr hl
      go_wp2_with fail
      refine (CR.out w2 K2.out).mono ?_
      rintro e w3 ⟨hK, h⟩
      have K3 := Lib.hid (K2.out.trans hK fun _ _ => id)
      clear hK CR
      rcases h with ⟨_, rfl⟩ | ⟨hr, _⟩
      · have CQ := Lib.hid (fun V (k : Keeps (fun _ => False) w V) => F10.parse_ (w := V) (textT F) (HG.out.keeps k id) HL.out)
        generalize hT : textT F = T at *
        have te := TE.out
        clear hT
        have E0 : Hid (ErrU 0 w3 .nilIface 0 0) := Lib.hid (.inl ⟨rfl, rfl, rfl⟩)
        go_wp2_with fail
        refine (no_nil _).mono ?_
        rintro e w' ⟨rfl, rfl⟩
        go_wp2_with fail
        refine (place_u E0.out (HG.out.keeps K3.out id).g).mono ?_
        rintro e w4 ⟨rfl, hK⟩
        have K4 := Lib.hid (K3.out.trans hK fun _ _ => id)
        clear hK
        go_wp2_with fail
        refine (CQ.out w4 K4.out).mono ?_
        rintro e w5 ⟨hK, h⟩
        have K5 := Lib.hid (K4.out.trans hK fun _ _ => id)
        clear hK CQ
        rcases h with ⟨G, u, hp, rfl, hu⟩ | ⟨k, a, ev, hp, _⟩
        · rw [PT.out] at hp
          injection hp with hp
          subst hp
          have CS := Lib.hid (same_yes9 _ F (Nat.le_refl _) w5 v u (V0.out.same K5.out) hu Q1.out)
          clear hu
          go_wp2_with fail
          refine (no_nil _).mono ?_
          rintro e w' ⟨rfl, rfl⟩
          go_wp2_with fail
          refine CS.out.mono ?_
          rintro e w6 ⟨rfl, hK⟩
          have K6 := Lib.hid (K5.out.trans hK fun _ _ => id)
          clear hK
          go_wp2_with fail
          refine (AL.out _ (HG.out.keeps K6.out id)).mono ?_
          rintro e w7 ⟨rfl, hK⟩
          have K7 := Lib.hid (K6.out.trans hK fun _ _ => id)
          clear hK
          go_wp2_with fail
          go_ret
          exact ⟨rfl, K7.out⟩
        · rw [PT.out] at hp
          cases hp
      · exact absurd HR.out hr
    · have := (few_right hr).2.2
      exact absurd hl (by omega)
    · have E2 := Lib.hid hE
      have HR := Lib.hid hr
      have b2 : (((right F K8).1 : Int) != 0) = true := by simp; exact hr
      clear hr hE
      obtain ⟨rk, hrk⟩ : ∃ x, (right F K8).1 = x := ⟨_, rfl⟩
      obtain ⟨ra, hra⟩ : ∃ x, (right F K8).2 = x := ⟨_, rfl⟩
      rw [hrk, hra] at CR E2
      rw [hrk] at b2 HR
      clear hrk hra
      go_wp2_with fail
      refine (CR.out w2 K2.out).mono ?_
      rintro e w3 ⟨hK, h⟩
      have K3 := Lib.hid (K2.out.trans hK fun _ _ => id)
      have E3 := Lib.hid (E2.out.same hK)
      clear hK CR
      rcases h with ⟨hr, _⟩ | ⟨_, rfl⟩
      · exact absurd hr HR.out
      · have n1 : ((rk : Int) != (rk : Int)) = false := by simp
        have n2 : ((ra : Int) != (ra : Int)) = false := by simp
        go_wp2_with fail
        refine (no_u E3.out).mono ?_
        rintro e w' ⟨rfl, rfl⟩
        go_wp2_with fail
        refine (place_u E3.out (HG.out.keeps K3.out id).g).mono ?_
        rintro e w4 ⟨rfl, hK⟩
        have K4 := Lib.hid (K3.out.trans hK fun _ _ => id)
        clear hK
        go_wp2_with fail
        refine (AL.out _ (HG.out.keeps K4.out id)).mono ?_
        rintro e w5 ⟨rfl, hK⟩
        have K5 := Lib.hid (K4.out.trans hK fun _ _ => id)
        clear hK
        go_wp2_with fail
        go_ret
        exact ⟨rfl, K5.out⟩
  · have bx : decide (x ≤ 250) = false := decide_eq_false hx
    clear hx
    go_wp2_with fail
    refine (AL.out _ (HG.out.keeps K1.out id)).mono ?_
    rintro e w5 ⟨rfl, hK⟩
    have K5 := Lib.hid (K1.out.trans hK fun _ _ => id)
    clear hK
    go_wp2_with fail
    go_ret
    exact ⟨rfl, K5.out⟩
end Go.Proofs.YtcdlchcmidfhiaaGreatDoor
