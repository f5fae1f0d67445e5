/-
  The law ProgParts, for any program that keeps 'Face9' (printed by gen/mkparts9.py).
-/
import Derived.Test.YtpmbkeaimdeglaaDoorPgBoth
namespace Go.Proofs.YtpmbkeaimdeglaaDoor
open Go.RowKit Go.Extern.Stop Go.Stop Go.Extern

set_option maxRecDepth 100000 in
set_option maxHeartbeats 4000000 in
theorem parts_any9 (F9 : Face9) {w : World} {v u : Value} {F G : Fo} {ko : Option Addr} {kn kc : Nat} {K : List Int} (h : SlOf w v F) (h' : SlOf w u G) (hK : IntL w ko kn K) (hg : Glob w) :
    Calls Tryd.prog 6 #[v, u, .slice ko kn kc] w fun e w' => e = .returned (.bool true) ∧ Keeps (fun _ => False) w w' := by
  have cf := Lib.hid (few_any h)
  have cg := Lib.hid (fun V (k : Keeps (fun _ => False) w V) => few_any (h'.same k))
  have HG := Lib.hid hg
  by_cases hf : wt F 0 ≤ 250
  · rw [decide_eq_true hf] at cf
    by_cases hf' : wt G 0 ≤ 250
    · rw [decide_eq_true hf'] at cg
      by_cases hk : kn ≤ 20
      · have b1 : ¬ (20 : Int) < (kn : Int) := by omega
        obtain ⟨f1, f2⟩ := few_says hf
        obtain ⟨g1, g2⟩ := few_says hf'
        obtain ⟨vo, vc, rfl, _⟩ := h.fit
        obtain ⟨uo, uc, rfl, _⟩ := h'.fit
        obtain ⟨ps, S1, p1, _, p0, pc⟩ := h.sts
        obtain ⟨qs, S2, q1, _, q0, qc⟩ := h'.sts
        have fl := Fo.len_le_size F
        have gl := Fo.len_le_size G
        obtain ⟨n1, hn1⟩ : ∃ n, F.len = n := ⟨_, rfl⟩
        obtain ⟨n2, hn2⟩ : ∃ n, G.len = n := ⟨_, rfl⟩
        rw [hn1] at p1 p0 fl h cf ⊢
        rw [hn2] at q1 q0 gl h' cg ⊢
        have sz := Fo.size_app F G
        have dz := Fo.deep_app F G
        have SA := Lib.hid (S1.app S2)
        have hl12 : (ps ++ qs).length = n1 + n2 := by rw [List.length_append, p1, q1]
        have PC := Lib.hid pc
        have QC := Lib.hid qc
        have P0 := Lib.hid p0
        have Q0 := Lib.hid q0
        have P1 := Lib.hid p1
        have Q1 := Lib.hid q1
        have HL := Lib.hid hl12
        have CA := Lib.hid (fun V (k : Keeps (fun _ => False) w V) => F9.right_ (kc := kc) (h.same k) (hK.same k) hk (by omega) (by omega))
        have CB := Lib.hid (fun V (k : Keeps (fun _ => False) w V) => F9.right_ (kc := kc) (h'.same k) (hK.same k) hk (by omega) (by omega))
        have CC := Lib.hid (fun V (q : Value) (k : Keeps (fun _ => False) w V) (hq : SlOf V q (F.app G)) => F9.right_ (kc := kc) hq (hK.same k) hk (by omega) (by omega))
        have SP := Lib.hid (fun V (k : Keeps (fun _ => False) w V) => F9.size_ (h.same k) (by omega) (by omega))
        have SQ := Lib.hid (fun V (k : Keeps (fun _ => False) w V) => F9.size_ (h'.same k) (by omega) (by omega))
        have SB := Lib.hid (fun V (q : Value) (hq : SlOf V q (F.app G)) => F9.size_ hq (by omega) (by omega))
        have DP := Lib.hid (fun V (k : Keeps (fun _ => False) w V) => F9.deep_ (h.same k) (by omega) (by omega))
        have DQ := Lib.hid (fun V (k : Keeps (fun _ => False) w V) => F9.deep_ (h'.same k) (by omega) (by omega))
        have DB := Lib.hid (fun V (q : Value) (hq : SlOf V q (F.app G)) => F9.deep_ hq (by omega) (by omega))
        have first := Lib.hid (fun hr => parts_first (F := F) (G := G) (K := K) hr)
        have second := Lib.hid (fun hs hr => parts_second (F := F) (G := G) (K := K) hs hr)
        rw [sz] at SB second
        rw [dz] at DB
        have pl : Hid ((right G K).2 ≤ 1000) := Lib.hid (by have := right_place G K; omega)
        generalize right F K = a at *
        generalize right G K = b at *
        generalize right (F.app G) K = c at *
        obtain ⟨a1, a2⟩ := a
        obtain ⟨b1', b2⟩ := b
        obtain ⟨c1, c2⟩ := c
        simp only at CA CB CC first second pl
        generalize F.size = sp at *
        generalize G.size = sq at *
        generalize F.deep = dp at *
        generalize G.deep = dq at *
        have n3 : n1 + n2 ≤ 100000 := by omega
        have sp2 : (sp : Int) ≤ 250 := by omega
        have sq2 : (sq : Int) ≤ 250 := by omega
        have ws : IntKind.i64.wrap ((sp : Int) + (sq : Int)) = ((sp + sq : Nat) : Int) := by rw [show (sp : Int) + (sq : Int) = ((sp + sq : Nat) : Int) by omega]; exact IntWalk.i64_in _ (by omega)
        clear h h' hK hg hf hf' hk S1 S2 p1 q1 p0 q0 pc qc hl12 sz dz fl gl hn1 hn2 g1 f1
        go_enter Tryd.func6, Tryd.ntmps6
        go_wp2_with fail
        refine cf.out.mono ?_
        rintro e w1 ⟨rfl, hK⟩
        have K1 := Lib.hid hK
        clear hK
        go_wp2_with fail
        refine (cg.out _ K1.out).mono ?_
        rintro e w2 ⟨rfl, hK⟩
        have K2 := Lib.hid (K1.out.trans hK fun _ _ => id)
        clear hK
        have M0 : Hid (Mine stK w2 (w2.alloc (.cells #[] 42)) (.slice (some ⟨w2.heap.size, 0, none⟩) 0 0) []) := Lib.hid ⟨row_none stK (Whole.made w2 _ _) rfl, fun g hg => by simp [Value.ownBlock] at hg; omega⟩
        go_wp2_with (first
          | (at_builtin; refine wpList_append_arg stK rfl _ _ rfl w2 _ [] ps rfl M0.out ((Keeps.refl _ w2).alloc _) vo n1 vc rfl P1.out (fun ad ha j y hy => by have := PC.out ad ha j y hy; exact ((K2.out.alloc _).cell (cell_lt this) id).trans this) P0.out n1 (by simp) (by omega) ?_; intro ao ac w3 hM hKa hKb; have M3 := Lib.hid hM; have K3a := Lib.hid hKa; clear hM hKa hKb)
          | (at_builtin; refine wpList_append_arg stK rfl _ _ rfl w2 _ ([] ++ ps) qs rfl M3.out K3a.out uo n2 uc rfl Q1.out (fun ad ha j y hy => by have := QC.out ad ha j y hy; exact ((K2.out.trans K3a.out fun _ _ => id).cell (cell_lt this) id).trans this) Q0.out (n1 + n2) (by simp [P1.out]) n3 ?_; intro ao2 ac2 w4 hM hKa hKb; have M4 := Lib.hid hM; have K4a := Lib.hid hKa; clear hM hKa hKb))
        have K4 := Lib.hid (K2.out.trans K4a.out fun _ _ => id)
        have BS : Hid (∀ U, Keeps (fun _ => False) w4 U → SlOf U (.slice ao2 (n1 + n2) ac2) (F.app G)) := Lib.hid fun U k => by
          rw [← app_items]
          exact SlOf.same (sl_row M4.out (SA.out.same K4.out) HL.out n3) k
        have J4 : Hid (Keeps (fun _ => False) w4 w4) := Lib.hid (Keeps.refl _ _)
        clear SA PC QC P0 Q0 P1 Q1 HL M0 M3 M4 K3a
        generalize n1 + n2 = n12 at *
        refine (SP.out _ K4.out).mono ?_
        rintro e w5 ⟨rfl, hK⟩
        have K5 := Lib.hid (K4.out.trans hK fun _ _ => id)
        have J5 := Lib.hid (J4.out.trans hK fun _ _ => id)
        clear hK
        go_upto_region 5 with fail
        go_cut [49] from 33 to 49 (fun x wx => x = .bool false ∧ Keeps (fun _ => False) w5 wx)
        case first =>
          have L5 : Hid (Keeps (fun _ => False) w5 w5) := Lib.hid (Keeps.refl _ _)
          have eqs : (((sp + sq : Nat) : Int) != ((sp + sq : Nat) : Int)) = false := by simp
          go_wp2_with fail
          refine (SB.out _ _ (BS.out _ J5.out)).mono ?_
          rintro e w6 ⟨rfl, hK⟩
          have K6 := Lib.hid (K5.out.trans hK fun _ _ => id)
          have J6 := Lib.hid (J5.out.trans hK fun _ _ => id)
          have L6 := Lib.hid (L5.out.trans hK fun _ _ => id)
          clear hK
          go_wp2_with fail
          refine (SQ.out _ K6.out).mono ?_
          rintro e w7 ⟨rfl, hK⟩
          have K7 := Lib.hid (K6.out.trans hK fun _ _ => id)
          have J7 := Lib.hid (J6.out.trans hK fun _ _ => id)
          have L7 := Lib.hid (L6.out.trans hK fun _ _ => id)
          clear hK
          go_wp2_with fail
          refine (DB.out _ _ (BS.out _ J7.out)).mono ?_
          rintro e w8 ⟨rfl, hK⟩
          have K8 := Lib.hid (K7.out.trans hK fun _ _ => id)
          have J8 := Lib.hid (J7.out.trans hK fun _ _ => id)
          have L8 := Lib.hid (L7.out.trans hK fun _ _ => id)
          clear hK
          go_wp2_with fail
          refine (DP.out _ K8.out).mono ?_
          rintro e w9 ⟨rfl, hK⟩
          have K9 := Lib.hid (K8.out.trans hK fun _ _ => id)
          have L9 := Lib.hid (L8.out.trans hK fun _ _ => id)
          clear hK
          obtain ⟨d3, hd3⟩ : ∃ d, max dp dq = d := ⟨_, rfl⟩
          rw [hd3]
          have dm : Hid ((dp ≤ dq ∧ d3 = dq) ∨ (¬ dp ≤ dq ∧ d3 = dp)) := Lib.hid (by omega)
          clear hd3
          go_wp2_with fail
          refine (DQ.out _ K9.out).mono ?_
          rintro e w10 ⟨rfl, hK⟩
          have L10 := Lib.hid (L9.out.trans hK fun _ _ => id)
          clear hK
          by_cases m1 : dp < dq
          · obtain rfl : d3 = dq := by have := dm.out; omega
            have m2 : (dp : Int) < (d3 : Int) := by omega
            have m3 : ((d3 : Int) != (d3 : Int)) = false := by simp
            clear m1
            go_wp2_with fail
            go_meet
            case rel => exact ⟨rfl, L10.out⟩
          · obtain rfl : d3 = dp := by have := dm.out; omega
            have m3 : ((d3 : Int) != (d3 : Int)) = false := by simp
            by_cases m4 : dq < d3
            · have m2 : (dq : Int) < (d3 : Int) := by omega
              clear m1 m4
              go_wp2_with fail
              go_meet
              case rel => exact ⟨rfl, L10.out⟩
            · obtain rfl : d3 = dq := by omega
              clear m1 m4
              go_wp2_with fail
              go_meet
              case rel => exact ⟨rfl, L10.out⟩
        case rest =>
          obtain ⟨rfl, hc⟩ := hcut
          have K6 := Lib.hid (K5.out.trans hc fun _ _ => id)
          have J6 := Lib.hid (J5.out.trans hc fun _ _ => id)
          clear hc
          go_wp2_with fail
          refine (SB.out _ _ (BS.out _ J6.out)).mono ?_
          rintro e w7 ⟨rfl, hK⟩
          have K7 := Lib.hid (K6.out.trans hK fun _ _ => id)
          have J7 := Lib.hid (J6.out.trans hK fun _ _ => id)
          clear hK
          by_cases big : 100 < sp + sq
          · have b3 : (100 : Int) < ((sp + sq : Nat) : Int) := by omega
            clear big
            go_wp2_with fail
            refine (alive_any9 F9 (HG.out.keeps K7.out id)).mono ?_
            rintro e w99 ⟨rfl, hK⟩
            have K99 := Lib.hid (K7.out.trans hK fun _ _ => id)
            clear hK
            go_wp2_with fail
            go_ret
            exact ⟨rfl, K99.out⟩
          · have b3 : ¬ (100 : Int) < ((sp + sq : Nat) : Int) := by omega
            have second := Lib.hid (second.out (by omega))
            clear big
            go_wp2_with fail
            refine (CA.out _ K7.out).mono ?_
            rintro e w8 ⟨ea, rfl, hE, hK⟩
            have K8 := Lib.hid (K7.out.trans hK fun _ _ => id)
            have A8 := Lib.hid hE
            have J8 := Lib.hid (J7.out.trans hK fun _ _ => id)
            clear hE
            clear hK
            go_wp2_with fail
            refine (CB.out _ K8.out).mono ?_
            rintro e w9 ⟨eb, rfl, hE, hK⟩
            have K9 := Lib.hid (K8.out.trans hK fun _ _ => id)
            have A9 := Lib.hid (A8.out.same hK)
            have B9 := Lib.hid hE
            have J9 := Lib.hid (J8.out.trans hK fun _ _ => id)
            clear hE
            clear hK
            go_wp2_with fail
            refine (CC.out _ _ K9.out (BS.out _ J9.out)).mono ?_
            rintro e w10 ⟨ec, rfl, hE, hK⟩
            have K10 := Lib.hid (K9.out.trans hK fun _ _ => id)
            have A10 := Lib.hid (A9.out.same hK)
            have B10 := Lib.hid (B9.out.same hK)
            have C10 := Lib.hid hE
            clear hE
            clear hK
            by_cases ha : a1 = 0
            · subst ha
              have second := Lib.hid (second.out rfl)
              obtain rfl := A10.out.nil
              go_wp2_with fail
              refine (no_nil _).mono ?_
              rintro e w' ⟨rfl, rfl⟩
              by_cases hb : b1' = 0
              · subst hb
                obtain rfl : c1 = 0 := (second.out trivial).1
                obtain rfl := B10.out.nil
                obtain rfl := C10.out.nil
                go_wp2_with fail
                refine (no_nil _).mono ?_
                rintro e w' ⟨rfl, rfl⟩
                go_wp2_with fail
                refine (no_nil _).mono ?_
                rintro e w' ⟨rfl, rfl⟩
                go_wp2_with fail
                refine (alive_any9 F9 (HG.out.keeps K10.out id)).mono ?_
                rintro e w99 ⟨rfl, hK⟩
                have K99 := Lib.hid (K10.out.trans hK fun _ _ => id)
                clear hK
                go_wp2_with fail
                go_ret
                exact ⟨rfl, K99.out⟩
              · obtain rfl : c1 = b1' := (second.out trivial).1
                obtain rfl : c2 = sp + b2 := (second.out trivial).2 hb
                have hb2 : ((c1 : Int) != 0) = true := by simp; omega
                have hb3 : ((c1 : Int) == (c1 : Int)) = true := by simp
                have hp : Hid (b2 ≤ 1000) := pl.out
                clear hb
                go_wp2_with fail
                refine (no_u B10.out).mono ?_
                rintro e w' ⟨rfl, rfl⟩
                go_wp2_with fail
                refine (no_u C10.out).mono ?_
                rintro e w' ⟨rfl, rfl⟩
                go_wp2_with fail
                refine (no_u B10.out).mono ?_
                rintro e w' ⟨rfl, rfl⟩
                go_wp2_with fail
                refine (place_u C10.out (HG.out.keeps K10.out id)).mono ?_
                rintro e w11 ⟨rfl, hK⟩
                have K11 := Lib.hid (K10.out.trans hK fun _ _ => id)
                have B11 := Lib.hid (B10.out.same hK)
                clear hK
                go_wp2_with fail
                refine (place_u B11.out (HG.out.keeps K11.out id)).mono ?_
                rintro e w12 ⟨rfl, hK⟩
                have K12 := Lib.hid (K11.out.trans hK fun _ _ => id)
                clear hK
                have b2s := hp.out
                have wp : IntKind.i64.wrap ((sp : Int) + (b2 : Int)) = ((sp + b2 : Nat) : Int) := by rw [show (sp : Int) + (b2 : Int) = ((sp + b2 : Nat) : Int) by omega]; exact IntWalk.i64_in _ (by omega)
                have eqp : (((sp + b2 : Nat) : Int) == ((sp + b2 : Nat) : Int)) = true := by simp
                go_wp2_with fail
                refine (alive_any9 F9 (HG.out.keeps K12.out id)).mono ?_
                rintro e w99 ⟨rfl, hK⟩
                have K99 := Lib.hid (K12.out.trans hK fun _ _ => id)
                clear hK
                go_wp2_with fail
                go_ret
                exact ⟨rfl, K99.out⟩
            · have fst := first.out ha
              injection fst with fst1 fst2
              subst fst1
              subst fst2
              have hb2 : ((c1 : Int) != 0) = true := by simp; omega
              have hb3 : ((c1 : Int) == (c1 : Int)) = true := by simp
              have hb4 : ((c2 : Int) == (c2 : Int)) = true := by simp
              clear ha
              go_wp2_with fail
              refine (no_u A10.out).mono ?_
              rintro e w' ⟨rfl, rfl⟩
              go_wp2_with fail
              refine (no_u C10.out).mono ?_
              rintro e w' ⟨rfl, rfl⟩
              go_wp2_with fail
              refine (no_u A10.out).mono ?_
              rintro e w' ⟨rfl, rfl⟩
              go_wp2_with fail
              refine (place_u C10.out (HG.out.keeps K10.out id)).mono ?_
              rintro e w11 ⟨rfl, hK⟩
              have K11 := Lib.hid (K10.out.trans hK fun _ _ => id)
              have A11 := Lib.hid (A10.out.same hK)
              clear hK
              go_wp2_with fail
              refine (place_u A11.out (HG.out.keeps K11.out id)).mono ?_
              rintro e w12 ⟨rfl, hK⟩
              have K12 := Lib.hid (K11.out.trans hK fun _ _ => id)
              clear hK
              go_wp2_with fail
              refine (alive_any9 F9 (HG.out.keeps K12.out id)).mono ?_
              rintro e w99 ⟨rfl, hK⟩
              have K99 := Lib.hid (K12.out.trans hK fun _ _ => id)
              clear hK
              go_wp2_with fail
              go_ret
              exact ⟨rfl, K99.out⟩
      · have b1 : (20 : Int) < (kn : Int) := by omega
        clear h h' hK hg hf hf' hk
        go_enter Tryd.func6, Tryd.ntmps6
        go_wp2_with fail
        refine cf.out.mono ?_
        rintro e w1 ⟨rfl, hK⟩
        have K1 := Lib.hid hK
        clear hK
        go_wp2_with fail
        refine (cg.out _ K1.out).mono ?_
        rintro e w2 ⟨rfl, hK⟩
        have K2 := Lib.hid (K1.out.trans hK fun _ _ => id)
        clear hK
        go_wp2_with fail
        refine (alive_any9 F9 (HG.out.keeps K2.out id)).mono ?_
        rintro e w99 ⟨rfl, hK⟩
        have K99 := Lib.hid (K2.out.trans hK fun _ _ => id)
        clear hK
        go_wp2_with fail
        go_ret
        exact ⟨rfl, K99.out⟩
    · rw [decide_eq_false hf'] at cg
      clear h h' hK hg hf hf'
      go_enter Tryd.func6, Tryd.ntmps6
      go_wp2_with fail
      refine cf.out.mono ?_
      rintro e w1 ⟨rfl, hK⟩
      have K1 := Lib.hid hK
      clear hK
      go_wp2_with fail
      refine (cg.out _ K1.out).mono ?_
      rintro e w2 ⟨rfl, hK⟩
      have K2 := Lib.hid (K1.out.trans hK fun _ _ => id)
      clear hK
      go_wp2_with fail
      refine (alive_any9 F9 (HG.out.keeps K2.out id)).mono ?_
      rintro e w99 ⟨rfl, hK⟩
      have K99 := Lib.hid (K2.out.trans hK fun _ _ => id)
      clear hK
      go_wp2_with fail
      go_ret
      exact ⟨rfl, K99.out⟩
  · rw [decide_eq_false hf] at cf
    clear h h' hK hg hf cg
    go_enter Tryd.func6, Tryd.ntmps6
    go_wp2_with fail
    refine cf.out.mono ?_
    rintro e w1 ⟨rfl, hK⟩
    have K1 := Lib.hid hK
    clear hK
    go_wp2_with fail
    refine (alive_any9 F9 (HG.out.keeps K1.out id)).mono ?_
    rintro e w99 ⟨rfl, hK⟩
    have K99 := Lib.hid (K1.out.trans hK fun _ _ => id)
    clear hK
    go_wp2_with fail
    go_ret
    exact ⟨rfl, K99.out⟩
end Go.Proofs.YtpmbkeaimdeglaaDoor
