/-
  concordlaw10.TextJoins by contract.
-/
import Derived.Test.YtcdlchcmidfhiaaGreatDoorTxAgain
import Derived.Test.YtcdlchcmidfhiaaGreatDoorTpParse
import Derived.Test.YtcdlchcmidfhiaaGreatDoorRkArg
namespace Go.Proofs.YtcdlchcmidfhiaaGreatDoor
open Go.RowKit Go.Extern.Stop Go.Stop Go.Extern

theorem run_place : ∀ (L : List (List Str)) (i n : Nat) (st : PS), runT L i st = .inr n → n ≤ i + L.length
  | [], i, n, st, h => by simp [runT] at h
  | l :: t, i, n, st, h => by
    simp only [runT] at h
    rw [List.length_cons]
    cases hs : stepT st l with
    | none => rw [hs] at h; injection h with h; omega
    | some s2 => rw [hs] at h; have := run_place t (i + 1) n s2 h; omega
theorem parse_place {S : Str} {k a : Nat} (h : parseT S = .inr (k, a)) : a ≤ S.length + 2 := by
  have hl := lines_len S
  unfold parseT at h
  split at h
  · injection h with h; injection h with h1 h2; omega
  · cases hr : runT ((linesT S).map wordsT) 0 ⟨[], .nil⟩ with
    | inr n =>
      rw [hr] at h
      injection h with h
      injection h with h1 h2
      have := run_place _ 0 n _ hr
      rw [List.length_map] at this
      omega
    | inl st =>
      rw [hr] at h
      simp only at h
      split at h
      · cases h
      · injection h with h
        injection h with h1 h2
        omega

/-- append of what came in, by a guarded operation. -/
theorem wpList_append_argG {α : Type} (K : RK α) {ops : Array Oper} {rest : List Oper} {o : Oper} {a : Act} {w : World} {Q : Exit → Act → World → Prop}
    (hg : Region.wanted o (yielded ops a.tmps) = true) (s x : Operand) (hop : o.op = Op.call { callee := Callee.builtin Builtin.append, args := #[s, x], argTypes := #[K.T, K.T] })
    (w0 : World) (v : Value) (l news : List α) (hs : a.eval s = v) (hown : Mine K w0 w v l) (k0 : Keeps (fun _ => False) w0 w) (xo : Option Addr) (m c : Nat) (hx : a.eval x = .slice xo m c) (hm : news.length = m) (hnews : ∀ ad, xo = some ad → ∀ j u, (K.cs news)[j]? = some u → w.cell? (ad.add j) = some u) (h0 : xo = none → m = 0) (n : Nat) (hn : l.length + m = n) (hbig : n ≤ 100000)
    (hK : ∀ ao cap w', Mine K w0 w' (.slice ao n cap) (l ++ news) → Keeps (fun _ => False) w0 w' → Keeps (fun x => v.ownBlock = some x) w w' → wpList Tryz.prog ops Q rest (a.put o.dst (.slice ao n cap)) w') :
    wpList Tryz.prog ops Q (o :: rest) a w := by
  refine BigFrame.wpList_want hg fun K' hK' => ?_
  obtain ⟨ao, cap, w', hr, h2, h3, h5⟩ := K.append_arg w v l news hown.1 xo m c hm hnews h0 n hn hbig o.type
  have kk : Keeps (fun x => v.ownBlock = some x) w w' := (Keeps.refl _ w).grown h3 fun k hk _ => hk
  unfold Oper.wp
  simp [execOp, hop, resolve, invoke, builtin, hs, hx, hr, Result.andThen]
  refine hK' _ _ (hK ao cap w' ⟨h2, fun g hg => ?_⟩ (k0.trans kk fun x hx e => absurd hx (Nat.not_lt.2 (hown.2 x e))) kk)
  rcases h5 with e | e
  · exact hown.2 g (by rw [← e]; exact hg)
  · rw [e] at hg
    injection hg with hg
    rw [← hg]
    exact k0.size

set_option maxRecDepth 100000 in
set_option maxHeartbeats 2000000 in
theorem joins_any10 (F10 : Face10) {w : World} (S T : Str) (hg : GlobT w) :
    Calls Tryz.prog 6 #[.string (mkB S), .string (mkB T)] w fun e w' => e = .returned (.bool true) ∧ Keeps (fun _ => False) w w' := by
  have AL := Lib.hid (fun V (h : GlobT V) => alive_any10 F10 (w := V) h)
  have HG := Lib.hid hg
  have zs := mkB_size S
  have zt := mkB_size T
  by_cases hb : S.length ≤ 6000 ∧ T.length ≤ 6000
  · obtain ⟨hs, ht⟩ := hb
    have b1 : ¬ (6000 : Int) < ((mkB S).size : Int) := by omega
    have b2 : ¬ (6000 : Int) < ((mkB T).size : Int) := by omega
    have CP := Lib.hid (F10.parse_ (w := w) S HG.out (by omega))
    have CQ := Lib.hid (fun V (g : GlobT V) => F10.parse_ (w := V) T g (by omega))
    have CB := Lib.hid (fun V (g : GlobT V) => F10.parse_ (w := V) (S ++ 10 :: T) g (by simp; omega))
    have CL := Lib.hid (fun V => rlines_any (w := V) (S ++ [10]) (by simp; omega))
    have JL := Lib.hid (fun F h => joins_law (s := S) (t := T) (F := F) (by omega) h)
    have LL : Hid ((linesT (S ++ [10])).length ≤ 6002) := Lib.hid (by have := lines_len (S ++ [10]); simp at this; omega)
    have a1 : mkB S ++ (⟨#[10]⟩ : ByteArray) = mkB (S ++ [10]) := mkB_app S [10]
    have a2 : mkB (S ++ [10]) ++ mkB T = mkB (S ++ 10 :: T) := by rw [mkB_app, List.append_assoc]; rfl
    have z2 : (mkB (S ++ [10])).size = S.length + 1 := by rw [mkB_size]; simp
    have z3 : (⟨#[10]⟩ : ByteArray).size = 1 := rfl
    have hs6 : Hid (S.length ≤ 6000) := Lib.hid hs
    have ht6 : Hid (T.length ≤ 6000) := Lib.hid ht
    have hsI : (S.length : Int) ≤ 6000 := by omega
    have htI : (T.length : Int) ≤ 6000 := by omega
    clear hg hs ht
    go_enter Tryz.func6, Tryz.ntmps6
    go_wp2_with fail
    refine CP.out.mono ?_
    rintro e w1 ⟨hK, h⟩
    have K1 := Lib.hid hK
    clear hK CP
    rcases h with ⟨F, v, hp, rfl, hv⟩ | ⟨k, a, ev, hp, rfl, hE⟩
    · have PF := Lib.hid (parse_size hp)
      have J := Lib.hid (JL.out F hp)
      have V1 := Lib.hid hv
      clear hp hv
      go_wp2_with fail
      refine (CQ.out _ (HG.out.keeps K1.out id)).mono ?_
      rintro e w2 ⟨hK, h⟩
      have J2 := Lib.hid hK
      have K2 := Lib.hid (K1.out.trans hK fun _ _ => id)
      clear hK CQ
      rcases h with ⟨G, u, hq, rfl, hu⟩ | ⟨k, a, ev, hq, rfl, hE⟩
      · have PG := Lib.hid (parse_size hq)
        have JB : Hid (parseT (S ++ 10 :: T) = .inl (F.app G)) := Lib.hid (by rw [J.out, hq])
        have U2 := Lib.hid hu
        clear hq hu
        go_wp2_with fail
        refine (no_nil _).mono ?_
        rintro e w' ⟨rfl, rfl⟩
        go_wp2_with fail
        refine (CB.out _ (HG.out.keeps K2.out id)).mono ?_
        rintro e w3 ⟨hK, h⟩
        have J3 := Lib.hid (J2.out.trans hK fun _ _ => id)
        have K3 := Lib.hid (K2.out.trans hK fun _ _ => id)
        have h' := V1.out.same J3.out
        have h'' := U2.out.same hK
        clear hK CB
        rcases h with ⟨H, x, hh, rfl, hx⟩ | ⟨k, a, ev, hh, _⟩
        · rw [JB.out] at hh
          injection hh with hh
          subst hh
          have X3 := Lib.hid hx
          obtain ⟨vo, vc, rfl, _⟩ := h'.fit
          obtain ⟨uo, uc, rfl, _⟩ := h''.fit
          obtain ⟨ps, S1, p1, _, p0, pc⟩ := h'.sts
          obtain ⟨qs, S2, q1, _, q0, qc⟩ := h''.sts
          have fl := Fo.len_le_size F
          have gl := Fo.len_le_size G
          have szs : Hid ((F.app G).size ≤ 20000) := Lib.hid (by rw [Fo.size_app]; have := PF.out.1; have := PG.out.1; have := hs6.out; have := ht6.out; omega)
          have n3 : F.len + G.len ≤ 100000 := by have := PF.out.1; have := PG.out.1; have := hs6.out; have := ht6.out; omega
          obtain ⟨n1, hn1⟩ : ∃ n, F.len = n := ⟨_, rfl⟩
          obtain ⟨n2, hn2⟩ : ∃ n, G.len = n := ⟨_, rfl⟩
          rw [hn1] at p1 p0 n3 ⊢
          rw [hn2] at q1 q0 n3 ⊢
          have SA := Lib.hid (S1.app S2)
          have hl12 : (ps ++ qs).length = n1 + n2 := by rw [List.length_append, p1, q1]
          have PC := Lib.hid pc
          have QC := Lib.hid qc
          have P0 := Lib.hid p0
          have Q0 := Lib.hid q0
          have P1 := Lib.hid p1
          have Q1 := Lib.hid q1
          have HL := Lib.hid hl12
          clear h' h'' hx S1 S2 p1 q1 p0 q0 pc qc hl12 fl gl hn1 hn2 PF PG V1 U2
          go_wp2_with fail
          refine (no_nil _).mono ?_
          rintro e w' ⟨rfl, rfl⟩
          have M0 : Hid (Mine stK w3 (w3.alloc (.cells #[] 45)) (.slice (some ⟨w3.heap.size, 0, none⟩) 0 0) []) := Lib.hid ⟨row_none stK (Whole.made w3 _ _) rfl, fun g hg => by simp [Value.ownBlock] at hg; omega⟩
          go_wp2_with fail
          refine (no_nil _).mono ?_
          rintro e w' ⟨rfl, rfl⟩
          go_wp2_with (first
            | (at_builtin; refine wpList_append_argG stK (by rfl) _ _ rfl w3 _ [] ps rfl M0.out ((Keeps.refl _ w3).alloc _) vo n1 vc rfl P1.out (fun ad ha j y hy => by have := PC.out ad ha j y hy; exact (((Keeps.refl (fun _ => False) w3).alloc _).cell (cell_lt this) id).trans this) P0.out n1 (by simp) (by omega) ?_; intro ao ac w5 hM hKa hKb; have M3 := Lib.hid hM; have K3a := Lib.hid hKa; clear hM hKa hKb)
            | (at_builtin; refine wpList_append_argG stK (by rfl) _ _ rfl w3 _ ([] ++ ps) qs rfl M3.out K3a.out uo n2 uc rfl Q1.out (fun ad ha j y hy => by have := QC.out ad ha j y hy; exact (K3a.out.cell (cell_lt this) id).trans this) Q0.out (n1 + n2) (by simp [P1.out]) n3 ?_; intro ao2 ac2 w4 hM hKa hKb; have M4 := Lib.hid hM; have K4a := Lib.hid hKa; clear hM hKa hKb))
          have K4 := Lib.hid (K3.out.trans K4a.out fun _ _ => id)
          have BS : SlOf w4 (.slice ao2 (n1 + n2) ac2) (F.app G) := by
            rw [← app_items]
            exact sl_row M4.out (SA.out.same K4a.out) HL.out n3
          have CS := Lib.hid (same_yes9 _ (F.app G) (Nat.le_refl _) w4 _ _ (X3.out.same K4a.out) BS szs.out)
          clear SA PC QC P0 Q0 P1 Q1 HL M0 M3 M4 K3a BS
          generalize n1 + n2 = n12 at *
          refine CS.out.mono ?_
          rintro e w5 ⟨rfl, hK⟩
          have K5 := Lib.hid (K4.out.trans hK fun _ _ => id)
          clear hK
          go_wp2_with fail
          refine (AL.out _ (HG.out.keeps K5.out id)).mono ?_
          rintro e w6 ⟨rfl, hK⟩
          have K6 := Lib.hid (K5.out.trans hK fun _ _ => id)
          clear hK
          go_wp2_with fail
          go_ret
          exact ⟨rfl, K6.out⟩
        · rw [JB.out] at hh
          cases hh
      · have JB : Hid (parseT (S ++ 10 :: T) = .inr (k, (linesT (S ++ [10])).length + a)) := Lib.hid (by rw [J.out, hq])
        have b3 : ((k : Int) != 0) = true := by have := parse_err hq; simp; omega
        have E2 := Lib.hid hE
        have ale : a ≤ 6002 := by have := parse_place hq; have := ht6.out; omega
        have LE := LL.out
        obtain ⟨ln, hln⟩ : ∃ n, (linesT (S ++ [10])).length = n := ⟨_, rfl⟩
        rw [hln] at LE JB
        have HLN := Lib.hid hln
        have wa : IntKind.i64.wrap ((ln : Int) + (a : Int)) = ((ln + a : Nat) : Int) := by rw [show (ln : Int) + (a : Int) = ((ln + a : Nat) : Int) by omega]; exact IntWalk.i64_in _ (by omega)
        have qk : ((k : Int) == (k : Int)) = true := by simp
        have qa : (((ln + a : Nat) : Int) == ((ln + a : Nat) : Int)) = true := by simp
        clear hq hE hln
        go_wp2_with fail
        refine (no_nil _).mono ?_
        rintro e w' ⟨rfl, rfl⟩
        go_wp2_with fail
        refine (CB.out _ (HG.out.keeps K2.out id)).mono ?_
        rintro e w3 ⟨hK, h⟩
        have K3 := Lib.hid (K2.out.trans hK fun _ _ => id)
        have E2' := Lib.hid (E2.out.same hK)
        clear hK CB
        rcases h with ⟨H, x, hh, _⟩ | ⟨k', a', ev', hh, rfl, hE⟩
        · rw [JB.out] at hh
          cases hh
        · rw [JB.out] at hh
          injection hh with hh
          injection hh with hh1 hh2
          subst hh1
          subst hh2
          have E3 := Lib.hid hE
          clear hE E2
          go_wp2_with fail
          refine (no_u E2'.out).mono ?_
          rintro e w' ⟨rfl, rfl⟩
          go_wp2_with fail
          refine (no_u E3.out).mono ?_
          rintro e w' ⟨rfl, rfl⟩
          go_wp2_with fail
          refine (no_u E2'.out).mono ?_
          rintro e w' ⟨rfl, rfl⟩
          go_wp2_with fail
          refine (place_u E3.out (HG.out.keeps K3.out id).g).mono ?_
          rintro e w4 ⟨rfl, hK⟩
          have K4 := Lib.hid (K3.out.trans hK fun _ _ => id)
          have E4 := Lib.hid (E2'.out.same hK)
          clear hK
          go_wp2_with fail
          refine (CL.out _).mono ?_
          rintro e w5 ⟨r, rfl, hM, hK⟩
          obtain ⟨ro, rc, rfl, _⟩ := row_shape hM.1
          rw [HLN.out]
          have K5 := Lib.hid (K4.out.trans hK fun _ _ => id)
          have E5 := Lib.hid (E4.out.same hK)
          clear hK hM
          go_wp2_with fail
          refine (place_u E5.out (HG.out.keeps K5.out id).g).mono ?_
          rintro e w6 ⟨rfl, hK⟩
          have K6 := Lib.hid (K5.out.trans hK fun _ _ => id)
          clear hK
          go_wp2_with fail
          refine (AL.out _ (HG.out.keeps K6.out id)).mono ?_
          rintro e w7 ⟨rfl, hK⟩
          have K7 := Lib.hid (K6.out.trans hK fun _ _ => id)
          clear hK
          go_wp2_with fail
          go_ret
          exact ⟨rfl, K7.out⟩
    · have E1 := Lib.hid hE
      have b3 : ((k : Int) != 0) = true := by have := parse_err hp; simp; omega
      clear hp hE
      go_wp2_with fail
      refine (CQ.out _ (HG.out.keeps K1.out id)).mono ?_
      rintro e w2 ⟨hK, h⟩
      have J2 := Lib.hid hK
      have K2 := Lib.hid (K1.out.trans hK fun _ _ => id)
      have E2 := Lib.hid (E1.out.same hK)
      clear hK CQ
      obtain ⟨q, f, rfl⟩ : ∃ q f, e = .returned (.tuple #[q, f]) := by
        rcases h with ⟨G, u, _, h, _⟩ | ⟨k, a, ev, _, h, _⟩
        · exact ⟨_, _, h⟩
        · exact ⟨_, _, h⟩
      clear h
      go_wp2_with fail
      refine (no_u E2.out).mono ?_
      rintro e w' ⟨rfl, rfl⟩
      go_wp2_with fail
      refine (AL.out _ (HG.out.keeps K2.out id)).mono ?_
      rintro e w6 ⟨rfl, hK⟩
      have K6 := Lib.hid (K2.out.trans hK fun _ _ => id)
      clear hK
      go_wp2_with fail
      go_ret
      exact ⟨rfl, K6.out⟩
  · by_cases hs : 6000 < S.length
    · have b1 : (6000 : Int) < ((mkB S).size : Int) := by omega
      clear hg hb hs
      go_enter Tryz.func6, Tryz.ntmps6
      go_wp2_with fail
      refine (AL.out _ HG.out).mono ?_
      rintro e w5 ⟨rfl, hK⟩
      have K5 := Lib.hid hK
      clear hK
      go_wp2_with fail
      go_ret
      exact ⟨rfl, K5.out⟩
    · have b1 : ¬ (6000 : Int) < ((mkB S).size : Int) := by omega
      have b2 : (6000 : Int) < ((mkB T).size : Int) := by omega
      clear hg hb hs
      go_enter Tryz.func6, Tryz.ntmps6
      go_wp2_with fail
      refine (AL.out _ HG.out).mono ?_
      rintro e w5 ⟨rfl, hK⟩
      have K5 := Lib.hid hK
      clear hK
      go_wp2_with fail
      go_ret
      exact ⟨rfl, K5.out⟩
end Go.Proofs.YtcdlchcmidfhiaaGreatDoor
