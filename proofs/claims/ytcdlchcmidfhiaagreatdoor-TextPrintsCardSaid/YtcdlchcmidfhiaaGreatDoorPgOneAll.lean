/-
  concordref09.One by contract: whether a statement is right, apart from those in it.
-/
import Derived.Test.YtcdlchcmidfhiaaGreatDoorPgOne
import Derived.Test.YtcdlchcmidfhiaaGreatDoorRkArg
import Derived.Test.YtcdlchcmidfhiaaGreatDoorWdTail
namespace Go.Proofs.YtcdlchcmidfhiaaGreatDoor
open Go.RowKit Go.Extern.Stop Go.Stop Go.Extern

theorem one_parts (s : St7) (nb ne : Nat) (K : List Int) {q1 q2 q3 q4 q5 q6 q7 q8 q9 : Bool} (h1 : decide (1 ≤ s.k ∧ s.k ≤ 16) = q1) (h2 : (if s.k ≤ 8 then decide (0 ≤ s.c ∧ s.c < (K.length : Int)) else decide (s.c = 0)) = q2) (h3 : (if s.k = 6 ∨ s.k = 7 then K.getD s.c.toNat 0 == 3 else true) = q3)
    (h4 : (if inL s.k [1, 4, 5, 6, 7, 9, 10] then decide (1 ≤ s.r ∧ s.r ≤ 8) else decide (s.r = 0)) = q4) (h5 : argOk s.ar s.an (inL s.k [1, 2, 3, 4, 6, 7, 9, 10, 11, 12]) = q5) (h6 : argOk s.br s.bn (inL s.k [2, 7, 10, 11]) = q6)
    (h7 : (if s.k = 12 then decide (s.ar = 0 ∧ 0 ≤ s.an ∧ s.an ≤ 5) else true) = q7) (h8 : (decide (nb = 0) || decide (11 ≤ s.k ∧ s.k ≤ 14)) = q8) (h9 : (decide (ne = 0) || decide (s.k = 11 ∨ s.k = 14)) = q9) :
    one s nb ne K = (q1 && q2 && q3 && q4 && q5 && q6 && q7 && q8 && q9) := by
  unfold one
  rw [h1, h2, h3, h4, h5, h6, h7, h8, h9]

/-- The cells of a statement by value. -/
def stAgg (s : St7) (b e : Sl) : Array Value := #[.int .i64 s.k, .int .i64 s.c, .int .i64 s.r, .int .i64 s.ar, .int .i64 s.an, .int .i64 s.br, .int .i64 s.bn, slv b, slv e]

set_option maxRecDepth 100000 in
set_option maxHeartbeats 4000000 in
theorem one_any {w : World} (s : St7) (b e : Sl) {ko : Option Addr} {kn kc : Nat} {K : List Int} (h : IntL w ko kn K) :
    Calls Tryz.prog 39 #[.agg (stAgg s b e), .slice ko kn kc] w fun e' w' => e' = .returned (.bool (one s b.2.1 e.2.1 K)) ∧ Keeps (fun _ => False) w w' := by
  obtain ⟨q1, h1⟩ : ∃ q, decide (1 ≤ s.k ∧ s.k ≤ 16) = q := ⟨_, rfl⟩
  obtain ⟨q2, h2⟩ : ∃ q, (if s.k ≤ 8 then decide (0 ≤ s.c ∧ s.c < (K.length : Int)) else decide (s.c = 0)) = q := ⟨_, rfl⟩
  obtain ⟨q3, h3⟩ : ∃ q, (if s.k = 6 ∨ s.k = 7 then K.getD s.c.toNat 0 == 3 else true) = q := ⟨_, rfl⟩
  obtain ⟨q4, h4⟩ : ∃ q, (if inL s.k [1, 4, 5, 6, 7, 9, 10] then decide (1 ≤ s.r ∧ s.r ≤ 8) else decide (s.r = 0)) = q := ⟨_, rfl⟩
  obtain ⟨q5, h5⟩ : ∃ q, argOk s.ar s.an (inL s.k [1, 2, 3, 4, 6, 7, 9, 10, 11, 12]) = q := ⟨_, rfl⟩
  obtain ⟨q6, h6⟩ : ∃ q, argOk s.br s.bn (inL s.k [2, 7, 10, 11]) = q := ⟨_, rfl⟩
  obtain ⟨q7, h7⟩ : ∃ q, (if s.k = 12 then decide (s.ar = 0 ∧ 0 ≤ s.an ∧ s.an ≤ 5) else true) = q := ⟨_, rfl⟩
  obtain ⟨q8, h8⟩ : ∃ q, (decide (b.2.1 = 0) || decide (11 ≤ s.k ∧ s.k ≤ 14)) = q := ⟨_, rfl⟩
  obtain ⟨q9, h9⟩ : ∃ q, (decide (e.2.1 = 0) || decide (s.k = 11 ∨ s.k = 14)) = q := ⟨_, rfl⟩
  have ho := one_parts s b.2.1 e.2.1 K h1 h2 h3 h4 h5 h6 h7 h8 h9
  obtain ⟨r, hr⟩ : ∃ r, one s b.2.1 e.2.1 K = r := ⟨_, rfl⟩
  rw [hr] at ho ⊢
  have HO := Lib.hid ho
  have H1 := Lib.hid h1
  have H2 := Lib.hid h2
  have H3 := Lib.hid h3
  have H4 := Lib.hid h4
  have H5 := Lib.hid h5
  have H6 := Lib.hid h6
  have H7 := Lib.hid h7
  have H8 := Lib.hid h8
  have H9 := Lib.hid h9
  have HK := Lib.hid h
  have hlen := h.len
  have hlen' := Lib.hid hlen
  obtain ⟨k, c, r1, ar, an, br, bn⟩ := s
  obtain ⟨b1, b2, b3⟩ := b
  obtain ⟨e1, e2, e3⟩ := e
  simp only at H1 H2 H3 H4 H5 H6 H7 H8 H9
  clear h1 h2 h3 h4 h5 h6 h7 h8 h9 ho hr h hlen
  unfold stAgg slv
  simp only
  go_enter Tryz.func39, Tryz.ntmps39
  go_upto_region 1 with fail
  go_cut [5] from 7 to 8 (fun x wx => x = .int .i64 k ∧ Whole wx w.heap.size 45 #[.int .i64 k, .int .i64 c, .int .i64 r1, .int .i64 ar, .int .i64 an, .int .i64 br, .int .i64 bn, .slice b1 b2 b3, .slice e1 e2 e3] ∧ Keeps (fun _ => False) w wx)
  case first =>
    go_wp2_with fail
    go_meet
    case rel => exact ⟨rfl, Whole.made _ _ _, (Keeps.refl _ w).alloc _⟩
  case rest =>
    obtain ⟨rfl, hW, hKW⟩ := hcut
    obtain ⟨g, hg⟩ : ∃ g, w.heap.size = g := ⟨_, rfl⟩
    rw [hg] at hW
    simp only [hg]
    have KW := Lib.hid hKW
    have WW := Lib.hid hW
    have c0 : wc.cell? ⟨g, 0, none⟩ = some (.int .i64 k) := hW.at_ 0
    have c1 : wc.cell? ⟨g, 1, none⟩ = some (.int .i64 c) := hW.at_ 1
    have c2 : wc.cell? ⟨g, 2, none⟩ = some (.int .i64 r1) := hW.at_ 2
    clear hW hKW
    go_upto_region 2 with fail
    go_cut [14] from 9 to 14 (fun x wx => x = .bool (!q1) ∧ wx = wc)
    case first =>
      by_cases a1 : k < 1
      · obtain rfl : q1 = false := by rw [← H1.out]; exact decide_eq_false (by omega)
        go_wp2_with fail
        go_meet
        case rel => exact ⟨rfl, rfl⟩
      · by_cases a2 : 16 < k
        · obtain rfl : q1 = false := by rw [← H1.out]; exact decide_eq_false (by omega)
          go_wp2_with fail
          go_meet
          case rel => exact ⟨rfl, rfl⟩
        · obtain rfl : q1 = true := by rw [← H1.out]; exact decide_eq_true (by omega)
          go_wp2_with fail
          go_meet
          case rel => exact ⟨rfl, rfl⟩
    case rest =>
      obtain ⟨rfl, rfl⟩ := hcut
      cases q1 with
      | false =>
        obtain rfl : r = false := by rw [HO.out]; simp
        go_wp2_with fail
        go_ret
        exact ⟨rfl, KW.out⟩
      | true =>
        have hk := of_decide_eq_true H1.out
        have hk' := Lib.hid hk
        clear hk
        go_upto_region 4 with fail
        go_cut [37] from 15 to 37 (fun x wx => x = .bool (!q2) ∧ wx = wc)
        case first =>
          have hl := hlen'.out
          have hlZ : (K.length : Int) = (kn : Int) := by omega
          have HZ := Lib.hid hlZ
          clear hl hlZ
          by_cases a1 : k ≤ 8
          · skip
            by_cases a2 : c < 0
            · skip
              obtain rfl : q2 = false := by rw [← H2.out]; rw [if_pos a1]; exact decide_eq_false (by omega)
              go_wp2_with fail
              go_meet
              case rel => exact ⟨rfl, rfl⟩
            · skip
              by_cases a3 : (kn : Int) ≤ c
              · skip
                obtain rfl : q2 = false := by rw [← H2.out]; rw [if_pos a1]; exact decide_eq_false (by rw [HZ.out]; omega)
                go_wp2_with fail
                go_meet
                case rel => exact ⟨rfl, rfl⟩
              · skip
                obtain rfl : q2 = true := by rw [← H2.out]; rw [if_pos a1]; exact decide_eq_true (by rw [HZ.out]; omega)
                go_wp2_with fail
                go_meet
                case rel => exact ⟨rfl, rfl⟩
          · skip
            by_cases a4 : c = 0
            · skip
              obtain rfl : q2 = true := by rw [← H2.out]; rw [if_neg a1]; exact decide_eq_true a4
              have hb : (c != 0) = false := by simp [a4]
              clear a4
              go_wp2_with fail
              go_meet
              case rel => exact ⟨rfl, rfl⟩
            · skip
              obtain rfl : q2 = false := by rw [← H2.out]; rw [if_neg a1]; exact decide_eq_false a4
              have hb : (c != 0) = true := by simpa using a4
              clear a4
              go_wp2_with fail
              go_meet
              case rel => exact ⟨rfl, rfl⟩
        case rest =>
          obtain ⟨rfl, rfl⟩ := hcut
          cases q2 with
          | false =>
            obtain rfl : r = false := by rw [HO.out]; simp
            go_wp2_with fail
            go_ret
            exact ⟨rfl, KW.out⟩
          | true =>
            go_upto_region 6 with fail
            go_cut [51] from 38 to 51 (fun x wx => x = .bool (!q3) ∧ wx = wc)
            case first =>
              have kcell : Hid (k ≤ 8 → ∃ (i kb kof : Nat) (d : Int), c = (i : Int) ∧ (i : Int) < (kn : Int) ∧ ko = some ⟨kb, kof, none⟩ ∧ wc.cell? ⟨kb, kof + i, none⟩ = some (.int .i64 d) ∧ K.getD i 0 = d) := Lib.hid fun h8 => by
                have hr := H2.out
                rw [if_pos h8] at hr
                have hr := of_decide_eq_true hr
                rw [hlen'.out] at hr
                obtain ⟨kb, kof, h1, h2⟩ := HK.out.at_ (by omega)
                have hi : c.toNat < K.length := by rw [hlen'.out]; omega
                have hg : K[c.toNat]? = some (K[c.toNat]) := List.getElem?_eq_getElem hi
                have h3 := h2 c.toNat _ hg
                exact ⟨c.toNat, kb, kof, _, by omega, by omega, h1, (KW.out.cell (cell_lt h3) id).trans h3, by rw [List.getD_eq_getElem?_getD, hg]; rfl⟩
              by_cases a6 : k = 6
              · skip
                obtain ⟨i, kb, kof, d, rfl, hik, rfl, hcd, hgd⟩ := kcell.out (by omega)
                subst a6
                have HG := Lib.hid hgd
                clear hgd kcell
                by_cases a9 : d = 3
                · skip
                  obtain rfl : q3 = true := by rw [← H3.out]; rw [if_pos (by omega), Int.toNat_natCast, HG.out, a9]; rfl
                  subst a9
                  go_wp2_with fail
                  go_meet
                  case rel => exact ⟨rfl, rfl⟩
                · skip
                  obtain rfl : q3 = false := by rw [← H3.out]; rw [if_pos (by omega), Int.toNat_natCast, HG.out]; simpa using a9
                  have hb : (d != 3) = true := by simpa using a9
                  clear a9
                  go_wp2_with fail
                  go_meet
                  case rel => exact ⟨rfl, rfl⟩
              · skip
                by_cases a7 : k = 7
                · skip
                  obtain ⟨i, kb, kof, d, rfl, hik, rfl, hcd, hgd⟩ := kcell.out (by omega)
                  subst a7
                  have HG := Lib.hid hgd
                  clear hgd kcell
                  by_cases a9 : d = 3
                  · skip
                    obtain rfl : q3 = true := by rw [← H3.out]; rw [if_pos (by omega), Int.toNat_natCast, HG.out, a9]; rfl
                    subst a9
                    go_wp2_with fail
                    go_meet
                    case rel => exact ⟨rfl, rfl⟩
                  · skip
                    obtain rfl : q3 = false := by rw [← H3.out]; rw [if_pos (by omega), Int.toNat_natCast, HG.out]; simpa using a9
                    have hb : (d != 3) = true := by simpa using a9
                    clear a9
                    go_wp2_with fail
                    go_meet
                    case rel => exact ⟨rfl, rfl⟩
                · skip
                  obtain rfl : q3 = true := by rw [← H3.out]; rw [if_neg (by omega)]
                  have hb6 : (k == 6) = false := by simpa using a6
                  have hb7 : (k == 7) = false := by simpa using a7
                  clear a6 a7 kcell
                  go_wp2_with fail
                  go_meet
                  case rel => exact ⟨rfl, rfl⟩
            case rest =>
              obtain ⟨rfl, rfl⟩ := hcut
              cases q3 with
              | false =>
                obtain rfl : r = false := by rw [HO.out]; simp
                go_wp2_with fail
                go_ret
                exact ⟨rfl, KW.out⟩
              | true =>
                generalize wc = W1 at *
                obtain ⟨rg, hrg⟩ : ∃ x, inL k [1, 4, 5, 6, 7, 9, 10] = x := ⟨_, rfl⟩
                have HR := Lib.hid hrg
                go_upto_region 8 with fail
                go_cut [6] from 52 to 54 (fun x wx => x = .bool rg ∧ Keeps (fun _ => False) W1 wx)
                case first =>
                  clear hrg
                  go_wp2_with (go_at_call 64; refine (in_lit (l := [1, 4, 5, 6, 7, 9, 10]) k 7 rfl (by omega) (Whole.made W1 _ _)).mono ?_; rintro e w' ⟨rfl, rfl⟩)
                  go_meet
                  case rel => exact ⟨congrArg Value.bool HR.out, (Keeps.refl _ W1).alloc _⟩
                case rest =>
                  obtain ⟨rfl, hk1⟩ := hcut
                  rw [hrg] at H4
                  clear hrg
                  have KX := Lib.hid (KW.out.trans hk1 fun _ _ => id)
                  have WX := Lib.hid (WW.out.keeps hk1 id)
                  have d2 : wc.cell? ⟨g, 2, none⟩ = some (.int .i64 r1) := WX.out.at_ 2
                  have d3 : wc.cell? ⟨g, 3, none⟩ = some (.int .i64 ar) := WX.out.at_ 3
                  have d4 : wc.cell? ⟨g, 4, none⟩ = some (.int .i64 an) := WX.out.at_ 4
                  have d5 : wc.cell? ⟨g, 5, none⟩ = some (.int .i64 br) := WX.out.at_ 5
                  have d6 : wc.cell? ⟨g, 6, none⟩ = some (.int .i64 bn) := WX.out.at_ 6
                  clear hk1 c0 c1 c2 H2 H3 HR HK
                  go_upto_region 9 with fail
                  go_cut [74] from 55 to 74 (fun x wx => x = .bool (!q4) ∧ wx = wc)
                  case first =>
                    cases rg with
                    | true =>
                      by_cases a1 : r1 < 1
                      · skip
                        obtain rfl : q4 = false := by rw [← H4.out]; rw [if_pos rfl]; exact decide_eq_false (by omega)
                        go_wp2_with fail
                        go_meet
                        case rel => exact ⟨rfl, rfl⟩
                      · skip
                        by_cases a2 : 8 < r1
                        · skip
                          obtain rfl : q4 = false := by rw [← H4.out]; rw [if_pos rfl]; exact decide_eq_false (by omega)
                          go_wp2_with fail
                          go_meet
                          case rel => exact ⟨rfl, rfl⟩
                        · skip
                          obtain rfl : q4 = true := by rw [← H4.out]; rw [if_pos rfl]; exact decide_eq_true (by omega)
                          go_wp2_with fail
                          go_meet
                          case rel => exact ⟨rfl, rfl⟩
                    | false =>
                      by_cases a1 : r1 = 0
                      · skip
                        obtain rfl : q4 = true := by rw [← H4.out]; rw [if_neg (by simp)]; exact decide_eq_true a1
                        have hb : (r1 != 0) = false := by simp [a1]
                        clear a1
                        go_wp2_with fail
                        go_meet
                        case rel => exact ⟨rfl, rfl⟩
                      · skip
                        obtain rfl : q4 = false := by rw [← H4.out]; rw [if_neg (by simp)]; exact decide_eq_false a1
                        have hb : (r1 != 0) = true := by simpa using a1
                        clear a1
                        go_wp2_with fail
                        go_meet
                        case rel => exact ⟨rfl, rfl⟩
                  case rest =>
                    obtain ⟨rfl, rfl⟩ := hcut
                    cases q4 with
                    | false =>
                      obtain rfl : r = false := by rw [HO.out]; simp
                      go_wp2_with fail
                      go_ret
                      exact ⟨rfl, KX.out⟩
                    | true =>
                      clear H4
                      generalize wc = W2 at *
                      obtain ⟨iA, hiA⟩ : ∃ x, inL k [1, 2, 3, 4, 6, 7, 9, 10, 11, 12] = x := ⟨_, rfl⟩
                      obtain ⟨iB, hiB⟩ : ∃ x, inL k [2, 7, 10, 11] = x := ⟨_, rfl⟩
                      rw [hiA] at H5
                      rw [hiB] at H6
                      have CA : Hid (∀ (V : World) (x : Nat), Whole V x 3 (intK.cs [1, 2, 3, 4, 6, 7, 9, 10, 11, 12]).toArray → Calls Tryz.prog 64 #[.int .i64 k, .slice (some ⟨x, 0, none⟩) 10 10] V fun e w' => e = .returned (.bool iA) ∧ V = w') := Lib.hid fun V x hx => by have := in_lit (l := [1, 2, 3, 4, 6, 7, 9, 10, 11, 12]) k 10 rfl (by omega) hx; rwa [hiA] at this
                      have CB : Hid (∀ (V : World) (x : Nat), Whole V x 3 (intK.cs [2, 7, 10, 11]).toArray → Calls Tryz.prog 64 #[.int .i64 k, .slice (some ⟨x, 0, none⟩) 4 4] V fun e w' => e = .returned (.bool iB) ∧ V = w') := Lib.hid fun V x hx => by have := in_lit (l := [2, 7, 10, 11]) k 4 rfl (by omega) hx; rwa [hiB] at this
                      have DA : Hid (∀ V : World, Calls Tryz.prog 65 #[.agg #[.int .i64 ar, .int .i64 an], .bool iA] V fun e w' => e = .returned (.bool q5) ∧ Keeps (fun _ => False) V w') := Lib.hid fun V => by have := arg_any ar an iA V; rwa [H5.out] at this
                      have DB : Hid (∀ V : World, Calls Tryz.prog 65 #[.agg #[.int .i64 br, .int .i64 bn], .bool iB] V fun e w' => e = .returned (.bool q6) ∧ Keeps (fun _ => False) V w') := Lib.hid fun V => by have := arg_any br bn iB V; rwa [H6.out] at this
                      clear hiA hiB H5 H6
                      go_upto_region 11 with fail
                      go_cut [90] from 75 to 90 (fun x wx => x = .bool (!(q5 && q6)) ∧ Keeps (fun _ => False) W2 wx)
                      case first =>
                        have S0 : Hid (∀ V, Keeps (fun _ => False) W2 V → V.cell? ⟨g, 3, none⟩ = some (.int .i64 ar) ∧ V.cell? ⟨g, 4, none⟩ = some (.int .i64 an) ∧ V.cell? ⟨g, 5, none⟩ = some (.int .i64 br) ∧ V.cell? ⟨g, 6, none⟩ = some (.int .i64 bn)) := Lib.hid fun V kV => ⟨(kV.cell (cell_lt d3) id).trans d3, (kV.cell (cell_lt d4) id).trans d4, (kV.cell (cell_lt d5) id).trans d5, (kV.cell (cell_lt d6) id).trans d6⟩
                        cases q5 with
                        | true =>
                          go_wp2_with fail
                          refine AnyT.begin (S := fun V => V.cell? ⟨g, 3, none⟩ = some (.int .i64 ar) ∧ V.cell? ⟨g, 4, none⟩ = some (.int .i64 an) ∧ V.cell? ⟨g, 5, none⟩ = some (.int .i64 br) ∧ V.cell? ⟨g, 6, none⟩ = some (.int .i64 bn)) (by kernel_rfl) (S0.out _ (Keeps.refl _ _).drew) (fun hHeld => ?_)
                          first
                            | (refine AnyT.take (i := 0) (v := ?_) rfl (by kernel_rfl) (fun _ _ _ h => h) (Or.inl ⟨by rfl, ?_⟩) (by assumption) ?_; rotate_left; (· (intro V hSV; (try (obtain ⟨q1, q2, q3, q4⟩ := hSV)); (first | (go_simp; done) | (go_simp; with_reducible rfl)))); simp only [Act.put, List.setIfInBounds_toArray, List.set_cons_zero, List.set_cons_succ])
                            | (refine AnyT.take (i := 0) (v := undef) rfl (by kernel_rfl) (fun _ _ _ h => h) (Or.inr ⟨by rfl, rfl⟩) (by assumption) ?_; simp only [Act.put, List.setIfInBounds_toArray, List.set_cons_zero, List.set_cons_succ])
                          first
                            | (refine AnyT.take (i := 1) (v := ?_) rfl (by kernel_rfl) (fun _ _ _ h => h) (Or.inl ⟨by rfl, ?_⟩) (by assumption) ?_; rotate_left; (· (intro V hSV; (try (obtain ⟨q1, q2, q3, q4⟩ := hSV)); (first | (go_simp; done) | (go_simp; with_reducible rfl)))); simp only [Act.put, List.setIfInBounds_toArray, List.set_cons_zero, List.set_cons_succ])
                            | (refine AnyT.take (i := 1) (v := undef) rfl (by kernel_rfl) (fun _ _ _ h => h) (Or.inr ⟨by rfl, rfl⟩) (by assumption) ?_; simp only [Act.put, List.setIfInBounds_toArray, List.set_cons_zero, List.set_cons_succ])
                          first
                            | (refine AnyT.take (i := 2) (v := ?_) rfl (by kernel_rfl) (fun _ _ _ h => h) (Or.inl ⟨by rfl, ?_⟩) (by assumption) ?_; rotate_left; (· (intro V hSV; (try (obtain ⟨q1, q2, q3, q4⟩ := hSV)); (first | (go_simp; done) | (go_simp; with_reducible rfl)))); simp only [Act.put, List.setIfInBounds_toArray, List.set_cons_zero, List.set_cons_succ])
                            | (refine AnyT.take (i := 2) (v := undef) rfl (by kernel_rfl) (fun _ _ _ h => h) (Or.inr ⟨by rfl, rfl⟩) (by assumption) ?_; simp only [Act.put, List.setIfInBounds_toArray, List.set_cons_zero, List.set_cons_succ])
                          refine AnyT.ready (rs := [3]) (by kernel_rfl) (by simp) (ReadyT.cons rfl (fun K hK => ?_) ReadyT.nil)
                          go_simp
                          have kA : Keeps (fun _ => False) W2 ((W2.alloc (.cells #[.int .i64 1, .int .i64 2, .int .i64 3, .int .i64 4, .int .i64 6, .int .i64 7, .int .i64 9, .int .i64 10, .int .i64 11, .int .i64 12] 3)).drew) := ((Keeps.refl _ W2).alloc _).drew
                          have hHeld := S0.out _ kA
                          refine hK.out _ _ (fun _ => hHeld) (fun _ => ?_)
                          clear hK K
                          try simp only [Act.put, List.setIfInBounds_toArray, List.set_cons_zero, List.set_cons_succ]
                          refine AnyT.ready (rs := [4]) (by kernel_rfl) (by simp) (ReadyT.cons rfl (fun K hK => ?_) ReadyT.nil)
                          go_simp
                          refine (CA.out _ _ (by first | exact Whole.made _ _ _ | exact (Whole.made _ _ _).drew)).mono ?_
                          rintro e w' ⟨rfl, rfl⟩
                          go_wp2_with fail
                          have hHeld := S0.out _ kA
                          refine hK.out _ _ (fun _ => hHeld) (fun _ => ?_)
                          clear hK K
                          try simp only [Act.put, List.setIfInBounds_toArray, List.set_cons_zero, List.set_cons_succ]
                          refine AnyT.ready (rs := [5]) (by kernel_rfl) (by simp) (ReadyT.cons rfl (fun K hK => ?_) ReadyT.nil)
                          go_simp
                          refine (DA.out _).mono ?_
                          rintro e w2 ⟨rfl, hK2⟩
                          have k2 : Keeps (fun _ => False) W2 w2 := kA.trans hK2 fun _ _ => id
                          go_wp2_with fail
                          have hHeld := S0.out _ k2
                          refine hK.out _ _ (fun _ => hHeld) (fun _ => ?_)
                          clear hK K
                          try simp only [Act.put, List.setIfInBounds_toArray, List.set_cons_zero, List.set_cons_succ]
                          first
                            | (refine AnyT.take (i := 6) (v := ?_) rfl (by kernel_rfl) (fun _ _ _ h => h) (Or.inl ⟨by rfl, ?_⟩) (by assumption) ?_; rotate_left; (· (intro V hSV; (try (obtain ⟨q1, q2, q3, q4⟩ := hSV)); (first | (go_simp; done) | (go_simp; with_reducible rfl)))); simp only [Act.put, List.setIfInBounds_toArray, List.set_cons_zero, List.set_cons_succ])
                            | (refine AnyT.take (i := 6) (v := undef) rfl (by kernel_rfl) (fun _ _ _ h => h) (Or.inr ⟨by rfl, rfl⟩) (by assumption) ?_; simp only [Act.put, List.setIfInBounds_toArray, List.set_cons_zero, List.set_cons_succ])
                          first
                            | (refine AnyT.take (i := 7) (v := ?_) rfl (by kernel_rfl) (fun _ _ _ h => h) (Or.inl ⟨by rfl, ?_⟩) (by assumption) ?_; rotate_left; (· (intro V hSV; (try (obtain ⟨q1, q2, q3, q4⟩ := hSV)); (first | (go_simp; done) | (go_simp; with_reducible rfl)))); simp only [Act.put, List.setIfInBounds_toArray, List.set_cons_zero, List.set_cons_succ])
                            | (refine AnyT.take (i := 7) (v := undef) rfl (by kernel_rfl) (fun _ _ _ h => h) (Or.inr ⟨by rfl, rfl⟩) (by assumption) ?_; simp only [Act.put, List.setIfInBounds_toArray, List.set_cons_zero, List.set_cons_succ])
                          first
                            | (refine AnyT.take (i := 8) (v := ?_) rfl (by kernel_rfl) (fun _ _ _ h => h) (Or.inl ⟨by rfl, ?_⟩) (by assumption) ?_; rotate_left; (· (intro V hSV; (try (obtain ⟨q1, q2, q3, q4⟩ := hSV)); (first | (go_simp; done) | (go_simp; with_reducible rfl)))); simp only [Act.put, List.setIfInBounds_toArray, List.set_cons_zero, List.set_cons_succ])
                            | (refine AnyT.take (i := 8) (v := undef) rfl (by kernel_rfl) (fun _ _ _ h => h) (Or.inr ⟨by rfl, rfl⟩) (by assumption) ?_; simp only [Act.put, List.setIfInBounds_toArray, List.set_cons_zero, List.set_cons_succ])
                          first
                            | (refine AnyT.take (i := 9) (v := ?_) rfl (by kernel_rfl) (fun _ _ _ h => h) (Or.inl ⟨by rfl, ?_⟩) (by assumption) ?_; rotate_left; (· (intro V hSV; (try (obtain ⟨q1, q2, q3, q4⟩ := hSV)); (first | (go_simp; done) | (go_simp; with_reducible rfl)))); simp only [Act.put, List.setIfInBounds_toArray, List.set_cons_zero, List.set_cons_succ])
                            | (refine AnyT.take (i := 9) (v := undef) rfl (by kernel_rfl) (fun _ _ _ h => h) (Or.inr ⟨by rfl, rfl⟩) (by assumption) ?_; simp only [Act.put, List.setIfInBounds_toArray, List.set_cons_zero, List.set_cons_succ])
                          first
                            | (refine AnyT.take (i := 10) (v := ?_) rfl (by kernel_rfl) (fun _ _ _ h => h) (Or.inl ⟨by rfl, ?_⟩) (by assumption) ?_; rotate_left; (· (intro V hSV; (try (obtain ⟨q1, q2, q3, q4⟩ := hSV)); (first | (go_simp; done) | (go_simp; with_reducible rfl)))); simp only [Act.put, List.setIfInBounds_toArray, List.set_cons_zero, List.set_cons_succ])
                            | (refine AnyT.take (i := 10) (v := undef) rfl (by kernel_rfl) (fun _ _ _ h => h) (Or.inr ⟨by rfl, rfl⟩) (by assumption) ?_; simp only [Act.put, List.setIfInBounds_toArray, List.set_cons_zero, List.set_cons_succ])
                          refine AnyT.ready (rs := [11]) (by kernel_rfl) (by simp) (ReadyT.cons rfl (fun K hK => ?_) ReadyT.nil)
                          go_simp
                          have kB : Keeps (fun _ => False) W2 (w2.alloc (.cells #[.int .i64 2, .int .i64 7, .int .i64 10, .int .i64 11] 3)) := k2.alloc _
                          have hHeld := S0.out _ kB
                          refine hK.out _ _ (fun _ => hHeld) (fun _ => ?_)
                          clear hK K
                          try simp only [Act.put, List.setIfInBounds_toArray, List.set_cons_zero, List.set_cons_succ]
                          refine AnyT.ready (rs := [12]) (by kernel_rfl) (by simp) (ReadyT.cons rfl (fun K hK => ?_) ReadyT.nil)
                          go_simp
                          refine (CB.out _ _ (by first | exact Whole.made _ _ _ | exact (Whole.made _ _ _).drew)).mono ?_
                          rintro e w' ⟨rfl, rfl⟩
                          go_wp2_with fail
                          have hHeld := S0.out _ kB
                          refine hK.out _ _ (fun _ => hHeld) (fun _ => ?_)
                          clear hK K
                          try simp only [Act.put, List.setIfInBounds_toArray, List.set_cons_zero, List.set_cons_succ]
                          refine AnyT.ready (rs := [13]) (by kernel_rfl) (by simp) (ReadyT.cons rfl (fun K hK => ?_) ReadyT.nil)
                          go_simp
                          refine (DB.out _).mono ?_
                          rintro e w3 ⟨rfl, hK3⟩
                          have k3 : Keeps (fun _ => False) W2 w3 := kB.trans hK3 fun _ _ => id
                          go_wp2_with fail
                          have hHeld := S0.out _ k3
                          refine hK.out _ _ (fun _ => hHeld) (fun _ => ?_)
                          clear hK K
                          try simp only [Act.put, List.setIfInBounds_toArray, List.set_cons_zero, List.set_cons_succ]
                          first
                            | (refine AnyT.take (i := 14) (v := ?_) rfl (by kernel_rfl) (fun _ _ _ h => h) (Or.inl ⟨by rfl, ?_⟩) (by assumption) ?_; rotate_left; (· (intro V hSV; (try (obtain ⟨q1, q2, q3, q4⟩ := hSV)); (first | (go_simp; done) | (go_simp; with_reducible rfl)))); simp only [Act.put, List.setIfInBounds_toArray, List.set_cons_zero, List.set_cons_succ])
                            | (refine AnyT.take (i := 14) (v := undef) rfl (by kernel_rfl) (fun _ _ _ h => h) (Or.inr ⟨by rfl, rfl⟩) (by assumption) ?_; simp only [Act.put, List.setIfInBounds_toArray, List.set_cons_zero, List.set_cons_succ])
                          refine AnyT.ready (rs := [15]) (by kernel_rfl) (by simp) (ReadyT.cons rfl (fun K hK => ?_) ReadyT.nil)
                          go_simp
                          refine hK.out _ _ (fun h => absurd h (by simp)) (fun _ => ?_)
                          clear hK K
                          try simp only [Act.put, List.setIfInBounds_toArray, List.set_cons_zero, List.set_cons_succ]
                          refine AnyT.done (by kernel_rfl) ?_ _
                          go_wp2_with fail
                          go_meet
                          case rel => exact ⟨by simp, k3⟩
                        | false =>
                          clear CB DB
                          go_wp2_with fail
                          refine AnyT.begin (S := fun V => V.cell? ⟨g, 3, none⟩ = some (.int .i64 ar) ∧ V.cell? ⟨g, 4, none⟩ = some (.int .i64 an) ∧ V.cell? ⟨g, 5, none⟩ = some (.int .i64 br) ∧ V.cell? ⟨g, 6, none⟩ = some (.int .i64 bn)) (by kernel_rfl) (S0.out _ (Keeps.refl _ _).drew) (fun hHeld => ?_)
                          first
                            | (refine AnyT.take (i := 0) (v := ?_) rfl (by kernel_rfl) (fun _ _ _ h => h) (Or.inl ⟨by rfl, ?_⟩) (by assumption) ?_; rotate_left; (· (intro V hSV; (try (obtain ⟨q1, q2, q3, q4⟩ := hSV)); (first | (go_simp; done) | (go_simp; with_reducible rfl)))); simp only [Act.put, List.setIfInBounds_toArray, List.set_cons_zero, List.set_cons_succ])
                            | (refine AnyT.take (i := 0) (v := undef) rfl (by kernel_rfl) (fun _ _ _ h => h) (Or.inr ⟨by rfl, rfl⟩) (by assumption) ?_; simp only [Act.put, List.setIfInBounds_toArray, List.set_cons_zero, List.set_cons_succ])
                          first
                            | (refine AnyT.take (i := 1) (v := ?_) rfl (by kernel_rfl) (fun _ _ _ h => h) (Or.inl ⟨by rfl, ?_⟩) (by assumption) ?_; rotate_left; (· (intro V hSV; (try (obtain ⟨q1, q2, q3, q4⟩ := hSV)); (first | (go_simp; done) | (go_simp; with_reducible rfl)))); simp only [Act.put, List.setIfInBounds_toArray, List.set_cons_zero, List.set_cons_succ])
                            | (refine AnyT.take (i := 1) (v := undef) rfl (by kernel_rfl) (fun _ _ _ h => h) (Or.inr ⟨by rfl, rfl⟩) (by assumption) ?_; simp only [Act.put, List.setIfInBounds_toArray, List.set_cons_zero, List.set_cons_succ])
                          first
                            | (refine AnyT.take (i := 2) (v := ?_) rfl (by kernel_rfl) (fun _ _ _ h => h) (Or.inl ⟨by rfl, ?_⟩) (by assumption) ?_; rotate_left; (· (intro V hSV; (try (obtain ⟨q1, q2, q3, q4⟩ := hSV)); (first | (go_simp; done) | (go_simp; with_reducible rfl)))); simp only [Act.put, List.setIfInBounds_toArray, List.set_cons_zero, List.set_cons_succ])
                            | (refine AnyT.take (i := 2) (v := undef) rfl (by kernel_rfl) (fun _ _ _ h => h) (Or.inr ⟨by rfl, rfl⟩) (by assumption) ?_; simp only [Act.put, List.setIfInBounds_toArray, List.set_cons_zero, List.set_cons_succ])
                          refine AnyT.ready (rs := [3]) (by kernel_rfl) (by simp) (ReadyT.cons rfl (fun K hK => ?_) ReadyT.nil)
                          go_simp
                          have kA : Keeps (fun _ => False) W2 ((W2.alloc (.cells #[.int .i64 1, .int .i64 2, .int .i64 3, .int .i64 4, .int .i64 6, .int .i64 7, .int .i64 9, .int .i64 10, .int .i64 11, .int .i64 12] 3)).drew) := ((Keeps.refl _ W2).alloc _).drew
                          have hHeld := S0.out _ kA
                          refine hK.out _ _ (fun _ => hHeld) (fun _ => ?_)
                          clear hK K
                          try simp only [Act.put, List.setIfInBounds_toArray, List.set_cons_zero, List.set_cons_succ]
                          refine AnyT.ready (rs := [4]) (by kernel_rfl) (by simp) (ReadyT.cons rfl (fun K hK => ?_) ReadyT.nil)
                          go_simp
                          refine (CA.out _ _ (by first | exact Whole.made _ _ _ | exact (Whole.made _ _ _).drew)).mono ?_
                          rintro e w' ⟨rfl, rfl⟩
                          go_wp2_with fail
                          have hHeld := S0.out _ kA
                          refine hK.out _ _ (fun _ => hHeld) (fun _ => ?_)
                          clear hK K
                          try simp only [Act.put, List.setIfInBounds_toArray, List.set_cons_zero, List.set_cons_succ]
                          refine AnyT.ready (rs := [5]) (by kernel_rfl) (by simp) (ReadyT.cons rfl (fun K hK => ?_) ReadyT.nil)
                          go_simp
                          refine (DA.out _).mono ?_
                          rintro e w2 ⟨rfl, hK2⟩
                          have k2 : Keeps (fun _ => False) W2 w2 := kA.trans hK2 fun _ _ => id
                          go_wp2_with fail
                          have hHeld := S0.out _ k2
                          refine hK.out _ _ (fun _ => hHeld) (fun _ => ?_)
                          clear hK K
                          try simp only [Act.put, List.setIfInBounds_toArray, List.set_cons_zero, List.set_cons_succ]
                          first
                            | (refine AnyT.take (i := 6) (v := ?_) rfl (by kernel_rfl) (fun _ _ _ h => h) (Or.inl ⟨by rfl, ?_⟩) (by assumption) ?_; rotate_left; (· (intro V hSV; (try (obtain ⟨q1, q2, q3, q4⟩ := hSV)); (first | (go_simp; done) | (go_simp; with_reducible rfl)))); simp only [Act.put, List.setIfInBounds_toArray, List.set_cons_zero, List.set_cons_succ])
                            | (refine AnyT.take (i := 6) (v := undef) rfl (by kernel_rfl) (fun _ _ _ h => h) (Or.inr ⟨by rfl, rfl⟩) (by assumption) ?_; simp only [Act.put, List.setIfInBounds_toArray, List.set_cons_zero, List.set_cons_succ])
                          first
                            | (refine AnyT.take (i := 7) (v := ?_) rfl (by kernel_rfl) (fun _ _ _ h => h) (Or.inl ⟨by rfl, ?_⟩) (by assumption) ?_; rotate_left; (· (intro V hSV; (try (obtain ⟨q1, q2, q3, q4⟩ := hSV)); (first | (go_simp; done) | (go_simp; with_reducible rfl)))); simp only [Act.put, List.setIfInBounds_toArray, List.set_cons_zero, List.set_cons_succ])
                            | (refine AnyT.take (i := 7) (v := undef) rfl (by kernel_rfl) (fun _ _ _ h => h) (Or.inr ⟨by rfl, rfl⟩) (by assumption) ?_; simp only [Act.put, List.setIfInBounds_toArray, List.set_cons_zero, List.set_cons_succ])
                          (refine AnyT.take (i := 8) (v := undef) rfl (by kernel_rfl) (fun _ _ _ h => h) (Or.inr ⟨by rfl, rfl⟩) (by assumption) ?_; simp only [Act.put, List.setIfInBounds_toArray, List.set_cons_zero, List.set_cons_succ])
                          (refine AnyT.take (i := 9) (v := undef) rfl (by kernel_rfl) (fun _ _ _ h => h) (Or.inr ⟨by rfl, rfl⟩) (by assumption) ?_; simp only [Act.put, List.setIfInBounds_toArray, List.set_cons_zero, List.set_cons_succ])
                          (refine AnyT.take (i := 10) (v := undef) rfl (by kernel_rfl) (fun _ _ _ h => h) (Or.inr ⟨by rfl, rfl⟩) (by assumption) ?_; simp only [Act.put, List.setIfInBounds_toArray, List.set_cons_zero, List.set_cons_succ])
                          (refine AnyT.take (i := 11) (v := undef) rfl (by kernel_rfl) (fun _ _ _ h => h) (Or.inr ⟨by rfl, rfl⟩) (by assumption) ?_; simp only [Act.put, List.setIfInBounds_toArray, List.set_cons_zero, List.set_cons_succ])
                          (refine AnyT.take (i := 12) (v := undef) rfl (by kernel_rfl) (fun _ _ _ h => h) (Or.inr ⟨by rfl, rfl⟩) (by assumption) ?_; simp only [Act.put, List.setIfInBounds_toArray, List.set_cons_zero, List.set_cons_succ])
                          (refine AnyT.take (i := 13) (v := undef) rfl (by kernel_rfl) (fun _ _ _ h => h) (Or.inr ⟨by rfl, rfl⟩) (by assumption) ?_; simp only [Act.put, List.setIfInBounds_toArray, List.set_cons_zero, List.set_cons_succ])
                          (refine AnyT.take (i := 14) (v := undef) rfl (by kernel_rfl) (fun _ _ _ h => h) (Or.inr ⟨by rfl, rfl⟩) (by assumption) ?_; simp only [Act.put, List.setIfInBounds_toArray, List.set_cons_zero, List.set_cons_succ])
                          refine AnyT.ready (rs := [15]) (by kernel_rfl) (by simp) (ReadyT.cons rfl (fun K hK => ?_) ReadyT.nil)
                          go_simp
                          refine hK.out _ _ (fun h => absurd h (by simp)) (fun _ => ?_)
                          clear hK K
                          try simp only [Act.put, List.setIfInBounds_toArray, List.set_cons_zero, List.set_cons_succ]
                          refine AnyT.done (by kernel_rfl) ?_ _
                          go_wp2_with fail
                          go_meet
                          case rel => exact ⟨by simp, k2⟩
                      case rest =>
                        obtain ⟨rfl, hk2⟩ := hcut
                        have KY := Lib.hid (KX.out.trans hk2 fun _ _ => id)
                        have WY := Lib.hid (WX.out.keeps hk2 id)
                        clear d2 d3 d4 d5 d6 CA CB DA DB
                        cases hq : (q5 && q6) with
                        | false =>
                          obtain rfl : r = false := by rw [HO.out]; cases q5 <;> cases q6 <;> simp_all
                          clear hq
                          go_wp2_with fail
                          go_ret
                          exact ⟨rfl, KY.out⟩
                        | true =>
                          have HO2 : Hid (r = (q7 && q8 && q9)) := Lib.hid (by rw [HO.out]; cases q5 <;> cases q6 <;> simp_all)
                          have f3 : wc.cell? ⟨g, 3, none⟩ = some (.int .i64 ar) := WY.out.at_ 3
                          have f4 : wc.cell? ⟨g, 4, none⟩ = some (.int .i64 an) := WY.out.at_ 4
                          have f7 : wc.cell? ⟨g, 7, none⟩ = some (.slice b1 b2 b3) := WY.out.at_ 7
                          have f8 : wc.cell? ⟨g, 8, none⟩ = some (.slice e1 e2 e3) := WY.out.at_ 8
                          clear hq hk2
                          go_upto_region 13 with fail
                          go_cut [110] from 91 to 110 (fun x wx => x = .bool (!q7) ∧ wx = wc)
                          case first =>
                            by_cases a1 : k = 12
                            · skip
                              by_cases a2 : ar = 0
                              · skip
                                have hb2 : (ar != 0) = false := by simp [a2]
                                by_cases a3 : an < 0
                                · skip
                                  obtain rfl : q7 = false := by rw [← H7.out]; rw [if_pos a1]; exact decide_eq_false (by omega)
                                  subst a1
                                  clear a2
                                  go_wp2_with fail
                                  go_meet
                                  case rel => exact ⟨rfl, rfl⟩
                                · skip
                                  by_cases a4 : 5 < an
                                  · skip
                                    obtain rfl : q7 = false := by rw [← H7.out]; rw [if_pos a1]; exact decide_eq_false (by omega)
                                    subst a1
                                    clear a2
                                    go_wp2_with fail
                                    go_meet
                                    case rel => exact ⟨rfl, rfl⟩
                                  · skip
                                    obtain rfl : q7 = true := by rw [← H7.out]; rw [if_pos a1]; exact decide_eq_true (by omega)
                                    subst a1
                                    clear a2
                                    go_wp2_with fail
                                    go_meet
                                    case rel => exact ⟨rfl, rfl⟩
                              · skip
                                obtain rfl : q7 = false := by rw [← H7.out]; rw [if_pos a1]; exact decide_eq_false (by omega)
                                have hb : (ar != 0) = true := by simpa using a2
                                subst a1
                                clear a2
                                go_wp2_with fail
                                go_meet
                                case rel => exact ⟨rfl, rfl⟩
                            · skip
                              obtain rfl : q7 = true := by rw [← H7.out]; rw [if_neg a1]
                              have hb : (k == 12) = false := by simpa using a1
                              clear a1
                              go_wp2_with fail
                              go_meet
                              case rel => exact ⟨rfl, rfl⟩
                          case rest =>
                            obtain ⟨rfl, rfl⟩ := hcut
                            cases q7 with
                            | false =>
                              obtain rfl : r = false := by rw [HO2.out]; simp
                              go_wp2_with fail
                              go_ret
                              exact ⟨rfl, KY.out⟩
                            | true =>
                              obtain rfl : r = (q8 && q9) := by rw [HO2.out]; simp
                              clear HO HO2 H7
                              go_upto_region 15 with fail
                              go_cut [4] from 111 to 136 (fun x wx => x = .bool (q8 && q9) ∧ wx = wc)
                              case first =>
                                by_cases a1 : b2 = 0
                                · skip
                                  by_cases c1 : e2 = 0
                                  · skip
                                    obtain rfl : q8 = true := by rw [← H8.out]; simp [a1]
                                    obtain rfl : q9 = true := by rw [← H9.out]; simp [c1]
                                    subst a1
                                    subst c1
                                    go_wp2_with fail
                                    go_meet
                                    case rel => exact ⟨rfl, rfl⟩
                                  · skip
                                    have hc1 : ((e2 : Int) == 0) = false := by simpa using c1
                                    by_cases c2 : k = 11
                                    · skip
                                      obtain rfl : q8 = true := by rw [← H8.out]; simp [a1]
                                      obtain rfl : q9 = true := by rw [← H9.out]; simp [c2]
                                      subst a1
                                      subst c2
                                      go_wp2_with fail
                                      go_meet
                                      case rel => exact ⟨rfl, rfl⟩
                                    · skip
                                      have hc2 : (k == 11) = false := by simpa using c2
                                      by_cases c3 : k = 14
                                      · skip
                                        obtain rfl : q8 = true := by rw [← H8.out]; simp [a1]
                                        obtain rfl : q9 = true := by rw [← H9.out]; simp [c3]
                                        subst a1
                                        subst c3
                                        go_wp2_with fail
                                        go_meet
                                        case rel => exact ⟨rfl, rfl⟩
                                      · skip
                                        obtain rfl : q8 = true := by rw [← H8.out]; simp [a1]
                                        obtain rfl : q9 = false := by rw [← H9.out]; simp [c1, c2, c3]
                                        subst a1
                                        have hc3 : (k == 14) = false := by simpa using c3
                                        clear c2 c3
                                        go_wp2_with fail
                                        go_meet
                                        case rel => exact ⟨rfl, rfl⟩
                                · skip
                                  have hb1 : ((b2 : Int) == 0) = false := by simpa using a1
                                  by_cases a2 : k < 11
                                  · skip
                                    obtain rfl : q8 = false := by rw [← H8.out]; simp [a1]; omega
                                    go_wp2_with fail
                                    go_meet
                                    case rel => exact ⟨rfl, rfl⟩
                                  · skip
                                    by_cases a3 : 14 < k
                                    · skip
                                      obtain rfl : q8 = false := by rw [← H8.out]; simp [a1]; omega
                                      go_wp2_with fail
                                      go_meet
                                      case rel => exact ⟨rfl, rfl⟩
                                    · skip
                                      by_cases c1 : e2 = 0
                                      · skip
                                        obtain rfl : q8 = true := by rw [← H8.out]; simp [a1]; omega
                                        obtain rfl : q9 = true := by rw [← H9.out]; simp [c1]
                                        subst c1
                                        go_wp2_with fail
                                        go_meet
                                        case rel => exact ⟨rfl, rfl⟩
                                      · skip
                                        have hc1 : ((e2 : Int) == 0) = false := by simpa using c1
                                        by_cases c2 : k = 11
                                        · skip
                                          obtain rfl : q8 = true := by rw [← H8.out]; simp [a1]; omega
                                          obtain rfl : q9 = true := by rw [← H9.out]; simp [c2]
                                          subst c2
                                          go_wp2_with fail
                                          go_meet
                                          case rel => exact ⟨rfl, rfl⟩
                                        · skip
                                          have hc2 : (k == 11) = false := by simpa using c2
                                          by_cases c3 : k = 14
                                          · skip
                                            obtain rfl : q8 = true := by rw [← H8.out]; simp [a1]; omega
                                            obtain rfl : q9 = true := by rw [← H9.out]; simp [c3]
                                            subst c3
                                            go_wp2_with fail
                                            go_meet
                                            case rel => exact ⟨rfl, rfl⟩
                                          · skip
                                            obtain rfl : q8 = true := by rw [← H8.out]; simp [a1]; omega
                                            obtain rfl : q9 = false := by rw [← H9.out]; simp [c1, c2, c3]
                                            have hc3 : (k == 14) = false := by simpa using c3
                                            clear c2 c3
                                            go_wp2_with fail
                                            go_meet
                                            case rel => exact ⟨rfl, rfl⟩
                              case rest =>
                                obtain ⟨rfl, rfl⟩ := hcut
                                go_wp2_with fail
                                go_ret
                                exact ⟨rfl, KY.out⟩
end Go.Proofs.YtcdlchcmidfhiaaGreatDoor
