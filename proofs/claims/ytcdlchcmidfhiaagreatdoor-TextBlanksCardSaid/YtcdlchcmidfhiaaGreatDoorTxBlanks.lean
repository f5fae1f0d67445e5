/-
  concordlaw10.TextBlanks by contract.
-/
import Derived.Test.YtcdlchcmidfhiaaGreatDoorTxIx
import Derived.Test.YtcdlchcmidfhiaaGreatDoorTxAgain
namespace Go.Proofs.YtcdlchcmidfhiaaGreatDoor
open Go.RowKit Go.Extern.Stop Go.Stop Go.Extern

/-! ### plainly -/
theorem spaced_snoc (i : Nat) : ∀ (k : Nat) (L : List Str) (w : Str), spaced i k (L ++ [w]) = spaced i k L ++ (gap (i + (k + L.length)) ++ w)
  | k, [], w => by simp [spaced]
  | k, x :: t, w => by
    simp only [List.cons_append, spaced]
    rw [spaced_snoc i (k + 1) t w, List.length_cons, show k + 1 + t.length = k + (t.length + 1) by omega]
    simp
def sep (i : Nat) : Str := if i % 2 = 1 then [10] else []
theorem blank_snoc : ∀ (i : Nat) (L : List (List Str)) (ws : List Str), blankT i (L ++ [ws]) = blankT i L ++ (sep (i + L.length) ++ (spaced (i + L.length) 0 ws ++ [32, 10]))
  | i, [], ws => by
    unfold blankT sep
    simp only [List.nil_append, blankL, List.flatMap_append, List.flatMap_cons, List.flatMap_nil, List.length_nil, Nat.add_zero]
    split <;> simp
  | i, l :: t, ws => by
    have := blank_snoc (i + 1) t ws
    unfold blankT at this ⊢
    simp only [List.cons_append, blankL, List.flatMap_append, List.flatMap_cons] at this ⊢
    rw [this, List.length_cons, show i + 1 + t.length = i + (t.length + 1) by omega]
    simp
theorem split_short {b : UInt8} : ∀ (s cur w : Str), w ∈ splitAll b cur s → w.length ≤ cur.length + s.length
  | [], cur, w, h => by simp [splitAll] at h; subst h; simp
  | x :: s, cur, w, h => by
    simp only [splitAll] at h
    split at h
    · rcases List.mem_cons.1 h with rfl | h
      · simp
      · have := split_short s [] w h; simp at this ⊢; omega
    · have := split_short s (cur ++ [x]) w h; simp at this ⊢; omega
theorem line_short {S l : Str} (h : l ∈ linesT S) : l.length ≤ S.length := by
  have := split_short S [] l (drop0_mem h)
  simpa using this
theorem word_short {l w : Str} (h : w ∈ wordsT l) : w.length ≤ l.length := by
  unfold wordsT at h
  rw [List.mem_filter] at h
  have := split_short l [] w h.1
  simpa using this
theorem words_few (l : Str) : (wordsT l).length ≤ l.length + 1 := by
  unfold wordsT
  exact Nat.le_trans (List.length_filter_le _ _) (split_len _ _)

/-- A row of strings, at a place. -/
theorem str_cell {w0 w : World} {o : Option Addr} {n c : Nat} {L : List Str} {i : Nat} {x : Str} (h : Mine strK w0 w (.slice o n c) L) (hn : L.length = n) (hx : L[i]? = some x) : ∃ g, o = some ⟨g, 0, none⟩ ∧ w.cell? ⟨g, i, none⟩ = some (.string (mkB x)) := by
  have hi := (List.getElem?_eq_some_iff.1 hx).1
  obtain ⟨g, rfl, _⟩ := mine_some h hn (by omega)
  have e := (mine_cell h hn i (by show i < n * 1; omega)).1
  refine ⟨g, rfl, e.trans ?_⟩
  show (L.map fun x => Value.string (mkB x))[i]? = _
  rw [List.getElem?_map, hx]; rfl

set_option maxRecDepth 100000 in
set_option maxHeartbeats 2000000 in
theorem blanks_any10 (F10 : Face10) {w : World} (S : Str) (hg : GlobT w) :
    Calls Tryz.prog 5 #[.string (mkB S)] w fun e w' => e = .returned (.bool true) ∧ Keeps (fun _ => False) w w' := by
  have hz := mkB_size S
  have AL := Lib.hid (fun V (h : GlobT V) => alive_any10 F10 (w := V) h)
  have HG := Lib.hid hg
  by_cases hs : 3000 < S.length
  · have b1 : (3000 : Int) < ((mkB S).size : Int) := by omega
    clear hg hz hs
    go_enter Tryz.func5, Tryz.ntmps5
    go_wp2_with fail
    refine (AL.out _ HG.out).mono ?_
    rintro e w5 ⟨rfl, hK⟩
    have K5 := Lib.hid hK
    clear hK
    go_wp2_with fail
    go_ret
    exact ⟨rfl, K5.out⟩
  · have b1 : ¬ (3000 : Int) < ((mkB S).size : Int) := by omega
    have CL := Lib.hid (rlines_any (w := w) S (by omega))
    have CW := Lib.hid (fun V (l : Str) (h : l.length ≤ 90000) => rwords_any (w := V) l h)
    have hs6 : Hid (S.length ≤ 3000) := Lib.hid (by omega)
    have CP := Lib.hid (fun V (g : GlobT V) => F10.parse_ (w := V) S g (by have := hs6.out; omega))
    have CT := Lib.hid (fun V (g : GlobT V) (T : Str) (h : T.length ≤ 20000) => F10.parse_ (w := V) T g h)
    have IX3 := Lib.hid (fun V => ix3 (⟨#[32]⟩ : ByteArray) (⟨#[32, 32]⟩ : ByteArray) (⟨#[32, 32, 32]⟩ : ByteArray) V)
    have IX2 := Lib.hid (fun V => ix2 (⟨#[]⟩ : ByteArray) (⟨#[10]⟩ : ByteArray) V)
    have LW := Lib.hid (fun ht => blanks_law (s := S) (by have := hs6.out; omega) ht)
    clear hg hz hs
    go_enter Tryz.func5, Tryz.ntmps5
    go_wp2_with fail
    refine CL.out.mono ?_
    rintro e w1 ⟨r, rfl, hM, hK⟩
    obtain ⟨ro, rc, rfl, _⟩ := row_shape hM.1
    have M1 := Lib.hid hM
    have K1 := Lib.hid hK
    have ll := lines_len S
    have LS := Lib.hid (fun l (h : l ∈ linesT S) => line_short h)
    obtain ⟨L, hL⟩ : ∃ L, linesT S = L := ⟨_, rfl⟩
    rw [hL] at M1 LW LS ll
    obtain ⟨n, hn⟩ : ∃ n, L.length = n := ⟨_, rfl⟩
    rw [hL, hn]
    rw [hn] at M1 ll
    have hn' := Lib.hid hn
    have n3 : n ≤ 3001 := by have := hs6.out; omega
    clear hM hK hL hn CL ll
    go_wp2_with fail
    go_loopw [3, 20] (fun tv jv wr => ∃ (j : Nat) (T : Str), tv = .string (mkB T) ∧ jv = .int .i64 (j : Int) ∧ j ≤ n ∧ T = blankT 0 ((L.take j).map wordsT) ∧ T.length ≤ j * 20000000 ∧ Keeps (fun _ => False) w1 wr) (fun _ jv _ => n - (intOf jv).toNat)
    case atStart => exact ⟨0, [], rfl, rfl, Nat.zero_le _, rfl, Nat.zero_le _, Keeps.refl _ _⟩
    case round =>
      obtain ⟨j, T, rfl, rfl, hj, hT, hTl, hKr⟩ := hrel
      have T1 := Lib.hid hT
      have TL := Lib.hid hTl
      have J1 := Lib.hid hKr
      clear hT hTl hKr
      by_cases hlt : j < n
      · have b2 : (j : Int) < (n : Int) := by omega
        obtain ⟨l, hl⟩ : ∃ l, L[j]? = some l := ⟨_, List.getElem?_eq_getElem (by rw [hn'.out]; exact hlt)⟩
        have hl' := Lib.hid hl
        obtain ⟨g, rfl, hc⟩ := str_cell (M1.out.same J1.out) hn'.out hl
        have ls := LS.out l (List.mem_of_getElem? hl)
        have cw := Lib.hid (CW.out wr l (by have := hs6.out; omega))
        have WL := Lib.hid (show ∀ x ∈ wordsT l, x.length ≤ 3000 from fun x hx => by have := word_short hx; have := hs6.out; omega)
        have wf : (wordsT l).length ≤ 3001 := by have := words_few l; have := hs6.out; omega
        clear hl ls
        go_wp2_with fail
        refine cw.out.mono ?_
        rintro e w2 ⟨u2, rfl, hM, hK⟩
        obtain ⟨wo, wc, rfl, _⟩ := row_shape hM.1
        obtain ⟨W, hW⟩ : ∃ W, wordsT l = W := ⟨_, rfl⟩
        obtain ⟨m, hm⟩ : ∃ m, W.length = m := ⟨_, rfl⟩
        rw [hW] at hM WL wf ⊢
        rw [hm] at hM wf ⊢
        have M2 := Lib.hid hM
        have hm' := Lib.hid hm
        have hW' := Lib.hid hW
        have J2 := Lib.hid (J1.out.trans hK fun _ _ => id)
        clear hM hK hW hm hc cw
        go_wp2_with fail
        go_loop [6, 28] (fun lv kv => ∃ (k : Nat) (X : Str), lv = .string (mkB X) ∧ kv = .int .i64 (k : Int) ∧ k ≤ m ∧ X = spaced j 0 (W.take k) ∧ X.length ≤ k * 3003) (fun _ kv => m - (intOf kv).toNat)
        case atStart => exact ⟨0, [], rfl, rfl, Nat.zero_le _, rfl, Nat.zero_le _⟩
        case round =>
          obtain ⟨k, X, rfl, rfl, hk, hX, hXl⟩ := hrel
          have X1 := Lib.hid hX
          clear hX
          by_cases hkm : k < m
          · have b3 : (k : Int) < (m : Int) := by omega
            obtain ⟨x, hx⟩ : ∃ x, W[k]? = some x := ⟨_, List.getElem?_eq_getElem (by rw [hm'.out]; exact hkm)⟩
            obtain ⟨g2, rfl, hc⟩ := str_cell M2.out hm'.out hx
            have xs := WL.out x (List.mem_of_getElem? hx)
            have S2 : Hid (spaced j 0 (W.take (k + 1)) = spaced j 0 (W.take k) ++ (gap (j + k) ++ x)) := Lib.hid (by
              rw [List.take_add_one, hx, show (some x).toList = [x] from rfl, spaced_snoc, List.length_take, hm'.out, Nat.min_eq_left (by omega), Nat.zero_add])
            have zX := mkB_size X
            have zx := mkB_size x
            have wjk : IntKind.i64.wrap ((j : Int) + (k : Int)) = (j : Int) + (k : Int) := IntWalk.i64_in _ (by omega)
            have xl9 : (X.length : Int) ≤ 10000000 := by
              have : k * 3003 ≤ 3001 * 3003 := Nat.mul_le_mul (by omega) (Nat.le_refl _)
              omega
            have xx : (x.length : Int) ≤ 3000 := by omega
            clear hx
            obtain ⟨i0, i1, i2⟩ := IX3.out w2
            have hr3 : (j + k) % 3 = 0 ∨ (j + k) % 3 = 1 ∨ (j + k) % 3 = 2 := by omega
            rcases hr3 with hr | hr | hr
            · have hg3 : gap (j + k) = [32] := by unfold gap; rw [hr]; rfl
              have a1 : mkB X ++ (⟨#[32]⟩ : ByteArray) = mkB (X ++ [32]) := mkB_app X [32]
              have a2 : mkB (X ++ [32]) ++ mkB x = mkB (X ++ [32] ++ x) := mkB_app _ _
              have z1 : (⟨#[32]⟩ : ByteArray).size = 1 := rfl
              have z2 : (mkB (X ++ [32])).size = X.length + 1 := by rw [mkB_size]; simp
              have tm : ((j : Int) + (k : Int)).tmod 3 = 0 := by rw [Int.tmod_eq_emod_of_nonneg (by omega)]; omega
              have tm2 : (((j + k : Nat)) : Int).tmod 3 = 0 := by rw [Int.tmod_eq_emod_of_nonneg (by omega)]; omega
              have S3 : Hid (X ++ [32] ++ x = spaced j 0 (W.take (k + 1))) := Lib.hid (by rw [S2.out, hg3, X1.out, List.append_assoc])
              clear hg3 hr
              go_wp2_with fail
              go_round
              case rel => exact ⟨k + 1, X ++ [32] ++ x, by simp, by go_num, by omega, S3.out, by simp; omega⟩
              case measure => simp [intOf]; omega
            · have hg3 : gap (j + k) = [32, 32] := by unfold gap; rw [hr]; rfl
              have a1 : mkB X ++ (⟨#[32, 32]⟩ : ByteArray) = mkB (X ++ [32, 32]) := mkB_app X [32, 32]
              have a2 : mkB (X ++ [32, 32]) ++ mkB x = mkB (X ++ [32, 32] ++ x) := mkB_app _ _
              have z1 : (⟨#[32, 32]⟩ : ByteArray).size = 2 := rfl
              have z2 : (mkB (X ++ [32, 32])).size = X.length + 2 := by rw [mkB_size]; simp
              have tm : ((j : Int) + (k : Int)).tmod 3 = 1 := by rw [Int.tmod_eq_emod_of_nonneg (by omega)]; omega
              have tm2 : (((j + k : Nat)) : Int).tmod 3 = 1 := by rw [Int.tmod_eq_emod_of_nonneg (by omega)]; omega
              have S3 : Hid (X ++ [32, 32] ++ x = spaced j 0 (W.take (k + 1))) := Lib.hid (by rw [S2.out, hg3, X1.out, List.append_assoc])
              clear hg3 hr
              go_wp2_with fail
              go_round
              case rel => exact ⟨k + 1, X ++ [32, 32] ++ x, by simp, by go_num, by omega, S3.out, by simp; omega⟩
              case measure => simp [intOf]; omega
            · have hg3 : gap (j + k) = [32, 32, 32] := by unfold gap; rw [hr]; rfl
              have a1 : mkB X ++ (⟨#[32, 32, 32]⟩ : ByteArray) = mkB (X ++ [32, 32, 32]) := mkB_app X [32, 32, 32]
              have a2 : mkB (X ++ [32, 32, 32]) ++ mkB x = mkB (X ++ [32, 32, 32] ++ x) := mkB_app _ _
              have z1 : (⟨#[32, 32, 32]⟩ : ByteArray).size = 3 := rfl
              have z2 : (mkB (X ++ [32, 32, 32])).size = X.length + 3 := by rw [mkB_size]; simp
              have tm : ((j : Int) + (k : Int)).tmod 3 = 2 := by rw [Int.tmod_eq_emod_of_nonneg (by omega)]; omega
              have tm2 : (((j + k : Nat)) : Int).tmod 3 = 2 := by rw [Int.tmod_eq_emod_of_nonneg (by omega)]; omega
              have S3 : Hid (X ++ [32, 32, 32] ++ x = spaced j 0 (W.take (k + 1))) := Lib.hid (by rw [S2.out, hg3, X1.out, List.append_assoc])
              clear hg3 hr
              go_wp2_with fail
              go_round
              case rel => exact ⟨k + 1, X ++ [32, 32, 32] ++ x, by simp, by go_num, by omega, S3.out, by simp; omega⟩
              case measure => simp [intOf]; omega
          · obtain rfl : k = m := by omega
            have b3 : ¬ (k : Int) < (k : Int) := by omega
            have eW : W.take k = W := List.take_of_length_le (by rw [hm'.out]; exact Nat.le_refl _)
            have S3 : Hid (blankT 0 ((L.take (j + 1)).map wordsT) = T ++ (sep j ++ (X ++ [32, 10]))) := Lib.hid (by
              rw [List.take_add_one, hl'.out, show (some l).toList = [l] from rfl, List.map_append, List.map_cons, List.map_nil, blank_snoc, List.length_map, List.length_take, hn'.out, Nat.min_eq_left (by omega), Nat.zero_add, T1.out, hW'.out, X1.out, eW])
            have zT := mkB_size T
            have zX := mkB_size X
            have tl := TL.out
            have xl9 : X.length ≤ 10000000 := by
              have : k * 3003 ≤ 3001 * 3003 := Nat.mul_le_mul (by omega) (Nat.le_refl _)
              omega
            have tl9 : T.length ≤ 70000000000 := by
              have : j * 20000000 ≤ 3001 * 20000000 := Nat.mul_le_mul (by omega) (Nat.le_refl _)
              omega
            have tlI : (T.length : Int) ≤ 70000000000 := by omega
            have xlI : (X.length : Int) ≤ 10000000 := by omega
            obtain ⟨i0, i1⟩ := IX2.out w2
            have hr3 : j % 2 = 0 ∨ j % 2 = 1 := by omega
            rcases hr3 with hr | hr
            · have hsp : sep j = [] := by unfold sep; rw [hr]; rfl
              have a1 : mkB T ++ (⟨#[]⟩ : ByteArray) = mkB T := by have := mkB_app T []; rw [List.append_nil] at this; exact this
              have a2 : mkB T ++ mkB X = mkB (T ++ X) := mkB_app _ _
              have a3 : mkB (T ++ X) ++ (⟨#[32, 10]⟩ : ByteArray) = mkB (T ++ (X ++ [32, 10])) := by rw [← List.append_assoc]; exact mkB_app _ [32, 10]
              have z3 : (mkB (T ++ X)).size = T.length + X.length := by rw [mkB_size]; simp
              have z1 : (⟨#[]⟩ : ByteArray).size = 0 := rfl
              have z4 : (⟨#[32, 10]⟩ : ByteArray).size = 2 := rfl
              have tm : ((j : Int)).tmod 2 = 0 := by rw [Int.tmod_eq_emod_of_nonneg (by omega)]; omega
              have S4 : Hid (T ++ (X ++ [32, 10]) = blankT 0 ((L.take (j + 1)).map wordsT)) := Lib.hid (by rw [S3.out, hsp]; simp)
              clear hsp hr eW
              go_wp2_with fail
              go_roundw
              case rel => exact ⟨j + 1, T ++ (X ++ [32, 10]), by simp, by go_num, by omega, S4.out, by simp; omega, J2.out⟩
              case measure => simp [intOf]; omega
            · have hsp : sep j = [10] := by unfold sep; rw [hr]; rfl
              have a1 : mkB T ++ (⟨#[10]⟩ : ByteArray) = mkB (T ++ [10]) := mkB_app T [10]
              have a2 : mkB (T ++ [10]) ++ mkB X = mkB (T ++ 10 :: X) := by rw [mkB_app, List.append_assoc]; rfl
              have a3 : mkB (T ++ 10 :: X) ++ (⟨#[32, 10]⟩ : ByteArray) = mkB (T ++ 10 :: (X ++ [32, 10])) := by have := mkB_app (T ++ 10 :: X) [32, 10]; rw [List.append_assoc] at this; exact this
              have z2 : (mkB (T ++ [10])).size = T.length + 1 := by rw [mkB_size]; simp
              have z3 : (mkB (T ++ 10 :: X)).size = T.length + (X.length + 1) := by rw [mkB_size]; simp
              have z1 : (⟨#[10]⟩ : ByteArray).size = 1 := rfl
              have z4 : (⟨#[32, 10]⟩ : ByteArray).size = 2 := rfl
              have tm : ((j : Int)).tmod 2 = 1 := by rw [Int.tmod_eq_emod_of_nonneg (by omega)]; omega
              have S4 : Hid (T ++ 10 :: (X ++ [32, 10]) = blankT 0 ((L.take (j + 1)).map wordsT)) := Lib.hid (by rw [S3.out, hsp]; simp)
              clear hsp hr eW
              go_wp2_with fail
              go_roundw
              case rel => exact ⟨j + 1, T ++ 10 :: (X ++ [32, 10]), by simp, by go_num, by omega, S4.out, by simp; omega, J2.out⟩
              case measure => simp [intOf]; omega
      · obtain rfl : j = n := by omega
        have b2 : ¬ (j : Int) < (j : Int) := by omega
        have eL : L.take j = L := List.take_of_length_le (by rw [hn'.out]; exact Nat.le_refl _)
        have T2 : Hid (T = blankT 0 (L.map wordsT)) := Lib.hid (by rw [T1.out, eL])
        have KR := Lib.hid (K1.out.trans J1.out fun _ _ => id)
        have zT := mkB_size T
        clear eL
        by_cases ht : 20000 < T.length
        · have b3 : (20000 : Int) < ((mkB T).size : Int) := by omega
          clear ht
          go_wp2_with fail
          refine (AL.out _ (HG.out.keeps KR.out id)).mono ?_
          rintro e w9 ⟨rfl, hK⟩
          have K9 := Lib.hid (KR.out.trans hK fun _ _ => id)
          clear hK
          go_wp2_with fail
          go_ret
          exact ⟨rfl, K9.out⟩
        · have b3 : ¬ (20000 : Int) < ((mkB T).size : Int) := by omega
          have cp := Lib.hid (CP.out wr (HG.out.keeps KR.out id))
          have ct := Lib.hid (fun V (g : GlobT V) => CT.out V g T (by omega))
          have lw := Lib.hid (LW.out (by rw [← T2.out]; omega))
          rw [← T2.out] at lw
          clear ht
          go_wp2_with fail
          refine cp.out.mono ?_
          rintro e w3 ⟨hK, h⟩
          have K3 := Lib.hid (KR.out.trans hK fun _ _ => id)
          clear hK cp
          rcases h with ⟨F, v, hp, rfl, hv⟩ | ⟨k, a, ev, hp, rfl, hE⟩
          · obtain ⟨q1, -⟩ := parse_size hp
            have V3 := Lib.hid hv
            have hP := Lib.hid hp
            have Q1 : Hid (F.size ≤ 20000) := Lib.hid (by have := hs6.out; omega)
            clear hv hp q1
            go_wp2_with fail
            refine (ct.out _ (HG.out.keeps K3.out id)).mono ?_
            rintro e w4 ⟨hK, h⟩
            have K4 := Lib.hid (K3.out.trans hK fun _ _ => id)
            have V4 := Lib.hid (V3.out.same hK)
            clear hK ct
            rcases h with ⟨G, u, hq, rfl, hu⟩ | ⟨k, a, ev, hq, _⟩
            · have e1 : G = F := by
                rcases lw.out with ⟨H, h1, h2⟩ | ⟨a, b, h1, _⟩
                · rw [hP.out] at h1
                  rw [hq] at h2
                  injection h1 with h1
                  injection h2 with h2
                  rw [h1, h2]
                · rw [hP.out] at h1; cases h1
              subst e1
              have CS := Lib.hid (same_yes9 _ G (Nat.le_refl _) w4 v u V4.out hu Q1.out)
              clear hq hu
              go_wp2_with fail
              refine (no_nil _).mono ?_
              rintro e w' ⟨rfl, rfl⟩
              go_wp2_with fail
              refine (no_nil _).mono ?_
              rintro e w' ⟨rfl, rfl⟩
              go_wp2_with fail
              refine CS.out.mono ?_
              rintro e w5 ⟨rfl, hK⟩
              have K5 := Lib.hid (K4.out.trans hK fun _ _ => id)
              clear hK
              go_wp2_with fail
              refine (AL.out _ (HG.out.keeps K5.out id)).mono ?_
              rintro e w9 ⟨rfl, hK⟩
              have K9 := Lib.hid (K5.out.trans hK fun _ _ => id)
              clear hK
              go_wp2_with fail
              go_ret
              exact ⟨rfl, K9.out⟩
            · exfalso
              rcases lw.out with ⟨H, _, h2⟩ | ⟨a, b, h1, _⟩
              · rw [hq] at h2; cases h2
              · rw [hP.out] at h1; cases h1
          · have E3 := Lib.hid hE
            have hP := Lib.hid hp
            clear hE hp
            go_wp2_with fail
            refine (ct.out _ (HG.out.keeps K3.out id)).mono ?_
            rintro e w4 ⟨hK, h⟩
            have K4 := Lib.hid (K3.out.trans hK fun _ _ => id)
            have E4 := Lib.hid (E3.out.same hK)
            clear hK ct
            rcases h with ⟨G, u, hq, _⟩ | ⟨k', a', ev', hq, rfl, hE⟩
            · exfalso
              rcases lw.out with ⟨H, h1, _⟩ | ⟨a, b, _, h2⟩
              · rw [hP.out] at h1; cases h1
              · rw [hq] at h2; cases h2
            · have ek : k = 9 ∧ k' = 9 := by
                rcases lw.out with ⟨H, h1, _⟩ | ⟨a2, b2, h1, h2⟩
                · rw [hP.out] at h1; cases h1
                · rw [hP.out] at h1
                  rw [hq] at h2
                  injection h1 with h1
                  injection h1 with h1
                  injection h2 with h2
                  injection h2 with h2
                  exact ⟨h1, h2⟩
              obtain ⟨rfl, rfl⟩ := ek
              have E5 := Lib.hid hE
              have CS := Lib.hid (same_yes9 _ .nil (Nat.le_refl _) w4 _ _ (SlOf.nil_ w4) (SlOf.nil_ w4) (by decide))
              clear hq hE
              go_wp2_with fail
              refine (no_u E4.out).mono ?_
              rintro e w' ⟨rfl, rfl⟩
              go_wp2_with fail
              refine (no_u E5.out).mono ?_
              rintro e w' ⟨rfl, rfl⟩
              go_wp2_with fail
              refine CS.out.mono ?_
              rintro e w5 ⟨rfl, hK⟩
              have K5 := Lib.hid (K4.out.trans hK fun _ _ => id)
              clear hK
              go_wp2_with fail
              refine (AL.out _ (HG.out.keeps K5.out id)).mono ?_
              rintro e w9 ⟨rfl, hK⟩
              have K9 := Lib.hid (K5.out.trans hK fun _ _ => id)
              clear hK
              go_wp2_with fail
              go_ret
              exact ⟨rfl, K9.out⟩
end Go.Proofs.YtcdlchcmidfhiaaGreatDoor
