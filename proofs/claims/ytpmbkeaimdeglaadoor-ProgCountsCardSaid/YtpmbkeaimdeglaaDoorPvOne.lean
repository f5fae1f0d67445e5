/-
  prog.argRight, regRight, aRight, collRight by contract.
-/
import Derived.Test.YtpmbkeaimdeglaaDoorPgOneAll
namespace Go.Proofs.YtpmbkeaimdeglaaDoor
open Go.RowKit Go.Extern.Stop Go.Stop Go.Extern

theorem argR_yes (r n : Int) (w : World) :
    Calls Tryd.prog 58 #[.bool true, .agg #[.int .i64 r, .int .i64 n]] w fun e w' => e = .returned (.bool (argOk r n true)) ∧ Keeps (fun _ => False) w w' := by
  have k : Hid (Keeps (fun _ => False) w (w.alloc (.cells #[.int .i64 r, .int .i64 n] 40))) := Lib.hid ((Keeps.refl _ w).alloc _)
  obtain ⟨x, hx⟩ : ∃ x, argOk r n true = x := ⟨_, rfl⟩
  rw [hx]
  have e : x = decide (0 ≤ r ∧ r ≤ 8 ∧ -999 ≤ n ∧ n ≤ 999) := by rw [← hx]; rfl
  have e' := Lib.hid e
  clear hx e
  by_cases h0 : 0 ≤ r
  · by_cases h1 : r ≤ 8
    · by_cases h2 : -999 ≤ n
      · by_cases h3 : n ≤ 999
        · obtain rfl : x = true := by rw [e'.out]; exact decide_eq_true ⟨h0, h1, h2, h3⟩
          go_enter Tryd.func58, Tryd.ntmps58
          go_wp2
          go_ret
          exact ⟨rfl, k.out⟩
        · obtain rfl : x = false := by rw [e'.out]; exact decide_eq_false (by omega)
          go_enter Tryd.func58, Tryd.ntmps58
          go_wp2
          go_ret
          exact ⟨rfl, k.out⟩
      · obtain rfl : x = false := by rw [e'.out]; exact decide_eq_false (by omega)
        go_enter Tryd.func58, Tryd.ntmps58
        go_wp2
        go_ret
        exact ⟨rfl, k.out⟩
    · obtain rfl : x = false := by rw [e'.out]; exact decide_eq_false (by omega)
      go_enter Tryd.func58, Tryd.ntmps58
      go_wp2
      go_ret
      exact ⟨rfl, k.out⟩
  · obtain rfl : x = false := by rw [e'.out]; exact decide_eq_false (by omega)
    go_enter Tryd.func58, Tryd.ntmps58
    go_wp2
    go_ret
    exact ⟨rfl, k.out⟩
theorem argR_no (r n : Int) (w : World) :
    Calls Tryd.prog 58 #[.bool false, .agg #[.int .i64 r, .int .i64 n]] w fun e w' => e = .returned (.bool (argOk r n false)) ∧ Keeps (fun _ => False) w w' := by
  have k : Hid (Keeps (fun _ => False) w (w.alloc (.cells #[.int .i64 r, .int .i64 n] 40))) := Lib.hid ((Keeps.refl _ w).alloc _)
  obtain ⟨x, hx⟩ : ∃ x, argOk r n false = x := ⟨_, rfl⟩
  rw [hx]
  have e : x = decide (r = 0 ∧ n = 0) := by rw [← hx]; rfl
  have e' := Lib.hid e
  clear hx e
  by_cases h1 : r = 0
  · by_cases h2 : n = 0
    · obtain rfl : x = true := by rw [e'.out]; exact decide_eq_true ⟨h1, h2⟩
      subst h1
      subst h2
      go_enter Tryd.func58, Tryd.ntmps58
      go_wp2
      go_ret
      exact ⟨rfl, k.out⟩
    · obtain rfl : x = false := by rw [e'.out]; exact decide_eq_false (by omega)
      subst h1
      have hb : (n == 0) = false := by simpa using h2
      go_enter Tryd.func58, Tryd.ntmps58
      go_wp2
      go_ret
      exact ⟨rfl, k.out⟩
  · obtain rfl : x = false := by rw [e'.out]; exact decide_eq_false (by omega)
    have hb : (r == 0) = false := by simpa using h1
    go_enter Tryd.func58, Tryd.ntmps58
    go_wp2
    go_ret
    exact ⟨rfl, k.out⟩
theorem argR_any (r n : Int) (b : Bool) (w : World) :
    Calls Tryd.prog 58 #[.bool b, .agg #[.int .i64 r, .int .i64 n]] w fun e w' => e = .returned (.bool (argOk r n b)) ∧ Keeps (fun _ => False) w w' := by
  cases b
  · exact argR_no r n w
  · exact argR_yes r n w
theorem regR_any (b0 b1 b2 b3 b4 b5 b6 b7 : Bool) (r : Int) {w : World} :
    Calls Tryd.prog 56 #[.agg #[.bool b0, .bool b1, .bool b2, .bool b3, .bool b4, .bool b5, .bool b6, .bool b7], .int .i64 r] w fun e w' => e = .returned (.bool (if b2 then decide (1 ≤ r ∧ r ≤ 8) else decide (r = 0))) ∧ Keeps (fun _ => False) w w' := by
  have k : Hid (Keeps (fun _ => False) w (w.alloc (.cells #[.bool b0, .bool b1, .bool b2, .bool b3, .bool b4, .bool b5, .bool b6, .bool b7] 62))) := Lib.hid ((Keeps.refl _ w).alloc _)
  cases b2 with
  | false =>
    simp only [Bool.false_eq_true, ↓reduceIte]
    by_cases h : r = 0
    · rw [decide_eq_true h]
      subst h
      go_enter Tryd.func56, Tryd.ntmps56
      go_wp2
      go_ret
      exact ⟨rfl, k.out⟩
    · rw [decide_eq_false h]
      have hb : (r == 0) = false := by simpa using h
      go_enter Tryd.func56, Tryd.ntmps56
      go_wp2
      go_ret
      exact ⟨rfl, k.out⟩
  | true =>
    simp only [↓reduceIte]
    by_cases h1 : 1 ≤ r
    · by_cases h2 : r ≤ 8
      · rw [decide_eq_true ⟨h1, h2⟩]
        go_enter Tryd.func56, Tryd.ntmps56
        go_wp2
        go_ret
        exact ⟨rfl, k.out⟩
      · rw [decide_eq_false (by omega)]
        go_enter Tryd.func56, Tryd.ntmps56
        go_wp2
        go_ret
        exact ⟨rfl, k.out⟩
    · rw [decide_eq_false (by omega)]
      go_enter Tryd.func56, Tryd.ntmps56
      go_wp2
      go_ret
      exact ⟨rfl, k.out⟩
theorem aR_any (b0 b1 b2 b3 b4 b5 b6 b7 : Bool) (r n : Int) {w : World} :
    Calls Tryd.prog 57 #[.agg #[.bool b0, .bool b1, .bool b2, .bool b3, .bool b4, .bool b5, .bool b6, .bool b7], .agg #[.int .i64 r, .int .i64 n]] w fun e w' => e = .returned (.bool (if b5 then decide (r = 0 ∧ 0 ≤ n ∧ n ≤ 5) else argOk r n b3)) ∧ Keeps (fun _ => False) w w' := by
  have k : Hid (Keeps (fun _ => False) w ((w.alloc (.cells #[.bool b0, .bool b1, .bool b2, .bool b3, .bool b4, .bool b5, .bool b6, .bool b7] 62)).alloc (.cells #[.int .i64 r, .int .i64 n] 40))) := Lib.hid (((Keeps.refl _ w).alloc _).alloc _)
  cases b5 with
  | false =>
    simp only [Bool.false_eq_true, ↓reduceIte]
    have ca := Lib.hid (fun V => argR_any r n b3 V)
    go_enter Tryd.func57, Tryd.ntmps57
    go_wp2_with fail
    refine (ca.out _).mono ?_
    rintro e w2 ⟨rfl, hK⟩
    have K2 := Lib.hid (k.out.trans hK fun _ _ => id)
    clear hK
    go_wp2_with fail
    go_ret
    exact ⟨rfl, K2.out⟩
  | true =>
    simp only [↓reduceIte]
    by_cases h0 : r = 0
    · subst h0
      by_cases h1 : 0 ≤ n
      · by_cases h2 : n ≤ 5
        · rw [decide_eq_true ⟨rfl, h1, h2⟩]
          go_enter Tryd.func57, Tryd.ntmps57
          go_wp2
          go_ret
          exact ⟨rfl, k.out⟩
        · rw [decide_eq_false (by omega)]
          go_enter Tryd.func57, Tryd.ntmps57
          go_wp2
          go_ret
          exact ⟨rfl, k.out⟩
      · rw [decide_eq_false (by omega)]
        go_enter Tryd.func57, Tryd.ntmps57
        go_wp2
        go_ret
        exact ⟨rfl, k.out⟩
    · rw [decide_eq_false (by omega)]
      have hb : (r == 0) = false := by simpa using h0
      go_enter Tryd.func57, Tryd.ntmps57
      go_wp2
      go_ret
      exact ⟨rfl, k.out⟩
theorem collR_any {w : World} (b0 b1 b2 b3 b4 b5 b6 b7 : Bool) (c : Int) {ko : Option Addr} {kn kc : Nat} {K : List Int} (hK : IntL w ko kn K) (few : kn ≤ 1000)  :
    Calls Tryd.prog 55 #[.agg #[.bool b0, .bool b1, .bool b2, .bool b3, .bool b4, .bool b5, .bool b6, .bool b7], .int .i64 c, .slice ko kn kc] w fun e w' => e = .returned (.bool (if b0 then decide (0 ≤ c ∧ c < (K.length : Int)) && (!b1 || K.getD c.toNat 0 == 3) else decide (c = 0))) ∧ Keeps (fun _ => False) w w' := by
  have k : Hid (Keeps (fun _ => False) w (w.alloc (.cells #[.bool b0, .bool b1, .bool b2, .bool b3, .bool b4, .bool b5, .bool b6, .bool b7] 62))) := Lib.hid ((Keeps.refl _ w).alloc _)
  have hl : K.length = kn := hK.1
  have k1000 : (kn : Int) ≤ 1000 := by omega
  cases b0 with
  | false =>
    simp only [Bool.false_eq_true, ↓reduceIte]
    clear hK hl
    by_cases h : c = 0
    · rw [decide_eq_true h]
      subst h
      go_enter Tryd.func55, Tryd.ntmps55
      go_wp2
      go_ret
      exact ⟨rfl, k.out⟩
    · rw [decide_eq_false h]
      have hb : (c == 0) = false := by simpa using h
      go_enter Tryd.func55, Tryd.ntmps55
      go_wp2
      go_ret
      exact ⟨rfl, k.out⟩
  | true =>
    simp only [↓reduceIte]
    rw [hl]
    by_cases h1 : 0 ≤ c
    · by_cases h2 : c < (kn : Int)
      · rw [decide_eq_true ⟨h1, h2⟩]
        obtain ⟨i, hi⟩ : ∃ i : Nat, c = (i : Int) := ⟨c.toNat, by omega⟩
        obtain ⟨x, hx⟩ : ∃ x, K[i]? = some x := ⟨_, List.getElem?_eq_getElem (by omega)⟩
        have hg : K.getD c.toNat 0 = x := by rw [hi, Int.toNat_natCast, List.getD, hx]; rfl
        rw [hg]
        subst hi
        cases b1 with
        | false =>
          clear hK hl hx hg
          go_enter Tryd.func55, Tryd.ntmps55
          go_wp2
          go_ret
          exact ⟨rfl, k.out⟩
        | true =>
          obtain ⟨bb, oo, rfl, hc⟩ := hK.at_ (by omega)
          have c0 := (k.out.cell (cell_lt (hc i x hx)) id).trans (hc i x hx)
          clear hK hl hx hg hc
          by_cases h3 : x = 3
          · subst h3
            go_enter Tryd.func55, Tryd.ntmps55
            go_wp2
            go_ret
            exact ⟨rfl, k.out⟩
          · have hb : (x == 3) = false := by simpa using h3
            rw [hb]
            go_enter Tryd.func55, Tryd.ntmps55
            go_wp2
            go_ret
            exact ⟨rfl, k.out⟩
      · rw [decide_eq_false (by omega)]
        clear hK hl
        go_enter Tryd.func55, Tryd.ntmps55
        go_wp2
        go_ret
        exact ⟨rfl, k.out⟩
    · rw [decide_eq_false (by omega)]
      clear hK hl
      go_enter Tryd.func55, Tryd.ntmps55
      go_wp2
      go_ret
      exact ⟨rfl, k.out⟩
end Go.Proofs.YtpmbkeaimdeglaaDoor
