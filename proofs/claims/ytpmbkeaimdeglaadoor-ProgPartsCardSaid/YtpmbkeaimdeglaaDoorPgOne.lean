/-
  concordref09.in, arg by contract.
-/
import Derived.Test.YtpmbkeaimdeglaaDoorPgLines
import Derived.Test.YtpmbkeaimdeglaaDoorRkInt
import Derived.Deep.RegionHeld3
namespace Go.Proofs.YtpmbkeaimdeglaaDoor
open Go.RowKit Go.Extern.Stop Go.Stop Go.Extern

theorem inL_true {n : Int} {l : List Int} {i : Nat} (h : l[i]? = some n) : inL n l = true := by
  unfold inL
  rw [List.any_eq_true]
  exact ⟨n, List.mem_of_getElem? h, by simp⟩
theorem inL_false {n : Int} {l : List Int} (h : ∀ (j : Nat) (x : Int), l[j]? = some x → x ≠ n) : inL n l = false := by
  unfold inL
  rw [List.any_eq_false]
  intro x hx
  obtain ⟨j, hj⟩ := List.getElem?_of_mem hx
  simpa using h j x hj

set_option maxRecDepth 100000 in
theorem in_any {w : World} {v : Value} {l : List Int} (h : IRow w v l) (few : l.length ≤ 100000) (n : Int) :
    Calls Tryd.prog 39 #[.int .i64 n, v] w fun e w' => e = .returned (.bool (inL n l)) ∧ w = w' := by
  obtain ⟨m, hm⟩ : ∃ m, l.length = m := ⟨_, rfl⟩
  obtain ⟨o, c, rfl, ho⟩ := irow_cells h hm
  have hm' := Lib.hid hm
  rw [hm] at few
  have few' : (m : Int) ≤ 100000 := by omega
  have HO := Lib.hid ho
  clear h hm few ho
  go_enter Tryd.func39, Tryd.ntmps39
  go_wp2_with fail
  go_loop [5] (fun iv => ∃ i : Nat, iv = .int .i64 i ∧ i ≤ m ∧ ∀ (j : Nat) (x : Int), j < i → l[j]? = some x → x ≠ n) (fun iv => m - (intOf iv).toNat)
  case atStart => exact ⟨0, rfl, Nat.zero_le _, fun j x h => absurd h (Nat.not_lt_zero _)⟩
  case round =>
    obtain ⟨i, rfl, hi, hk⟩ := hrel
    have K1 := Lib.hid hk
    clear hk
    by_cases hlt : i < m
    · have b1 : (i : Int) < (m : Int) := by omega
      obtain ⟨g, rfl, hc⟩ := HO.out (by omega)
      obtain ⟨d, hd⟩ : ∃ d, l[i]? = some d := ⟨_, List.getElem?_eq_getElem (by rw [hm'.out]; exact hlt)⟩
      have d0 := hc i _ hd
      have hd' := Lib.hid hd
      clear hc hd
      by_cases e : d = n
      · subst e
        have t1 := Lib.hid (inL_true hd'.out)
        go_wp2_with fail
        go_ret
        exact ⟨by rw [t1.out]; rfl, rfl⟩
      · have hb : (d == n) = false := by simpa using e
        go_wp2_with fail
        go_round
        case rel =>
          refine ⟨i + 1, by go_num, by omega, fun j x hj hx => ?_⟩
          rcases Nat.lt_or_ge j i with h | h
          · exact K1.out j x h hx
          · obtain rfl : j = i := by omega
            rw [hd'.out] at hx
            injection hx with hx
            omega
        case measure => simp [intOf]; omega
    · obtain rfl : i = m := by omega
      have b1 : ¬ (i : Int) < (i : Int) := by omega
      have t1 := Lib.hid (inL_false (l := l) (n := n) fun j x hx => K1.out j x (by have := (List.getElem?_eq_some_iff.1 hx).1; have := hm'.out; omega) hx)
      go_wp2_with fail
      go_ret
      exact ⟨by rw [t1.out]; rfl, rfl⟩

/-- Is a number one of some that were laid? -/
theorem in_lit {w : World} {g : Nat} {l : List Int} (n : Int) (m : Nat) (hm : l.length = m) (few : m ≤ 100000) (h : Whole w g 3 (intK.cs l).toArray) :
    Calls Tryd.prog 39 #[.int .i64 n, .slice (some ⟨g, 0, none⟩) m m] w fun e w' => e = .returned (.bool (inL n l)) ∧ w = w' :=
  in_any (row_of intK h hm few) (by omega) n

theorem arg_yes (r n : Int) (w : World) :
    Calls Tryd.prog 46 #[.agg #[.int .i64 r, .int .i64 n], .bool true] w fun e w' => e = .returned (.bool (argOk r n true)) ∧ Keeps (fun _ => False) w w' := by
  have k : Hid (Keeps (fun _ => False) w (w.alloc (.cells #[.int .i64 r, .int .i64 n] 40))) := Lib.hid ((Keeps.refl _ w).alloc _)
  obtain ⟨x, hx⟩ : ∃ x, argOk r n true = x := ⟨_, rfl⟩
  rw [hx]
  have e : x = decide (0 ≤ r ∧ r ≤ 8 ∧ -999 ≤ n ∧ n ≤ 999) := by rw [← hx]; rfl
  have e' := Lib.hid e
  clear hx e
  by_cases h1 : 0 ≤ r
  · by_cases h2 : r ≤ 8
    · by_cases h3 : -999 ≤ n
      · by_cases h4 : n ≤ 999
        · obtain rfl : x = true := by rw [e'.out]; exact decide_eq_true ⟨h1, h2, h3, h4⟩
          go_enter Tryd.func46, Tryd.ntmps46
          go_wp2
          go_ret
          exact ⟨rfl, k.out⟩
        · obtain rfl : x = false := by rw [e'.out]; exact decide_eq_false (by omega)
          go_enter Tryd.func46, Tryd.ntmps46
          go_wp2
          go_ret
          exact ⟨rfl, k.out⟩
      · obtain rfl : x = false := by rw [e'.out]; exact decide_eq_false (by omega)
        go_enter Tryd.func46, Tryd.ntmps46
        go_wp2
        go_ret
        exact ⟨rfl, k.out⟩
    · obtain rfl : x = false := by rw [e'.out]; exact decide_eq_false (by omega)
      go_enter Tryd.func46, Tryd.ntmps46
      go_wp2
      go_ret
      exact ⟨rfl, k.out⟩
  · obtain rfl : x = false := by rw [e'.out]; exact decide_eq_false (by omega)
    go_enter Tryd.func46, Tryd.ntmps46
    go_wp2
    go_ret
    exact ⟨rfl, k.out⟩
theorem arg_no (r n : Int) (w : World) :
    Calls Tryd.prog 46 #[.agg #[.int .i64 r, .int .i64 n], .bool false] w fun e w' => e = .returned (.bool (argOk r n false)) ∧ Keeps (fun _ => False) w w' := by
  have k : Hid (Keeps (fun _ => False) w (w.alloc (.cells #[.int .i64 r, .int .i64 n] 40))) := Lib.hid ((Keeps.refl _ w).alloc _)
  obtain ⟨x, hx⟩ : ∃ x, argOk r n false = x := ⟨_, rfl⟩
  rw [hx]
  have e : x = decide (r = 0 ∧ n = 0) := by rw [← hx]; rfl
  have e' := Lib.hid e
  clear hx e
  by_cases h1 : r = 0
  · by_cases h2 : n = 0
    · obtain rfl : x = true := by rw [e'.out]; exact decide_eq_true ⟨h1, h2⟩
      subst h1
      subst h2
      go_enter Tryd.func46, Tryd.ntmps46
      go_wp2
      go_ret
      exact ⟨rfl, k.out⟩
    · obtain rfl : x = false := by rw [e'.out]; exact decide_eq_false (by omega)
      subst h1
      have hb : (n == 0) = false := by simpa using h2
      go_enter Tryd.func46, Tryd.ntmps46
      go_wp2
      go_ret
      exact ⟨rfl, k.out⟩
  · obtain rfl : x = false := by rw [e'.out]; exact decide_eq_false (by omega)
    have hb : (r == 0) = false := by simpa using h1
    go_enter Tryd.func46, Tryd.ntmps46
    go_wp2
    go_ret
    exact ⟨rfl, k.out⟩
theorem arg_any (r n : Int) (b : Bool) (w : World) :
    Calls Tryd.prog 46 #[.agg #[.int .i64 r, .int .i64 n], .bool b] w fun e w' => e = .returned (.bool (argOk r n b)) ∧ Keeps (fun _ => False) w w' := by
  cases b
  · exact arg_no r n w
  · exact arg_yes r n w
end Go.Proofs.YtpmbkeaimdeglaaDoor
