/-
  bits, the document's own answers (concordref03), by contract: Bit, In, Hash, Slot, Has, Set, Rank, Tall. The world stays as it was. Conditions: the numbers are of their kinds.
-/
import Derived.Test.YtieilbihfbghjaaDoorChecked
import Derived.Test.YtieilbihfbghjaaDoorBtNum
import Derived.WalkKit
import Derived.LoopTactic
import Derived.Lib.Hide
namespace Go.Proofs.YtieilbihfbghjaaDoor
open Go.RowKit

theorem ret_int {k : IntKind} {a b : Int} (h : a = b) : Ending.returned (.int k a) = .returned (.int k b) := by rw [h]
theorem ret_bool {a b : Bool} (h : a = b) : Ending.returned (.bool a) = .returned (.bool b) := by rw [h]

def bitB (x n : Nat) : Bool := decide (x / 2 ^ n % 2 = 1)
theorem bitB_yes {x n : Nat} (h : x / 2 ^ n % 2 = 1) : bitB x n = true := by unfold bitB; exact decide_eq_true h
theorem bitB_no {x n : Nat} (h : x / 2 ^ n % 2 = 0) : bitB x n = false := by unfold bitB; exact decide_eq_false (by omega)

theorem half (x k : Nat) : x / 2 ^ (k + 1) = x / 2 ^ k / 2 := by rw [Nat.pow_succ, Nat.div_div_eq_div_mul]

theorem ref_bit (x n : Nat) (m : Int) (hm : m = n) (b : Bool) (hb : bitB x n = b) (hx : x < 18446744073709551616) (hn : n ≤ 64) (w : World) :
    Calls Tryd.prog 28 #[.int .u64 x, .int .i64 m] w fun e w' => e = .returned (.bool b) ∧ w = w' := by
  subst hm
  have B := Lib.hid hb
  clear hb
  go_enter Tryd.func28, Tryd.ntmps28
  go_wp2
  go_loop [0, 5] (fun v i => ∃ k : Nat, k ≤ n ∧ i = .int .i64 k ∧ ∃ y : Nat, y = x / 2 ^ k ∧ v = .int .u64 y) (fun _ i => n - (intOf i).toNat)
  case atStart => exact ⟨0, Nat.zero_le _, rfl, x, by simp, rfl⟩
  case round =>
    obtain ⟨k, hk, rfl, y, hy, rfl⟩ := hrel
    have hl : y ≤ x := by rw [hy]; exact Nat.div_le_self _ _
    have hh := half x k
    rw [← hy] at hh
    have H := Lib.hid hh
    have Y := Lib.hid hy
    clear hh hy
    by_cases hlt : k < n
    · go_wp2
      go_round
      case rel => exact ⟨k + 1, by omega, by go_num, y / 2, H.out.symm, by go_num⟩
      case measure => simp [intOf]; omega
    · have e : k = n := by omega
      have E := Lib.hid e
      clear e
      rcases Nat.mod_two_eq_zero_or_one y with h | h
      · have h' : ((y : Int) % 2 == 1) = false := by simp; omega
        have h1 := Lib.hid h
        clear h
        go_wp2
        go_ret
        exact ⟨ret_bool ((bitB_no (by rw [← E.out, ← Y.out]; exact h1.out)).symm.trans B.out), rfl⟩
      · have h' : ((y : Int) % 2 == 1) = true := by simp; omega
        have h1 := Lib.hid h
        clear h
        go_wp2
        go_ret
        exact ⟨ret_bool ((bitB_yes (by rw [← E.out, ← Y.out]; exact h1.out)).symm.trans B.out), rfl⟩

/-- A slot's number, from 0 to 31. -/
def inN (slot : Int) : Nat := (slot % 32).toNat
theorem inN_lt (slot : Int) : inN slot < 32 := by unfold inN; omega
theorem in_num (slot : Int) : (slot.tmod 32 + 32) % 32 = (inN slot : Int) := by
  unfold inN
  rcases Int.lt_or_le slot 0 with h | h
  · have e : slot.tmod 32 = -((-slot) % 32) := by
      rw [← Int.tmod_eq_emod_of_nonneg (show 0 ≤ -slot by omega), Int.neg_tmod, Int.neg_neg]
    rw [e]; omega
  · rw [Int.tmod_eq_emod_of_nonneg h]; omega
theorem tmod_in (slot : Int) : -31 ≤ slot.tmod 32 ∧ slot.tmod 32 ≤ 31 := by
  rcases Int.lt_or_le slot 0 with h | h
  · have e : slot.tmod 32 = -((-slot) % 32) := by
      rw [← Int.tmod_eq_emod_of_nonneg (show 0 ≤ -slot by omega), Int.neg_tmod, Int.neg_neg]
    rw [e]; omega
  · rw [Int.tmod_eq_emod_of_nonneg h]; omega

theorem ref_in (slot : Int) (w : World) :
    Calls Tryd.prog 30 #[.int .i64 slot] w fun e w' => e = .returned (.int .i64 (inN slot)) ∧ w = w' := by
  obtain ⟨h1, h2⟩ := tmod_in slot
  go_enter Tryd.func30, Tryd.ntmps30
  go_wp2
  go_ret
  exact ⟨ret_int (in_num slot), rfl⟩

/-- A level, from 0 to 6. -/
def lvl (level : Int) : Nat := if level < 0 then 0 else if 6 < level then 6 else level.toNat
theorem lvl_le (level : Int) : lvl level ≤ 6 := by unfold lvl; split; omega; split <;> omega

theorem slot_lt (h l : Nat) : h / 2 ^ (5 * l) % 32 < 32 := Nat.mod_lt _ (by decide)
theorem pow_le32 {k : Nat} (hk : k ≤ 5) : 2 ^ k ≤ 32 := Nat.pow_le_pow_right (n := 2) (by decide) hk

theorem lvl_cases (level : Int) : (level < 0 ∧ lvl level = 0) ∨ (6 < level ∧ lvl level = 6) ∨ level = lvl level := by
  unfold lvl
  by_cases h : level < 0
  · exact .inl ⟨h, by rw [if_pos h]⟩
  · by_cases h' : 6 < level
    · exact .inr (.inl ⟨h', by rw [if_neg h, if_pos h']⟩)
    · exact .inr (.inr (by rw [if_neg h, if_neg h']; omega))
theorem slot_step {h l k s p : Nat} (hh : h < 4294967296) (hs : s = h / 2 ^ (5 * l) % 2 ^ k) (hp : p = 2 ^ k) :
    s + (if 5 * l + k < 32 ∧ bitB h (5 * l + k) = true then p else 0) = h / 2 ^ (5 * l) % 2 ^ (k + 1) := by
  rw [slot_bits h l k hh, ← hs, ← hp]
  simp only [bitB, decide_eq_true_eq]

set_option maxHeartbeats 1000000 in
theorem ref_slot_low (h : Nat) (level : Int) (c : level < 0) (hh : h < 4294967296) (w : World) :
    Calls Tryd.prog 12 #[.int .u32 h, .int .i64 level] w fun e w' => e = .returned (.int .i64 (h / 2 ^ (5 * 0) % 32 : Nat)) ∧ w = w' := by
  have hw : h < 18446744073709551616 := by omega
  go_enter Tryd.func12, Tryd.ntmps12
  go_wp2
  go_loop [5, 6, 7] (fun s p i => ∃ k : Nat, k ≤ 5 ∧ i = .int .i64 k ∧ ∃ x : Nat, x = h / 2 ^ (5 * 0) % 2 ^ k ∧ s = .int .i64 x ∧ ∃ y : Nat, y = 2 ^ k ∧ p = .int .i64 y) (fun _ _ i => 5 - (intOf i).toNat)
  case atStart => exact ⟨0, Nat.zero_le _, rfl, 0, by simp [Nat.mod_one], rfl, 1, rfl, rfl⟩
  case round =>
    obtain ⟨k, hk, rfl, x, hx, rfl, y, hy, rfl⟩ := hrel
    have y1 : y ≤ 32 := by rw [hy]; exact pow_le32 hk
    have x1 : x < 32 := Nat.lt_of_lt_of_le (by rw [hx]; exact Nat.mod_lt _ (Nat.two_pow_pos k)) (pow_le32 hk)
    have st := Lib.hid (slot_step hh hx hy)
    have hy2 : 2 * y = 2 ^ (k + 1) := by rw [hy, Nat.pow_succ, Nat.mul_comm]
    have Y2 := Lib.hid hy2
    have X := Lib.hid hx
    clear hx hy hy2
    by_cases hlt : k < 5
    · by_cases q : 5 * 0 + k < 32
      · have bb : bitB h (5 * 0 + k) = true ∨ bitB h (5 * 0 + k) = false := by cases bitB h (5 * 0 + k) <;> simp
        rcases bb with b | b
        all_goals
          have Bb := Lib.hid b
          have st' := st.out
          rw [b] at st'
          clear st b
          first
          | (rw [if_pos ⟨q, rfl⟩] at st'
             have st := Lib.hid st'
             clear st'
             go_wp2_with (go_at_call 28; refine (ref_bit h (5 * 0 + k) _ (by omega) true Bb.out hw (by omega) _).mono ?_; rintro e w' ⟨rfl, rfl⟩)
             go_round
             case rel => exact ⟨k + 1, by omega, by go_num, x + y, st.out, by go_num, 2 * y, Y2.out, by go_num⟩
             case measure => simp [intOf]; omega)
          | (rw [if_neg (by simp)] at st'
             have st := Lib.hid st'
             clear st'
             go_wp2_with (go_at_call 28; refine (ref_bit h (5 * 0 + k) _ (by omega) false Bb.out hw (by omega) _).mono ?_; rintro e w' ⟨rfl, rfl⟩)
             go_round
             case rel => exact ⟨k + 1, by omega, by go_num, x, st.out, rfl, 2 * y, Y2.out, by go_num⟩
             case measure => simp [intOf]; omega)
      · first
        | (exfalso; omega)
        | (have st' := st.out
           rw [if_neg (fun hq => q hq.1)] at st'
           clear st
           have st := Lib.hid st'
           clear st'
           go_wp2
           go_round
           case rel => exact ⟨k + 1, by omega, by go_num, x, st.out, rfl, 2 * y, Y2.out, by go_num⟩
           case measure => simp [intOf]; omega)
    · have e5 : k = 5 := by omega
      have fin := Lib.hid (show (x : Int) = ((h / 2 ^ (5 * 0) % 32 : Nat) : Int) by rw [X.out, e5])
      clear e5
      go_wp2
      go_ret
      first | exact ⟨ret_int fin.out, rfl⟩ | exact ⟨ret_int (by have f := fin.out; simpa using f), rfl⟩

set_option maxHeartbeats 1000000 in
theorem ref_slot_high (h : Nat) (level : Int) (c : 6 < level) (hh : h < 4294967296) (w : World) :
    Calls Tryd.prog 12 #[.int .u32 h, .int .i64 level] w fun e w' => e = .returned (.int .i64 (h / 2 ^ (5 * 6) % 32 : Nat)) ∧ w = w' := by
  have hw : h < 18446744073709551616 := by omega
  go_enter Tryd.func12, Tryd.ntmps12
  go_wp2
  go_loop [5, 6, 7] (fun s p i => ∃ k : Nat, k ≤ 5 ∧ i = .int .i64 k ∧ ∃ x : Nat, x = h / 2 ^ (5 * 6) % 2 ^ k ∧ s = .int .i64 x ∧ ∃ y : Nat, y = 2 ^ k ∧ p = .int .i64 y) (fun _ _ i => 5 - (intOf i).toNat)
  case atStart => exact ⟨0, Nat.zero_le _, rfl, 0, by simp [Nat.mod_one], rfl, 1, rfl, rfl⟩
  case round =>
    obtain ⟨k, hk, rfl, x, hx, rfl, y, hy, rfl⟩ := hrel
    have y1 : y ≤ 32 := by rw [hy]; exact pow_le32 hk
    have x1 : x < 32 := Nat.lt_of_lt_of_le (by rw [hx]; exact Nat.mod_lt _ (Nat.two_pow_pos k)) (pow_le32 hk)
    have st := Lib.hid (slot_step hh hx hy)
    have hy2 : 2 * y = 2 ^ (k + 1) := by rw [hy, Nat.pow_succ, Nat.mul_comm]
    have Y2 := Lib.hid hy2
    have X := Lib.hid hx
    clear hx hy hy2
    by_cases hlt : k < 5
    · by_cases q : 5 * 6 + k < 32
      · have bb : bitB h (5 * 6 + k) = true ∨ bitB h (5 * 6 + k) = false := by cases bitB h (5 * 6 + k) <;> simp
        rcases bb with b | b
        all_goals
          have Bb := Lib.hid b
          have st' := st.out
          rw [b] at st'
          clear st b
          first
          | (rw [if_pos ⟨q, rfl⟩] at st'
             have st := Lib.hid st'
             clear st'
             go_wp2_with (go_at_call 28; refine (ref_bit h (5 * 6 + k) _ (by omega) true Bb.out hw (by omega) _).mono ?_; rintro e w' ⟨rfl, rfl⟩)
             go_round
             case rel => exact ⟨k + 1, by omega, by go_num, x + y, st.out, by go_num, 2 * y, Y2.out, by go_num⟩
             case measure => simp [intOf]; omega)
          | (rw [if_neg (by simp)] at st'
             have st := Lib.hid st'
             clear st'
             go_wp2_with (go_at_call 28; refine (ref_bit h (5 * 6 + k) _ (by omega) false Bb.out hw (by omega) _).mono ?_; rintro e w' ⟨rfl, rfl⟩)
             go_round
             case rel => exact ⟨k + 1, by omega, by go_num, x, st.out, rfl, 2 * y, Y2.out, by go_num⟩
             case measure => simp [intOf]; omega)
      · first
        | (exfalso; omega)
        | (have st' := st.out
           rw [if_neg (fun hq => q hq.1)] at st'
           clear st
           have st := Lib.hid st'
           clear st'
           go_wp2
           go_round
           case rel => exact ⟨k + 1, by omega, by go_num, x, st.out, rfl, 2 * y, Y2.out, by go_num⟩
           case measure => simp [intOf]; omega)
    · have e5 : k = 5 := by omega
      have fin := Lib.hid (show (x : Int) = ((h / 2 ^ (5 * 6) % 32 : Nat) : Int) by rw [X.out, e5])
      clear e5
      go_wp2
      go_ret
      first | exact ⟨ret_int fin.out, rfl⟩ | exact ⟨ret_int (by have f := fin.out; simpa using f), rfl⟩

set_option maxHeartbeats 1000000 in
theorem ref_slot_mid (h : Nat) (l : Nat) (c : l ≤ 6) (hh : h < 4294967296) (w : World) :
    Calls Tryd.prog 12 #[.int .u32 h, .int .i64 l] w fun e w' => e = .returned (.int .i64 (h / 2 ^ (5 * l) % 32 : Nat)) ∧ w = w' := by
  have hw : h < 18446744073709551616 := by omega
  go_enter Tryd.func12, Tryd.ntmps12
  go_wp2
  go_loop [5, 6, 7] (fun s p i => ∃ k : Nat, k ≤ 5 ∧ i = .int .i64 k ∧ ∃ x : Nat, x = h / 2 ^ (5 * l) % 2 ^ k ∧ s = .int .i64 x ∧ ∃ y : Nat, y = 2 ^ k ∧ p = .int .i64 y) (fun _ _ i => 5 - (intOf i).toNat)
  case atStart => exact ⟨0, Nat.zero_le _, rfl, 0, by simp [Nat.mod_one], rfl, 1, rfl, rfl⟩
  case round =>
    obtain ⟨k, hk, rfl, x, hx, rfl, y, hy, rfl⟩ := hrel
    have y1 : y ≤ 32 := by rw [hy]; exact pow_le32 hk
    have x1 : x < 32 := Nat.lt_of_lt_of_le (by rw [hx]; exact Nat.mod_lt _ (Nat.two_pow_pos k)) (pow_le32 hk)
    have st := Lib.hid (slot_step hh hx hy)
    have hy2 : 2 * y = 2 ^ (k + 1) := by rw [hy, Nat.pow_succ, Nat.mul_comm]
    have Y2 := Lib.hid hy2
    have X := Lib.hid hx
    clear hx hy hy2
    by_cases hlt : k < 5
    · by_cases q : 5 * l + k < 32
      · have bb : bitB h (5 * l + k) = true ∨ bitB h (5 * l + k) = false := by cases bitB h (5 * l + k) <;> simp
        rcases bb with b | b
        all_goals
          have Bb := Lib.hid b
          have st' := st.out
          rw [b] at st'
          clear st b
          first
          | (rw [if_pos ⟨q, rfl⟩] at st'
             have st := Lib.hid st'
             clear st'
             go_wp2_with (go_at_call 28; refine (ref_bit h (5 * l + k) _ (by omega) true Bb.out hw (by omega) _).mono ?_; rintro e w' ⟨rfl, rfl⟩)
             go_round
             case rel => exact ⟨k + 1, by omega, by go_num, x + y, st.out, by go_num, 2 * y, Y2.out, by go_num⟩
             case measure => simp [intOf]; omega)
          | (rw [if_neg (by simp)] at st'
             have st := Lib.hid st'
             clear st'
             go_wp2_with (go_at_call 28; refine (ref_bit h (5 * l + k) _ (by omega) false Bb.out hw (by omega) _).mono ?_; rintro e w' ⟨rfl, rfl⟩)
             go_round
             case rel => exact ⟨k + 1, by omega, by go_num, x, st.out, rfl, 2 * y, Y2.out, by go_num⟩
             case measure => simp [intOf]; omega)
      · first
        | (exfalso; omega)
        | (have st' := st.out
           rw [if_neg (fun hq => q hq.1)] at st'
           clear st
           have st := Lib.hid st'
           clear st'
           go_wp2
           go_round
           case rel => exact ⟨k + 1, by omega, by go_num, x, st.out, rfl, 2 * y, Y2.out, by go_num⟩
           case measure => simp [intOf]; omega)
    · have e5 : k = 5 := by omega
      have fin := Lib.hid (show (x : Int) = ((h / 2 ^ (5 * l) % 32 : Nat) : Int) by rw [X.out, e5])
      clear e5
      go_wp2
      go_ret
      first | exact ⟨ret_int fin.out, rfl⟩ | exact ⟨ret_int (by have f := fin.out; simpa using f), rfl⟩

theorem ref_slot (h : Nat) (level : Int) (hh : h < 4294967296) (w : World) :
    Calls Tryd.prog 12 #[.int .u32 h, .int .i64 level] w fun e w' => e = .returned (.int .i64 (h / 2 ^ (5 * lvl level) % 32 : Nat)) ∧ w = w' := by
  have hc := lvl_cases level
  have h6 := lvl_le level
  generalize lvl level = l at hc h6
  rcases hc with ⟨c, rfl⟩ | ⟨c, rfl⟩ | rfl
  · exact ref_slot_low h level c hh w
  · exact ref_slot_high h level c hh w
  · exact ref_slot_mid h l h6 hh w
end Go.Proofs.YtieilbihfbghjaaDoor
