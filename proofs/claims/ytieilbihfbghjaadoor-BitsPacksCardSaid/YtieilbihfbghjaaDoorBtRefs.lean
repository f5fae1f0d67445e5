/-
  bits, the document's own answers (concordref03), by contract: Hash, Has, Set, Rank. The world stays as it was. Conditions: the numbers are of their kinds.
-/
import Derived.Test.YtieilbihfbghjaaDoorBtRef
import Derived.Laws.Bits64
namespace Go.Proofs.YtieilbihfbghjaaDoor
open Go.RowKit

/-- A key's hash. -/
def hashI (x : Int) : Int := x % 18446744073709551616 * 11400714819323198485 % 18446744073709551616 / 4294967296
theorem hashI_ref (x : Int) : IntKind.u64.wrap ((IntKind.u64.wrap (IntKind.u64.wrap x * 11400714819323198485)).tdiv 4294967296) % 4294967296 = hashI x := by
  simp only [IntKind.wrap_u64]
  rw [Int.tdiv_eq_ediv_of_nonneg (Int.emod_nonneg _ (by decide))]
  unfold hashI
  generalize x % 18446744073709551616 * 11400714819323198485 = y
  omega

theorem ref_hash (x : Int) (w : World) :
    Calls Tryd.prog 10 #[.int .i64 x] w fun e w' => e = .returned (.int .u32 (hashI x)) ∧ w = w' := by
  go_enter Tryd.func10, Tryd.ntmps10
  go_wp2
  go_ret
  exact ⟨ret_int (hashI_ref x), rfl⟩

theorem ref_has (m : Nat) (slot : Int) (b : Bool) (hb : bitB m (inN slot) = b) (hm : m < 4294967296) (w : World) :
    Calls Tryd.prog 15 #[.int .u32 m, .int .i64 slot] w fun e w' => e = .returned (.bool b) ∧ w = w' := by
  have B := Lib.hid hb
  clear hb
  have hw : m < 18446744073709551616 := by omega
  have hs := inN_lt slot
  go_enter Tryd.func15, Tryd.ntmps15
  go_wp2_with (first
    | (go_at_call 30; refine (ref_in slot _).mono ?_; rintro e w' ⟨rfl, rfl⟩)
    | (go_at_call 28; refine (ref_bit m (inN slot) _ rfl b B.out hw (by omega) _).mono ?_; rintro e w' ⟨rfl, rfl⟩))
  go_ret
  exact ⟨rfl, rfl⟩

theorem rank_step {m k n : Nat} (hn : n = cnt m k) : n + (if bitB m k = true then 1 else 0) = cnt m (k + 1) := by
  rw [cnt_succ, hn]
  unfold bitB
  rcases Nat.mod_two_eq_zero_or_one (m / 2 ^ k) with e | e <;> simp [e]

set_option maxHeartbeats 1000000 in
theorem ref_rank (m : Nat) (slot : Int) (hm : m < 4294967296) (w : World) :
    Calls Tryd.prog 20 #[.int .u32 m, .int .i64 slot] w fun e w' => e = .returned (.int .i64 (cnt m (inN slot))) ∧ w = w' := by
  have hw : m < 18446744073709551616 := by omega
  have hs := inN_lt slot
  go_enter Tryd.func20, Tryd.ntmps20
  go_wp2
  go_loop [5, 6] (fun c i => ∃ k : Nat, k ≤ inN slot ∧ i = .int .i64 k ∧ ∃ n : Nat, n = cnt m k ∧ c = .int .i64 n) (fun _ i => 32 - (intOf i).toNat)
  case atStart => exact ⟨0, Nat.zero_le _, rfl, 0, rfl, rfl⟩
  case round =>
    obtain ⟨k, hk, rfl, n, hn, rfl⟩ := hrel
    have n1 : n ≤ k := by rw [hn]; exact cnt_le m k
    have st := rank_step hn
    have X := Lib.hid hn
    clear hn
    by_cases hlt : k < inN slot
    · have bb : bitB m k = true ∨ bitB m k = false := by cases bitB m k <;> simp
      rcases bb with b | b
      all_goals
        have Bb := Lib.hid b
        rw [b] at st
        clear b
        first
        | (rw [if_pos rfl] at st
           have S := Lib.hid st
           clear st
           go_wp2_with (first
             | (go_at_call 30; refine (ref_in slot _).mono ?_; rintro e w' ⟨rfl, rfl⟩)
             | (go_at_call 28; refine (ref_bit m k _ rfl true Bb.out hw (by omega) _).mono ?_; rintro e w' ⟨rfl, rfl⟩))
           go_round
           case rel => exact ⟨k + 1, by omega, by go_num, n + 1, S.out, by go_num⟩
           case measure => simp [intOf]; omega)
        | (rw [if_neg (by simp)] at st
           have S := Lib.hid st
           clear st
           go_wp2_with (first
             | (go_at_call 30; refine (ref_in slot _).mono ?_; rintro e w' ⟨rfl, rfl⟩)
             | (go_at_call 28; refine (ref_bit m k _ rfl false Bb.out hw (by omega) _).mono ?_; rintro e w' ⟨rfl, rfl⟩))
           go_round
           case rel => exact ⟨k + 1, by omega, by go_num, n, S.out, rfl⟩
           case measure => simp [intOf]; omega)
    · have e5 : k = inN slot := by omega
      have fin := Lib.hid (show (n : Int) = (cnt m (inN slot) : Int) by rw [X.out, e5])
      clear e5 st
      go_wp2_with (go_at_call 30; refine (ref_in slot _).mono ?_; rintro e w' ⟨rfl, rfl⟩)
      go_ret
      exact ⟨ret_int fin.out, rfl⟩

theorem set_step {T k n : Nat} {b : Bool} (hn : n = T % 2 ^ k) (hb : T / 2 ^ k % 2 = if b = true then 1 else 0) : n + (if b = true then 2 ^ k else 0) = T % 2 ^ (k + 1) := by
  rw [mod_step, hb, hn]
  cases b <;> simp
theorem set_at (m s k : Nat) (is b c : Bool) (hb : bitB m k = b) (hk : k < 32) (hs : s < 32) (hc : c = if k = s then is else b) : setTo m s is / 2 ^ k % 2 = if c = true then 1 else 0 := by
  rw [setTo_at m s k is hk hs, hc, ← hb]
  unfold bitB
  by_cases e : k = s
  · simp [e]
  · rcases Nat.mod_two_eq_zero_or_one (m / 2 ^ k) with h | h <;> simp [e, h]
theorem set_next {m s k n y T : Nat} {is b c : Bool} (hk : k < 32) (hs : s < 32) (hT : setTo m s is = T) (hn : n = T % 2 ^ k) (hy : y = 2 ^ k) (hb : bitB m k = b) (hc : c = if k = s then is else b) :
    n + (if c = true then y else 0) = T % 2 ^ (k + 1) := by
  subst hT hy
  exact set_step hn (set_at m s k is b c hb hk hs hc)

set_option maxHeartbeats 2000000 in
theorem ref_set (m : Nat) (slot : Int) (is : Bool) (hm : m < 4294967296) (w : World) :
    Calls Tryd.prog 17 #[.int .u32 m, .int .i64 slot, .bool is] w fun e w' => e = .returned (.int .u32 (setTo m (inN slot) is)) ∧ w = w' := by
  have hw : m < 18446744073709551616 := by omega
  have hs := inN_lt slot
  have hT := setTo_lt m (inN slot) is hm hs
  generalize hTe : setTo m (inN slot) is = T at hT
  have TE := Lib.hid hTe
  clear hTe
  go_enter Tryd.func17, Tryd.ntmps17
  go_wp2
  go_loop [7, 8, 9] (fun o p i => ∃ k : Nat, k ≤ 32 ∧ i = .int .i64 k ∧ (∃ n : Nat, n = T % 2 ^ k ∧ o = .int .u32 n) ∧ ∃ y : Nat, y = 2 ^ k % 4294967296 ∧ p = .int .u32 y) (fun _ _ i => 32 - (intOf i).toNat)
  case atStart => exact ⟨0, Nat.zero_le _, rfl, ⟨0, by simp [Nat.mod_one], rfl⟩, 1, rfl, rfl⟩
  case round =>
    obtain ⟨k, hk, rfl, ⟨n, hn, rfl⟩, y, hy, rfl⟩ := hrel
    by_cases hlt : k < 32
    · have yk : y = 2 ^ k := by
        rw [hy]; exact Nat.mod_eq_of_lt (Nat.pow_lt_pow_right (by decide : 1 < 2) hlt : 2 ^ k < 2 ^ 32)
      have n1 : n < y := by rw [hn, yk]; exact Nat.mod_lt _ (Nat.two_pow_pos k)
      have y1 : 2 * y ≤ 4294967296 := by
        rw [yk]
        have : 2 ^ (k + 1) ≤ 2 ^ 32 := Nat.pow_le_pow_right (by decide) (by omega)
        omega
      have y2 : 2 * y % 4294967296 = 2 ^ (k + 1) % 4294967296 := by rw [yk, Nat.pow_succ, Nat.mul_comm]
      obtain ⟨b, hb⟩ : ∃ b, bitB m k = b := ⟨_, rfl⟩
      have key := fun (c : Bool) hc => Lib.hid (set_next (c := c) hlt hs TE.out hn yk hb hc)
      have B := Lib.hid hb
      have Y2 := Lib.hid y2
      clear hn hy yk y2 hb
      by_cases e : k = inN slot
      · have q : ((k : Int) == (inN slot : Int)) = true := by simp [e]
        have S := key is (by rw [if_pos e])
        clear key e
        cases is
        all_goals
          go_wp2_with (first
            | (go_at_call 30; refine (ref_in slot _).mono ?_; rintro e w' ⟨rfl, rfl⟩)
            | (go_at_call 28; refine (ref_bit m k _ rfl b B.out hw (by omega) _).mono ?_; rintro e w' ⟨rfl, rfl⟩))
          go_round
          case rel => exact ⟨k + 1, by omega, by go_num, ⟨_, S.out, by go_num⟩, _, Y2.out, by go_num⟩
          case measure => simp [intOf]; omega
      · have q : ((k : Int) == (inN slot : Int)) = false := by simp; omega
        have S := key b (by rw [if_neg e])
        clear key e
        cases b
        all_goals
          go_wp2_with (first
            | (go_at_call 30; refine (ref_in slot _).mono ?_; rintro e w' ⟨rfl, rfl⟩)
            | (go_at_call 28; refine (ref_bit m k _ rfl _ B.out hw (by omega) _).mono ?_; rintro e w' ⟨rfl, rfl⟩))
          go_round
          case rel => exact ⟨k + 1, by omega, by go_num, ⟨_, S.out, by go_num⟩, _, Y2.out, by go_num⟩
          case measure => simp [intOf]; omega
    · have e5 : k = 32 := by omega
      have fin := Lib.hid (show (n : Int) = (T : Int) by rw [hn, e5]; exact congrArg _ (Nat.mod_eq_of_lt hT))
      clear e5 hn hy
      go_wp2
      go_ret
      exact ⟨ret_int fin.out, rfl⟩
end Go.Proofs.YtieilbihfbghjaaDoor
