/-
  bits: what Pack answers of any Meta, with the error's number; a word that was packed tells what was packed; what a word tells is packed to the word but for six bits. By contract.
-/
import Derived.Test.YtieilbihfbghjaaDoorBtPack
import Derived.Test.YtieilbihfbghjaaDoorBtNo
namespace Go.Proofs.YtieilbihfbghjaaDoor
open Go.RowKit

/-- What Pack answers: a word x and an error er, whose number is f. -/
def Out (v o : Int) (c t : Bool) (x : Nat) (er : Value) (f : Nat) : Prop :=
  (x = 0 ∧ f = 2 ∧ Bad v o ∧ er = .iface 51 (.agg #[.string (reason v), .int .i64 2])) ∨
  (f = 0 ∧ er = .nilIface ∧ ∃ a b : Nat, v = a ∧ o = b ∧ a ≤ 281474976710655 ∧ b ≤ 255 ∧ x = packN a b c t)
theorem out_there (v o : Int) (c t : Bool) : ∃ x er f, Out v o c t x er f := by
  rcases bad_or v o with h | ⟨a, b, ha, hb, la, lb⟩
  · exact ⟨_, _, _, .inl ⟨rfl, rfl, h, rfl⟩⟩
  · exact ⟨_, _, _, .inr ⟨rfl, rfl, a, b, ha, hb, la, lb, rfl⟩⟩

theorem pack_out (v o : Int) (c t : Bool) (x f : Nat) (er : Value) (h : Out v o c t x er f) (w : World) :
    Calls Tryd.prog 23 #[.agg #[.int .i64 v, .int .i64 o, .bool c, .bool t]] w fun e w' => e = .returned (.tuple #[.int .u64 x, er]) ∧ Keeps (fun _ => False) w w' := by
  rcases h with ⟨rfl, _, hb, rfl⟩ | ⟨_, rfl, a, b, rfl, rfl, la, lb, rfl⟩
  · exact pack_bad v o c t hb w
  · exact pack_ok a b c t la lb w
theorem ref_out (v o : Int) (c t : Bool) (x f : Nat) (er : Value) (h : Out v o c t x er f) (w : World) :
    Calls Tryd.prog 24 #[.agg #[.int .i64 v, .int .i64 o, .bool c, .bool t]] w fun e w' => e = .returned (.tuple #[.int .u64 x, .int .i64 f]) ∧ Keeps (fun _ => False) w w' := by
  rcases h with ⟨rfl, rfl, hb, _⟩ | ⟨rfl, _, a, b, rfl, rfl, la, lb, rfl⟩
  · exact ref_pack_bad v o c t hb w
  · exact ref_pack_ok a b c t la lb w
theorem no_out (v o : Int) (c t : Bool) (x f : Nat) (er : Value) (h : Out v o c t x er f) (w : World) :
    Calls Tryd.prog 25 #[er] w fun e w' => e = .returned (.int .i64 f) ∧ Keeps (fun _ => False) w w' := by
  rcases h with ⟨_, rfl, _, rfl⟩ | ⟨rfl, rfl, _⟩
  · exact no_refused _ w
  · refine (no_nil w).mono ?_
    rintro e w' ⟨rfl, rfl⟩
    exact ⟨rfl, Keeps.refl _ _⟩

/-- What any word tells. -/
theorem meta_there (x : Nat) (hx : x < 18446744073709551616) : ∃ v o c t, IsMeta x v o c t := ⟨_, _, _, _, hx, rfl, rfl, rfl, rfl⟩
theorem packN_lt (a b : Nat) (c t : Bool) (la : a ≤ 281474976710655) (lb : b ≤ 255) : packN a b c t < 18446744073709551616 := by
  have := flagN_lt c t
  unfold packN
  omega
/-- A word that was packed tells what was packed. -/
theorem meta_back (a b : Nat) (c t : Bool) (la : a ≤ 281474976710655) (lb : b ≤ 255) : IsMeta (packN a b c t) a b c t := by
  have hf := flagN_lt c t
  refine ⟨packN_lt a b c t la lb, ?_, ?_, ?_, ?_⟩
  · unfold packN; omega
  · unfold packN; omega
  · unfold bitB packN
    cases c <;> cases t <;> simp [flagN] <;> omega
  · unfold bitB packN
    cases c <;> cases t <;> simp [flagN] <;> omega
theorem flag_low (x v o : Nat) (c t : Bool) (h : IsMeta x v o c t) : flagN c t = x % 4 := by
  have hc := h.hc
  have ht := h.ht
  unfold bitB at hc ht
  have e1 : x / 2 ^ 0 = x := by simp
  have e2 : x / 2 ^ 1 = x / 2 := rfl
  rw [e1] at hc
  rw [e2] at ht
  rcases Nat.mod_two_eq_zero_or_one x with h1 | h1 <;> rcases Nat.mod_two_eq_zero_or_one (x / 2) with h2 | h2 <;> simp only [h1, h2] at hc ht <;> subst hc ht <;> simp only [flagN] <;> simp <;> omega
theorem pack_form (x v o : Nat) (c t : Bool) (h : IsMeta x v o c t) : packN v o c t = 2 ^ 8 * (x / 2 ^ 8) + x % 2 ^ 2 := by
  have e := flag_low x v o c t h
  have hv := h.hv
  have ho := h.ho
  unfold packN
  simp only [Nat.reducePow]
  omega
theorem mask_and (x : Nat) (hx : x < 18446744073709551616) : x &&& 18446744073709551363 = 2 ^ 8 * (x / 2 ^ 8) + x % 2 ^ 2 := by
  have l : x % 2 ^ 2 < 2 ^ 8 := Nat.lt_of_lt_of_le (Nat.mod_lt _ (by decide)) (by decide)
  have m : 18446744073709551363 = 2 ^ 8 * (2 ^ 56 - 1) + (2 ^ 2 - 1) := by decide
  refine Nat.eq_of_testBit_eq fun i => ?_
  rw [Nat.testBit_and, m, Nat.testBit_two_pow_mul_add _ (by decide : 2 ^ 2 - 1 < 2 ^ 8), Nat.testBit_two_pow_mul_add _ l]
  by_cases hi : i < 8
  · rw [if_pos hi, if_pos hi, Nat.testBit_two_pow_sub_one, Nat.testBit_mod_two_pow, Bool.and_comm]
  · rw [if_neg hi, if_neg hi, Nat.testBit_two_pow_sub_one, Nat.testBit_div_two_pow, show i - 8 + 8 = i by omega]
    by_cases hj : i < 64
    · have e : i - 8 < 56 := by omega
      simp [e]
    · have e : ¬ i - 8 < 56 := by omega
      have z : x.testBit i = false := Nat.testBit_lt_two_pow (Nat.lt_of_lt_of_le hx (Nat.pow_le_pow_right (by decide) (by omega) : 2 ^ 64 ≤ 2 ^ i))
      simp [z]
/-- What a word tells is packed to the word but for the bits 2 to 7. -/
theorem meta_word (x v o : Nat) (c t : Bool) (h : IsMeta x v o c t) : bits .andNot .u64 (x : Int) 252 = (packN v o c t : Int) := by
  have hx := h.hx
  rw [show (252 : Int) = ((252 : Nat) : Int) from rfl, u64_andNot_nat x 252 hx (by decide)]
  rw [show 18446744073709551615 - 252 = 18446744073709551363 from rfl, mask_and x hx, pack_form x v o c t h]
/-- Of two words the one with the greater version is greater. -/
theorem meta_order (a b a' b' : Nat) (c t c' t' : Bool) (lb : b ≤ 255) (lb' : b' ≤ 255) (h : a' < a) : packN a' b' c' t' < packN a b c t := by
  have h1 := flagN_lt c' t'
  unfold packN
  omega
end Go.Proofs.YtieilbihfbghjaaDoor
