/-
  Numbers and their bits, of no program: how many bits below a place are set (cnt), a place made so (setTo), the lowest set bit (Tz), the flags of a word. Plain lemmas.
-/
import Derived.Laws.BitsAllLaws
namespace Go.Proofs.YtenhmficiegpiaaGreatDoor

/-- How many of the lowest k bits of m are set. -/
def cnt (m : Nat) : Nat → Nat
  | 0 => 0
  | k + 1 => cnt m k + m / 2 ^ k % 2

theorem cnt_succ (m k : Nat) : cnt m (k + 1) = cnt m k + m / 2 ^ k % 2 := rfl
theorem cnt_le (m k : Nat) : cnt m k ≤ k := by
  induction k with
  | zero => exact Nat.le_refl _
  | succ k ih => rw [cnt_succ]; omega
theorem cnt_nothing (k : Nat) : cnt 0 k = 0 := by
  induction k with
  | zero => rfl
  | succ k ih => rw [cnt_succ, ih]; simp
theorem cnt_add (m a b : Nat) : cnt m (a + b) = cnt m a + cnt (m / 2 ^ a) b := by
  induction b with
  | zero => simp [cnt]
  | succ b ih => rw [← Nat.add_assoc, cnt_succ, cnt_succ, ih, Nat.div_div_eq_div_mul, ← Nat.pow_add, Nat.add_assoc]
theorem bit_mod (m j i : Nat) (h : i < j) : m % 2 ^ j / 2 ^ i % 2 = m / 2 ^ i % 2 := by
  have h1 := Nat.testBit_mod_two_pow m j i
  simp only [Nat.testBit_eq_decide_div_mod_eq, h, decide_true, Bool.true_and, decide_eq_decide] at h1
  omega
theorem cnt_mod_le (m j k : Nat) (h : k ≤ j) : cnt (m % 2 ^ j) k = cnt m k := by
  induction k with
  | zero => rfl
  | succ k ih => rw [cnt_succ, cnt_succ, ih (by omega), bit_mod m j k (by omega)]
theorem cnt_mod_ge (m s k : Nat) (h : s ≤ k) : cnt (m % 2 ^ s) k = cnt m s := by
  obtain ⟨d, rfl⟩ : ∃ d, k = s + d := ⟨k - s, by omega⟩
  rw [cnt_add, cnt_mod_le m s s (Nat.le_refl _), Nat.div_eq_of_lt (Nat.mod_lt _ (Nat.two_pow_pos s)), cnt_nothing, Nat.add_zero]
/-- The four bytes of a number of 32 bits. -/
theorem cnt_bytes (x : Nat) : cnt x 32 = cnt (x / 16777216) 8 + cnt (x / 65536 % 256) 8 + cnt (x / 256 % 256) 8 + cnt (x % 256) 8 := by
  have e1 : cnt x 32 = cnt x 8 + cnt (x / 2 ^ 8) 24 := cnt_add x 8 24
  have e2 : cnt (x / 2 ^ 8) 24 = cnt (x / 2 ^ 8) 8 + cnt (x / 2 ^ 8 / 2 ^ 8) 16 := cnt_add _ 8 16
  have e3 : cnt (x / 2 ^ 8 / 2 ^ 8) 16 = cnt (x / 2 ^ 8 / 2 ^ 8) 8 + cnt (x / 2 ^ 8 / 2 ^ 8 / 2 ^ 8) 8 := cnt_add _ 8 8
  have m1 := cnt_mod_le x 8 8 (Nat.le_refl _)
  have m2 := cnt_mod_le (x / 2 ^ 8) 8 8 (Nat.le_refl _)
  have m3 := cnt_mod_le (x / 2 ^ 8 / 2 ^ 8) 8 8 (Nat.le_refl _)
  rw [Nat.div_div_eq_div_mul] at e2 e3 m3
  rw [Nat.div_div_eq_div_mul] at e3
  simp only [Nat.reducePow, Nat.reduceMul] at e1 e2 e3 m1 m2 m3
  omega

/-- A map with slot s made so. -/
def setTo (m s : Nat) (is : Bool) : Nat := if is = true then m ||| 2 ^ s else m &&& (4294967295 - 2 ^ s)
theorem setTo_bit (m s i : Nat) (is : Bool) (hi : i < 32) (hs : s < 32) : (setTo m s is).testBit i = if i = s then is else m.testBit i := by
  unfold setTo
  cases is
  · simp only [Bool.false_eq_true, if_false]
    have hp : 2 ^ s < 2 ^ 32 := Nat.pow_lt_pow_right (by decide) hs
    have e : 4294967295 - 2 ^ s = 2 ^ 32 - (2 ^ s + 1) := by simp only [Nat.reducePow]; omega
    rw [Nat.testBit_and, e, Nat.testBit_two_pow_sub_succ hp, Nat.testBit_two_pow]
    by_cases h : i = s
    · subst h; simp
    · have h' : ¬ s = i := fun e => h e.symm
      simp [h, h', hi]
  · simp only [if_true]
    rw [Nat.testBit_or, Nat.testBit_two_pow]
    by_cases h : i = s
    · subst h; simp
    · have h' : ¬ s = i := fun e => h e.symm
      simp [h, h']
theorem setTo_lt (m s : Nat) (is : Bool) (hm : m < 4294967296) (hs : s < 32) : setTo m s is < 4294967296 := by
  unfold setTo
  have hp : 2 ^ s < 2 ^ 32 := Nat.pow_lt_pow_right (by decide) hs
  cases is
  · simp only [Bool.false_eq_true, if_false]
    exact Nat.lt_of_le_of_lt Nat.and_le_left hm
  · simp only [if_true]
    exact Nat.or_lt_two_pow (n := 32) hm hp
theorem mod_step (x k : Nat) : x % 2 ^ (k + 1) = x % 2 ^ k + 2 ^ k * (x / 2 ^ k % 2) := Nat.mod_pow_succ
theorem bit_dec (x i : Nat) : x.testBit i = decide (x / 2 ^ i % 2 = 1) := Nat.testBit_eq_decide_div_mod_eq
theorem setTo_at (m s i : Nat) (is : Bool) (hi : i < 32) (hs : s < 32) : setTo m s is / 2 ^ i % 2 = if i = s then (if is = true then 1 else 0) else m / 2 ^ i % 2 := by
  have h := setTo_bit m s i is hi hs
  rw [bit_dec, bit_dec] at h
  by_cases e : i = s
  · rw [if_pos e] at h ⊢
    cases is
    · simp only [decide_eq_false_iff_not] at h; simp only [Bool.false_eq_true, if_false]; omega
    · simp only [decide_eq_true_eq] at h; simp only [if_true]; omega
  · rw [if_neg e] at h ⊢
    simp only [decide_eq_decide] at h
    omega
theorem setTo_twice (m s : Nat) (hm : m < 4294967296) (hs : s < 32) (a b : Bool) : setTo (setTo m s a) s b = setTo m s b := by
  refine Nat.eq_of_testBit_eq fun i => ?_
  rcases Nat.lt_or_ge i 32 with hi | hi
  · rw [setTo_bit _ s i b hi hs, setTo_bit _ s i b hi hs, setTo_bit _ s i a hi hs]
    split <;> rfl
  · rw [Nat.testBit_lt_two_pow (Nat.lt_of_lt_of_le (setTo_lt _ s b (setTo_lt m s a hm hs) hs) (Nat.pow_le_pow_right (by decide) hi : 2 ^ 32 ≤ 2 ^ i)),
      Nat.testBit_lt_two_pow (Nat.lt_of_lt_of_le (setTo_lt m s b hm hs) (Nat.pow_le_pow_right (by decide) hi : 2 ^ 32 ≤ 2 ^ i))]
/-- With one slot more the counts behind it are one more. -/
theorem cnt_with (m s i : Nat) (hi : i ≤ 32) (hs : s < 32) : cnt (setTo m s true) i = cnt m i + if s < i then 1 - m / 2 ^ s % 2 else 0 := by
  induction i with
  | zero => simp [cnt]
  | succ i ih =>
    rw [cnt_succ, cnt_succ, ih (by omega), setTo_at m s i true (by omega) hs]
    by_cases e : i = s
    · subst e
      have : m / 2 ^ i % 2 < 2 := Nat.mod_lt _ (by decide)
      simp only [if_true, Nat.lt_irrefl, if_false, Nat.lt_succ_self]
      omega
    · rw [if_neg e]
      by_cases l : s < i
      · rw [if_pos l, if_pos (by omega)]; omega
      · rw [if_neg l, if_neg (by omega)]; omega

/-- t is where x's lowest bit that is set stands, or 64. -/
def Tz (x t : Nat) : Prop := t ≤ 64 ∧ (∀ i, i < t → x / 2 ^ i % 2 = 0) ∧ (t < 64 → x / 2 ^ t % 2 = 1)
theorem tz_low (x t : Nat) (h : ∀ i, i < t → x / 2 ^ i % 2 = 0) : x % 2 ^ t = 0 := by
  induction t with
  | zero => simp [Nat.mod_one]
  | succ t ih => rw [mod_step, ih (fun i hi => h i (by omega)), h t (by omega)]; simp
theorem tz_form (x t : Nat) (h : Tz x t) (ht : t < 64) : ∃ q, x = 2 ^ (t + 1) * q + 2 ^ t := by
  have h1 := tz_low x t h.2.1
  have h2 := h.2.2 ht
  refine ⟨x / 2 ^ (t + 1), ?_⟩
  have h3 := mod_step x t
  rw [h1, h2] at h3
  have h4 := Nat.div_add_mod x (2 ^ (t + 1))
  omega
theorem tz_zero (t : Nat) (h : Tz 0 t) : t = 64 := by
  rcases Nat.lt_or_ge t 64 with h1 | h1
  · have := h.2.2 h1; simp at this
  · have := h.1; omega
theorem tz_lt (x t : Nat) (h : Tz x t) (h0 : x ≠ 0) (hx : x < 18446744073709551616) : t < 64 := by
  rcases Nat.lt_or_ge t 64 with h1 | h1
  · exact h1
  · have e : t = 64 := by have := h.1; omega
    subst e
    have := tz_low x 64 h.2.1
    rw [Nat.mod_eq_of_lt hx] at this
    exact absurd this h0
theorem tz_there (x : Nat) : ∃ t, Tz x t := by
  have key : ∀ n, n ≤ 64 → (∃ t, Tz x t) ∨ ∀ i, i < n → x / 2 ^ i % 2 = 0 := by
    intro n
    induction n with
    | zero => intro _; exact .inr fun i hi => absurd hi (by omega)
    | succ n ih =>
      intro hn
      rcases ih (by omega) with h | h
      · exact .inl h
      · rcases Nat.mod_two_eq_zero_or_one (x / 2 ^ n) with e | e
        · refine .inr fun i hi => ?_
          rcases Nat.lt_or_ge i n with l | l
          · exact h i l
          · have : i = n := by omega
            subst this; exact e
        · exact .inl ⟨n, by omega, h, fun _ => e⟩
  rcases key 64 (Nat.le_refl _) with h | h
  · exact h
  · exact ⟨64, Nat.le_refl _, h, fun h => absurd h (by omega)⟩
theorem tz_and (x t : Nat) (h : Tz x t) (ht : t < 64) (h0 : x ≠ 0) (hx : x < 18446744073709551616) : x &&& (18446744073709551616 - x) = 2 ^ t := by
  obtain ⟨q, hq⟩ := tz_form x t h ht
  have e : 18446744073709551616 - x = 2 ^ 64 - ((x - 1) + 1) := by simp only [Nat.reducePow]; omega
  have p0 := Nat.two_pow_pos t
  have e2 : x - 1 = 2 ^ (t + 1) * q + (2 ^ t - 1) := by omega
  have l1 : 2 ^ t < 2 ^ (t + 1) := Nat.pow_lt_pow_right (by decide) (by omega)
  have l2 : 2 ^ t - 1 < 2 ^ (t + 1) := by omega
  refine Nat.eq_of_testBit_eq fun i => ?_
  rw [Nat.testBit_and, e, Nat.testBit_two_pow_sub_succ (show x - 1 < 2 ^ 64 by simp only [Nat.reducePow]; omega), e2, Nat.testBit_two_pow_mul_add q l2, Nat.testBit_two_pow]
  conv => lhs; rw [hq, Nat.testBit_two_pow_mul_add q l1]
  by_cases hi : i < t + 1
  · rw [if_pos hi, if_pos hi, Nat.testBit_two_pow_sub_one, Nat.testBit_two_pow]
    by_cases e : t = i
    · subst e; simp; omega
    · simp [e]
  · rw [if_neg hi, if_neg hi]
    have e : ¬ t = i := by omega
    simp [e]
    exact fun h _ => h

/-- A hash's slot at level l. -/
theorem slot_bits (h l i : Nat) (hh : h < 4294967296) : h / 2 ^ (5 * l) % 2 ^ (i + 1) = h / 2 ^ (5 * l) % 2 ^ i + (if 5 * l + i < 32 ∧ h / 2 ^ (5 * l + i) % 2 = 1 then 2 ^ i else 0) := by
  rw [mod_step, Nat.div_div_eq_div_mul, ← Nat.pow_add]
  by_cases c : 5 * l + i < 32
  · rcases Nat.mod_two_eq_zero_or_one (h / 2 ^ (5 * l + i)) with e | e <;> simp [e, c]
  · have : h < 2 ^ (5 * l + i) := Nat.lt_of_lt_of_le hh (Nat.pow_le_pow_right (by decide) (by omega) : 2 ^ 32 ≤ 2 ^ (5 * l + i))
    rw [Nat.div_eq_of_lt this]
    simp [c]
end Go.Proofs.YtenhmficiegpiaaGreatDoor
