/-
  bits, the document's own answers (concordref03), by contract: Bit, In, Hash, Slot, Has, Set, Rank, Tall. The world stays as it was. Conditions: the numbers are of their kinds.
-/
import Derived.Test.YtenhmficiegpiaaGreatDoorChecked
import Derived.Test.YtenhmficiegpiaaGreatDoorBtNum
import Derived.WalkKit
import Derived.LoopTactic
import Derived.Lib.Hide
namespace Go.Proofs.YtenhmficiegpiaaGreatDoor
open Go.RowKit

theorem ret_int {k : IntKind} {a b : Int} (h : a = b) : Ending.returned (.int k a) = .returned (.int k b) := by rw [h]
theorem ret_bool {a b : Bool} (h : a = b) : Ending.returned (.bool a) = .returned (.bool b) := by rw [h]

def bitB (x n : Nat) : Bool := decide (x / 2 ^ n % 2 = 1)
theorem bitB_yes {x n : Nat} (h : x / 2 ^ n % 2 = 1) : bitB x n = true := by unfold bitB; exact decide_eq_true h
theorem bitB_no {x n : Nat} (h : x / 2 ^ n % 2 = 0) : bitB x n = false := by unfold bitB; exact decide_eq_false (by omega)

theorem half (x k : Nat) : x / 2 ^ (k + 1) = x / 2 ^ k / 2 := by rw [Nat.pow_succ, Nat.div_div_eq_div_mul]

/-- A slot's number, from 0 to 31. -/
def inN (slot : Int) : Nat := (slot % 32).toNat
theorem inN_lt (slot : Int) : inN slot < 32 := by unfold inN; omega
theorem in_num (slot : Int) : (slot.tmod 32 + 32) % 32 = (inN slot : Int) := by
  unfold inN
  rcases Int.lt_or_le slot 0 with h | h
  · have e : slot.tmod 32 = -((-slot) % 32) := by
      rw [← Int.tmod_eq_emod_of_nonneg (show 0 ≤ -slot by omega), Int.neg_tmod, Int.neg_neg]
    rw [e]; omega
  · rw [Int.tmod_eq_emod_of_nonneg h]; omega
theorem tmod_in (slot : Int) : -31 ≤ slot.tmod 32 ∧ slot.tmod 32 ≤ 31 := by
  rcases Int.lt_or_le slot 0 with h | h
  · have e : slot.tmod 32 = -((-slot) % 32) := by
      rw [← Int.tmod_eq_emod_of_nonneg (show 0 ≤ -slot by omega), Int.neg_tmod, Int.neg_neg]
    rw [e]; omega
  · rw [Int.tmod_eq_emod_of_nonneg h]; omega

/-- A level, from 0 to 6. -/
def lvl (level : Int) : Nat := if level < 0 then 0 else if 6 < level then 6 else level.toNat
theorem lvl_le (level : Int) : lvl level ≤ 6 := by unfold lvl; split; omega; split <;> omega

theorem slot_lt (h l : Nat) : h / 2 ^ (5 * l) % 32 < 32 := Nat.mod_lt _ (by decide)
theorem pow_le32 {k : Nat} (hk : k ≤ 5) : 2 ^ k ≤ 32 := Nat.pow_le_pow_right (n := 2) (by decide) hk

theorem lvl_cases (level : Int) : (level < 0 ∧ lvl level = 0) ∨ (6 < level ∧ lvl level = 6) ∨ level = lvl level := by
  unfold lvl
  by_cases h : level < 0
  · exact .inl ⟨h, by rw [if_pos h]⟩
  · by_cases h' : 6 < level
    · exact .inr (.inl ⟨h', by rw [if_neg h, if_pos h']⟩)
    · exact .inr (.inr (by rw [if_neg h, if_neg h']; omega))
theorem slot_step {h l k s p : Nat} (hh : h < 4294967296) (hs : s = h / 2 ^ (5 * l) % 2 ^ k) (hp : p = 2 ^ k) :
    s + (if 5 * l + k < 32 ∧ bitB h (5 * l + k) = true then p else 0) = h / 2 ^ (5 * l) % 2 ^ (k + 1) := by
  rw [slot_bits h l k hh, ← hs, ← hp]
  simp only [bitB, decide_eq_true_eq]

end Go.Proofs.YtenhmficiegpiaaGreatDoor
