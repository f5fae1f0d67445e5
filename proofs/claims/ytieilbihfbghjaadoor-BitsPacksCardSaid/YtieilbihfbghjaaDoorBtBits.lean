/-
  bits, by contract: Hash, Slot, bit, Has, With, Without. The world stays as it was. Conditions: the numbers are of their kinds.
-/
import Derived.Test.YtieilbihfbghjaaDoorBtRefs
namespace Go.Proofs.YtieilbihfbghjaaDoor
open Go.RowKit

theorem hashI_bits (x : Int) : IntKind.u64.wrap (IntKind.u64.wrap x * 11400714819323198485) / 4294967296 % 4294967296 = hashI x := by
  simp only [IntKind.wrap_u64]
  unfold hashI
  generalize x % 18446744073709551616 * 11400714819323198485 = y
  omega
theorem bt_hash (x : Int) (w : World) :
    Calls Tryd.prog 9 #[.int .i64 x] w fun e w' => e = .returned (.int .u32 (hashI x)) ∧ w = w' := by
  go_enter Tryd.func9, Tryd.ntmps9
  go_wp2
  go_ret
  exact ⟨ret_int (hashI_bits x), rfl⟩

theorem and_slot (x : Int) (h0 : 0 ≤ x) (h1 : x < 4294967296) : bits .and .u32 x 31 = x % 32 := by
  rw [u32_and x 31 h0 h1 (by decide) (by decide)]
  rw [show (31 : Int).toNat = 31 from rfl, nat_mask5]
  omega
theorem slot_num (h l : Nat) (hh : h < 4294967296) (x : Int) (hx : x = ((h / 2 ^ (5 * l) : Nat) : Int)) : wrap64 (bits .and .u32 x 31) = ((h / 2 ^ (5 * l) % 32 : Nat) : Int) := by
  have d : h / 2 ^ (5 * l) ≤ h := Nat.div_le_self _ _
  generalize h / 2 ^ (5 * l) = y at d hx
  subst hx
  rw [and_slot _ (by omega) (by omega), IntWalk.wrap64_in _ ⟨by omega, by omega⟩]
  omega

theorem bt_slot (h : Nat) (level : Int) (hh : h < 4294967296) (w : World) :
    Calls Tryd.prog 11 #[.int .u32 h, .int .i64 level] w fun e w' => e = .returned (.int .i64 (h / 2 ^ (5 * lvl level) % 32 : Nat)) ∧ w = w' := by
  have hc := lvl_cases level
  have h6 := lvl_le level
  generalize lvl level = l at hc h6
  rcases hc with ⟨c, rfl⟩ | ⟨c, rfl⟩ | rfl
  · go_enter Tryd.func11, Tryd.ntmps11
    go_wp2
    go_ret
    exact ⟨ret_int (slot_num h 0 hh _ (by simp)), rfl⟩
  · go_enter Tryd.func11, Tryd.ntmps11
    go_wp2
    go_ret
    exact ⟨ret_int (slot_num h 6 hh _ (by simp)), rfl⟩
  · go_enter Tryd.func11, Tryd.ntmps11
    go_wp2
    go_ret
    exact ⟨ret_int (slot_num h l hh _ (by simp)), rfl⟩

theorem and31 (a : Int) : bits .and .i64 a 31 = (inN a : Int) := by
  have e : (BitVec.ofInt IntKind.i64.bits a).toNat = (a % 18446744073709551616).toNat := by
    show (BitVec.ofInt 64 a).toNat = _
    simp [BitVec.toNat_ofInt]
  have f : (BitVec.ofInt IntKind.i64.bits 31).toNat = 31 := rfl
  simp only [bits, BitVec.toNat_and]
  rw [e, f, nat_mask5, IntKind.wrap_i64]
  unfold inN
  omega

theorem one_shl (s : Nat) (hs : s < 32) : (2 : Int) ^ s % 4294967296 = ((2 ^ s : Nat) : Int) := by
  have h : 2 ^ s < 2 ^ 32 := Nat.pow_lt_pow_right (by decide) hs
  have e : ((2 : Int) ^ s) = ((2 ^ s : Nat) : Int) := by simp
  rw [e]
  generalize 2 ^ s = y at h
  omega

/-- A slot's bit in a map. -/
def bitN (slot : Int) : Nat := 2 ^ inN slot
theorem bitN_lt (slot : Int) : bitN slot < 4294967296 := Nat.pow_lt_pow_right (by decide : 1 < 2) (inN_lt slot)
theorem bitN_pos (slot : Int) : 0 < bitN slot := Nat.two_pow_pos _

theorem bt_bit (slot : Int) (w : World) :
    Calls Tryd.prog 29 #[.int .i64 slot] w fun e w' => e = .returned (.int .u32 (bitN slot)) ∧ w = w' := by
  have hs := inN_lt slot
  have h := and31 slot
  go_enter Tryd.func29, Tryd.ntmps29
  go_wp2
  go_ret
  exact ⟨ret_int (one_shl _ hs), rfl⟩

theorem pow_lt {s : Nat} (hs : s < 32) : 2 ^ s < 4294967296 := Nat.pow_lt_pow_right (by decide : 1 < 2) hs

theorem has_num (m : Nat) (slot : Int) (hm : m < 4294967296) : (bits .and .u32 (m : Int) (bitN slot : Int) != 0) = bitB m (inN slot) := by
  have hs := inN_lt slot
  unfold bitN
  generalize inN slot = s at hs
  rw [u32_and_nat m _ hm (pow_lt hs), nat_bit]
  unfold bitB
  have p0 := Nat.two_pow_pos s
  rcases Nat.mod_two_eq_zero_or_one (m / 2 ^ s) with e | e
  · simp [e]
  · simp only [e, Nat.one_mul]
    generalize 2 ^ s = y at p0
    simp; omega
theorem with_num (m : Nat) (slot : Int) (hm : m < 4294967296) : bits .or .u32 (m : Int) (bitN slot : Int) = (setTo m (inN slot) true : Int) := by
  have hs := inN_lt slot
  unfold bitN
  generalize inN slot = s at hs
  rw [u32_or_nat m _ hm (pow_lt hs)]; rfl
theorem without_num (m : Nat) (slot : Int) (hm : m < 4294967296) : bits .andNot .u32 (m : Int) (bitN slot : Int) = (setTo m (inN slot) false : Int) := by
  have hs := inN_lt slot
  unfold bitN
  generalize inN slot = s at hs
  rw [u32_andNot_nat m _ hm (pow_lt hs)]; rfl
theorem below_num (m : Nat) (slot : Int) (hm : m < 4294967296) : bits .and .u32 (m : Int) ((bitN slot : Int) - 1) = ((m % bitN slot : Nat) : Int) := by
  have hs := inN_lt slot
  unfold bitN
  generalize inN slot = s at hs
  have p0 := Nat.two_pow_pos s
  have e : ((2 ^ s : Nat) : Int) - 1 = ((2 ^ s - 1 : Nat) : Int) := by omega
  have l := pow_lt hs
  rw [e, u32_and_nat m _ hm (by omega), Nat.and_two_pow_sub_one_eq_mod]

theorem bt_has (m : Nat) (slot : Int) (b : Bool) (hb : bitB m (inN slot) = b) (hm : m < 4294967296) (w : World) :
    Calls Tryd.prog 14 #[.int .u32 m, .int .i64 slot] w fun e w' => e = .returned (.bool b) ∧ w = w' := by
  have N := has_num m slot hm
  rw [hb] at N
  go_enter Tryd.func14, Tryd.ntmps14
  go_wp2_with (go_at_call 29; refine (bt_bit slot _).mono ?_; rintro e w' ⟨rfl, rfl⟩)
  go_ret
  exact ⟨rfl, rfl⟩

theorem bt_with (m : Nat) (slot : Int) (hm : m < 4294967296) (w : World) :
    Calls Tryd.prog 16 #[.int .u32 m, .int .i64 slot] w fun e w' => e = .returned (.int .u32 (setTo m (inN slot) true)) ∧ w = w' := by
  have N := with_num m slot hm
  go_enter Tryd.func16, Tryd.ntmps16
  go_wp2_with (go_at_call 29; refine (bt_bit slot _).mono ?_; rintro e w' ⟨rfl, rfl⟩)
  go_ret
  exact ⟨ret_int rfl, rfl⟩

theorem bt_without (m : Nat) (slot : Int) (hm : m < 4294967296) (w : World) :
    Calls Tryd.prog 18 #[.int .u32 m, .int .i64 slot] w fun e w' => e = .returned (.int .u32 (setTo m (inN slot) false)) ∧ w = w' := by
  have N := without_num m slot hm
  go_enter Tryd.func18, Tryd.ntmps18
  go_wp2_with (go_at_call 29; refine (bt_bit slot _).mono ?_; rintro e w' ⟨rfl, rfl⟩)
  go_ret
  exact ⟨ret_int rfl, rfl⟩
end Go.Proofs.YtieilbihfbghjaaDoor
