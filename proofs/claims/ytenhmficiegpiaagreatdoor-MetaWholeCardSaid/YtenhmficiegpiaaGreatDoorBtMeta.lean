/-
  bits, by contract: flags, Unpack, and the document's own Pack and Unpack. Each leaves what was there as it was.
-/
import Derived.Test.YtenhmficiegpiaaGreatDoorBtRef
import Derived.Test.YtenhmficiegpiaaGreatDoorWdLib
import Derived.Laws.Bits64
import Derived.BigQuiet
namespace Go.Proofs.YtenhmficiegpiaaGreatDoor
open Go.RowKit

/-- A Meta. -/
def metaV (v o : Int) (c t : Bool) : Array Value := #[.int .i64 v, .int .i64 o, .bool c, .bool t]
/-- The flags of a word. -/
def flagN (c t : Bool) : Nat := (if t = true then 2 else 0) + if c = true then 1 else 0

theorem bt_flags (v o : Int) (c t : Bool) (w : World) :
    Calls Tryz.prog 69 #[.agg #[.int .i64 v, .int .i64 o, .bool c, .bool t]] w fun e w' => e = .returned (.int .u64 (flagN c t)) ∧ Keeps (fun _ => False) w w' := by
  cases c <;> cases t
  all_goals
    go_enter Tryz.func69, Tryz.ntmps69
    go_wp2
    go_ret
    exact ⟨rfl, (Keeps.refl _ w).alloc _⟩

/-- What a word tells. -/
structure IsMeta (x v o : Nat) (c t : Bool) : Prop where
  hx : x < 18446744073709551616
  hv : v = x / 65536
  ho : o = x / 256 % 256
  hc : c = bitB x 0
  ht : t = bitB x 1

theorem low_bits (x k : Int) (n : Nat) (hk : k.toNat = n) (h0 : 0 ≤ k) (h1 : k < 18446744073709551616) (hx : 0 ≤ x) (h : x < 18446744073709551616) : bits .and .u64 x k = ((x.toNat &&& n : Nat) : Int) := by
  rw [u64_and x k hx h h0 h1, hk]
theorem bit0 (x : Nat) (hx : x < 18446744073709551616) : (bits .and .u64 (x : Int) 1 != 0) = bitB x 0 := by
  rw [low_bits x 1 1 rfl (by decide) (by decide) (by omega) (by omega), Int.toNat_natCast, nat_mask1]
  unfold bitB
  rcases Nat.mod_two_eq_zero_or_one x with h | h <;> simp [h]
theorem bit1 (x : Nat) (hx : x < 18446744073709551616) : (bits .and .u64 (x : Int) 2 != 0) = bitB x 1 := by
  rw [low_bits x 2 2 rfl (by decide) (by decide) (by omega) (by omega), Int.toNat_natCast, show x &&& 2 = x &&& 2 ^ 1 from rfl, nat_bit 1 x]
  unfold bitB
  rcases Nat.mod_two_eq_zero_or_one (x / 2 ^ 1) with h | h <;> simp [h]
theorem own_bits (x : Nat) (hx : x < 18446744073709551616) : bits .and .u64 ((x : Int) / 256) 255 = ((x / 256 % 256 : Nat) : Int) := by
  have e : (x : Int) / 256 = ((x / 256 : Nat) : Int) := by simp
  have l : x / 256 ≤ x := Nat.div_le_self _ _
  rw [e]
  clear e
  generalize x / 256 = y at l
  rw [low_bits y 255 255 rfl (by decide) (by decide) (by omega) (by omega), Int.toNat_natCast, nat_mask8]
theorem ref_bit0 (x : Nat) : ((x : Int) % 2 == 1) = bitB x 0 := by
  unfold bitB
  rcases Nat.mod_two_eq_zero_or_one x with h | h
  · have : (x : Int) % 2 = 0 := by omega
    simp [h, this]
  · have : (x : Int) % 2 = 1 := by omega
    simp [h, this]
theorem ref_bit1 (x : Nat) : ((x : Int) / 2 % 2 == 1) = bitB x 1 := by
  unfold bitB
  have e : x / 2 ^ 1 = x / 2 := rfl
  rw [e]
  rcases Nat.mod_two_eq_zero_or_one (x / 2) with h | h
  · have : (x : Int) / 2 % 2 = 0 := by omega
    simp [h, this]
  · have : (x : Int) / 2 % 2 = 1 := by omega
    simp [h, this]
theorem IsMeta.vcast {x v o : Nat} {c t : Bool} (h : IsMeta x v o c t) : (x : Int) / 65536 = (v : Int) := by rw [h.hv]; simp
theorem IsMeta.ocast {x v o : Nat} {c t : Bool} (h : IsMeta x v o c t) : (x : Int) / 256 % 256 = (o : Int) := by rw [h.ho]; simp
theorem IsMeta.vlt {x v o : Nat} {c t : Bool} (h : IsMeta x v o c t) : v < 281474976710656 := by
  have h1 := h.hx
  have h2 := h.hv
  omega
theorem IsMeta.olt {x v o : Nat} {c t : Bool} (h : IsMeta x v o c t) : o < 256 := by rw [h.ho]; exact Nat.mod_lt _ (by decide)

theorem bt_unpack (x v o : Nat) (c t : Bool) (h : IsMeta x v o c t) (w : World) :
    Calls Tryz.prog 68 #[.int .u64 x] w fun e w' => e = .returned (.agg #[.int .i64 v, .int .i64 o, .bool c, .bool t]) ∧ Keeps (fun _ => False) w w' := by
  have e1 := h.vcast
  have e2 := (own_bits x h.hx).trans (congrArg Nat.cast h.ho.symm)
  have e3 := (bit0 x h.hx).trans h.hc.symm
  have e4 := (bit1 x h.hx).trans h.ht.symm
  have l1 := h.vlt
  have l2 := h.olt
  have hx := h.hx
  have e5 : wrap64 (o : Int) = (o : Int) := IntWalk.wrap64_in _ ⟨by omega, by omega⟩
  clear h
  go_enter Tryz.func68, Tryz.ntmps68
  go_wp2
  exact bodyPost_ret (v := .agg #[.int .i64 v, .int .i64 o, .bool c, .bool t]) (by simp [results, Tryz.results68, go_sem]) rfl ⟨rfl, (Keeps.refl _ w).alloc _⟩
end Go.Proofs.YtenhmficiegpiaaGreatDoor
