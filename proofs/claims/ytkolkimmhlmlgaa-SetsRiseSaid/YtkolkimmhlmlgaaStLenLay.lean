/-
  math/bits.Len by the library's contract, at this program's own numbers; slices.nextPowerOfTwo by contract.
-/
import Derived.Shelf.Small.Bits
import Derived.Sort.Walk7a
import Derived.Test.YtkolkimmhlmlgaaStPivot
namespace Go.Proofs.Ytkolkimmhlmlgaa
open Go.Proofs Go.Shelf

def lenA_ren : Go.Shelf.Ren := ⟨fun | 125 => 35 | 128 => 45 | 129 => 46 | n => n, fun | 46 => 97 | 3 => 3 | 51 => 106 | 53 => 26 | 4 => 4 | 5 => 5 | 9 => 9 | n => n, fun | n => n⟩

theorem lenA : Go.Proofs.Lays.n125 Try.prog lenA_ren := {
  mixed := by kernel_rfl,
  f125 := Try.func35.trans (congrArg some (by kernel_rfl)),
  f128 := Try.func45.trans (congrArg some (by kernel_rfl)),
  f129 := Try.func46.trans (congrArg some (by kernel_rfl)),
  t3 := Try.underlying3,
  a3 := Try.isAgg3,
  z3 := Try.sizeOf3,
  v3 := Try.zeroValue3,
  t4 := Try.underlying4,
  a4 := Try.isAgg4,
  z4 := Try.sizeOf4,
  v4 := Try.zeroValue4,
  t5 := Try.underlying5,
  a5 := Try.isAgg5,
  z5 := Try.sizeOf5,
  v5 := Try.zeroValue5,
  t9 := Try.underlying9,
  a9 := Try.isAgg9,
  z9 := Try.sizeOf9,
  v9 := Try.zeroValue9,
  t46 := Try.underlying97,
  a46 := Try.isAgg97,
  z46 := Try.sizeOf97,
  v46 := Try.zeroValue97,
  t51 := Try.underlying106,
  a51 := Try.isAgg106,
  z51 := Try.sizeOf106,
  v51 := Try.zeroValue106,
  t53 := Try.underlying26,
  a53 := Try.isAgg26,
  z53 := Try.sizeOf26,
  v53 := Try.zeroValue26 }

theorem len_u (x : Int) (h0 : 0 ≤ x) (h1 : x ≤ 18446744073709551615) (w : World) :
    Calls Try.prog 35 #[.int .u64 x] w fun e w' => e = .returned (.int .i64 (Lib.bitLen x.toNat)) ∧ w' = w := Any.bits_Len lenA x w h0 h1

/-- slices.nextPowerOfTwo: a power of two, above the length, at most twice it. -/
theorem next_u (L : Nat) (h0 : 0 < L) (hL : L < 4611686018427387904) (w : World) :
    Calls Try.prog 48 #[.int .i64 L] w fun e w' => ∃ M : Nat, e = .returned (.int .u64 (M : Int)) ∧ 0 < M ∧ M ≤ 2 * L ∧ w' = w := by
  have h1 := Go.Sort.two_pow_bitsLen_le h0
  have h2 : Go.Sort.bitsLen L ≤ 62 := (Go.Sort.bitsLen_le_iff L 62).2 (by omega)
  have e1 : Lib.bitLen L = Go.Sort.bitsLen L := Go.Proofs.bitLen_eq L (by omega)
  have cl := Lib.hid (len_u (L : Int) (by omega) (by omega) w)
  rw [Int.toNat_natCast, e1] at cl
  obtain ⟨k, hk⟩ : ∃ k, Go.Sort.bitsLen L = k := ⟨_, rfl⟩
  rw [hk] at h1 h2 cl
  have wk := Go.Proofs.wrap_two_pow k h2
  clear e1 hk
  have h1' := Lib.hid h1
  clear h1
  have w0 : IntKind.u64.wrap (L : Int) = (L : Int) := IntWalk.u64_in _ (by omega)
  have k64 : (k : Int) ≤ 64 := by omega
  go_enter Try.func48, Try.ntmps48
  go_wp2_with (first | (go_at_call 35; refine cl.out.mono ?_; rintro e w' ⟨rfl, rfl⟩))
  go_ret
  exact ⟨2 ^ k, by rw [Int.shiftLeft_eq]; simp, Nat.two_pow_pos _, h1'.out, rfl⟩
end Go.Proofs.Ytkolkimmhlmlgaa
