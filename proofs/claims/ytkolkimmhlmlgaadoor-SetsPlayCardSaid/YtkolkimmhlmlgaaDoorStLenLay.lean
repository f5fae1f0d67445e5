/-
  math/bits.Len by the library's contract, at this program's own numbers; slices.nextPowerOfTwo by contract.
-/
import Derived.Shelf.Small.Bits
import Derived.Sort.Walk7a
import Derived.Test.YtkolkimmhlmlgaaDoorStPivot
namespace Go.Proofs.YtkolkimmhlmlgaaDoor
open Go.Proofs Go.Shelf

def lenA_ren : Go.Shelf.Ren := ⟨fun | 125 => 52 | 128 => 64 | 129 => 65 | n => n, fun | 46 => 112 | 3 => 3 | 51 => 138 | 53 => 23 | 4 => 4 | 5 => 5 | 9 => 9 | n => n, fun | n => n⟩

theorem lenA : Go.Proofs.Lays.n125 Tryd.prog lenA_ren := {
  mixed := by kernel_rfl,
  f125 := Tryd.func52.trans (congrArg some (by kernel_rfl)),
  f128 := Tryd.func64.trans (congrArg some (by kernel_rfl)),
  f129 := Tryd.func65.trans (congrArg some (by kernel_rfl)),
  t3 := Tryd.underlying3,
  a3 := Tryd.isAgg3,
  z3 := Tryd.sizeOf3,
  v3 := Tryd.zeroValue3,
  t4 := Tryd.underlying4,
  a4 := Tryd.isAgg4,
  z4 := Tryd.sizeOf4,
  v4 := Tryd.zeroValue4,
  t5 := Tryd.underlying5,
  a5 := Tryd.isAgg5,
  z5 := Tryd.sizeOf5,
  v5 := Tryd.zeroValue5,
  t9 := Tryd.underlying9,
  a9 := Tryd.isAgg9,
  z9 := Tryd.sizeOf9,
  v9 := Tryd.zeroValue9,
  t46 := Tryd.underlying112,
  a46 := Tryd.isAgg112,
  z46 := Tryd.sizeOf112,
  v46 := Tryd.zeroValue112,
  t51 := Tryd.underlying138,
  a51 := Tryd.isAgg138,
  z51 := Tryd.sizeOf138,
  v51 := Tryd.zeroValue138,
  t53 := Tryd.underlying23,
  a53 := Tryd.isAgg23,
  z53 := Tryd.sizeOf23,
  v53 := Tryd.zeroValue23 }

theorem len_u (x : Int) (h0 : 0 ≤ x) (h1 : x ≤ 18446744073709551615) (w : World) :
    Calls Tryd.prog 52 #[.int .u64 x] w fun e w' => e = .returned (.int .i64 (Lib.bitLen x.toNat)) ∧ w' = w := Any.bits_Len lenA x w h0 h1

/-- slices.nextPowerOfTwo: a power of two, above the length, at most twice it. -/
theorem next_u (L : Nat) (h0 : 0 < L) (hL : L < 4611686018427387904) (w : World) :
    Calls Tryd.prog 67 #[.int .i64 L] w fun e w' => ∃ M : Nat, e = .returned (.int .u64 (M : Int)) ∧ 0 < M ∧ M ≤ 2 * L ∧ w' = w := by
  have h1 := Go.Sort.two_pow_bitsLen_le h0
  have h2 : Go.Sort.bitsLen L ≤ 62 := (Go.Sort.bitsLen_le_iff L 62).2 (by omega)
  have e1 : Lib.bitLen L = Go.Sort.bitsLen L := Go.Proofs.bitLen_eq L (by omega)
  have cl := Lib.hid (len_u (L : Int) (by omega) (by omega) w)
  rw [Int.toNat_natCast, e1] at cl
  obtain ⟨k, hk⟩ : ∃ k, Go.Sort.bitsLen L = k := ⟨_, rfl⟩
  rw [hk] at h1 h2 cl
  have wk := Go.Proofs.wrap_two_pow k h2
  clear e1 hk
  have h1' := Lib.hid h1
  clear h1
  have w0 : IntKind.u64.wrap (L : Int) = (L : Int) := IntWalk.u64_in _ (by omega)
  have k64 : (k : Int) ≤ 64 := by omega
  go_enter Tryd.func67, Tryd.ntmps67
  go_wp2_with (first | (go_at_call 52; refine cl.out.mono ?_; rintro e w' ⟨rfl, rfl⟩))
  go_ret
  exact ⟨2 ^ k, by rw [Int.shiftLeft_eq]; simp, Nat.two_pow_pos _, h1'.out, rfl⟩
end Go.Proofs.YtkolkimmhlmlgaaDoor
