/-
  bits, by contract: OnesCount32 (the library's: a table of 256 bytes) and Rank. Conditions: the numbers are of their kinds.
-/
import Derived.Test.YtieilbihfbghjaaDoorBtBits
import Derived.Lib.Tables
import Derived.Deep.QuietTactic
import Derived.BigQuiet
namespace Go.Proofs.YtieilbihfbghjaaDoor
open Go.RowKit

set_option maxRecDepth 100000 in
theorem pop_fold : (ByteArray.mk (List.toArray (List.append (List.append ([0, 1, 1, 2, 1, 2, 2, 3, 1, 2, 2, 3, 2, 3, 3, 4, 1, 2, 2, 3, 2, 3, 3, 4, 2, 3, 3, 4, 3, 4, 4, 5, 1, 2, 2, 3, 2, 3, 3, 4, 2, 3, 3, 4, 3, 4, 4, 5, 2, 3, 3, 4, 3, 4, 4, 5, 3, 4, 4, 5, 4, 5, 5, 6] : List UInt8) [1, 2, 2, 3, 2, 3, 3, 4, 2, 3, 3, 4, 3, 4, 4, 5, 2, 3, 3, 4, 3, 4, 4, 5, 3, 4, 4, 5, 4, 5, 5, 6, 2, 3, 3, 4, 3, 4, 4, 5, 3, 4, 4, 5, 4, 5, 5, 6, 3, 4, 4, 5, 4, 5, 5, 6, 4, 5, 5, 6, 5, 6, 6, 7]) (List.append [1, 2, 2, 3, 2, 3, 3, 4, 2, 3, 3, 4, 3, 4, 4, 5, 2, 3, 3, 4, 3, 4, 4, 5, 3, 4, 4, 5, 4, 5, 5, 6, 2, 3, 3, 4, 3, 4, 4, 5, 3, 4, 4, 5, 4, 5, 5, 6, 3, 4, 4, 5, 4, 5, 5, 6, 4, 5, 5, 6, 5, 6, 6, 7] [2, 3, 3, 4, 3, 4, 4, 5, 3, 4, 4, 5, 4, 5, 5, 6, 3, 4, 4, 5, 4, 5, 5, 6, 4, 5, 5, 6, 5, 6, 6, 7, 3, 4, 4, 5, 4, 5, 5, 6, 4, 5, 5, 6, 5, 6, 6, 7, 4, 5, 5, 6, 5, 6, 6, 7, 5, 6, 6, 7, 6, 7, 7, 8])))) = Lib.pop8tab := by rfl

/-- The table's byte is how many bits are set. -/
theorem pop_byte : ∀ b : Nat, b < 256 → Lib.pop8 (b : Int) = (cnt b 8 : Int) := by decide +kernel

theorem low_byte (x : Int) (h0 : 0 ≤ x) (h1 : x < 4294967296) : bits .and .u32 x 255 = x % 256 := by
  rw [u32_and x 255 h0 h1 (by decide) (by decide)]
  rw [show (255 : Int).toNat = 255 from rfl, nat_mask8]
  omega
theorem byte_at (x d b : Nat) (D : Int) (hD : D = d) (hx : x < 4294967296) (hb : x / d % 256 = b) : bits .and .u32 ((x : Int) / D) 255 = (b : Int) := by
  subst hD
  have c : (x : Int) / (d : Int) = ((x / d : Nat) : Int) := by simp
  have l : x / d ≤ x := Nat.div_le_self _ _
  rw [c]
  clear c
  generalize x / d = y at l hb
  rw [low_byte _ (by omega) (by omega)]
  omega

theorem pop_sums (a b c d n : Nat) (ha : a ≤ 8) (hb : b ≤ 8) (hc : c ≤ 8) (hd : d ≤ 8) (hn : n = a + b + c + d) :
    IntKind.u8.wrap ((a : Int) + b) = (a : Int) + b ∧ IntKind.u8.wrap ((a : Int) + b + c) = (a : Int) + b + c ∧ IntKind.u8.wrap ((a : Int) + b + c + d) = (a : Int) + b + c + d ∧ wrap64 ((a : Int) + b + c + d) = (n : Int) := by
  refine ⟨?_, ?_, ?_, ?_⟩
  · rw [IntKind.wrap_u8]; omega
  · rw [IntKind.wrap_u8]; omega
  · rw [IntKind.wrap_u8]; omega
  · rw [IntWalk.wrap64_in _ ⟨by omega, by omega⟩]; omega
theorem byte_top (x b : Nat) (h : x / 16777216 = b) : (x : Int) / 16777216 = (b : Int) := by omega
theorem byte_low (x b : Nat) (hx : x < 4294967296) (h : x % 256 = b) : bits .and .u32 (x : Int) 255 = (b : Int) := by
  rw [low_byte _ (by omega) (by omega)]; omega
theorem pop_parts (b : Nat) (h : b < 256) : ∃ c : Nat, c = cnt b 8 ∧ c ≤ 8 ∧ Lib.pop8 (b : Int) = (c : Int) ∧ (b : Int) ≤ 255 :=
  ⟨_, rfl, cnt_le b 8, pop_byte b h, by omega⟩

set_option maxRecDepth 100000 in
set_option maxHeartbeats 2000000 in
theorem ones (x : Nat) (hx : x < 4294967296) (w : World) :
    Calls Tryd.prog 31 #[.int .u32 x] w fun e w' => e = .returned (.int .i64 (cnt x 32)) ∧ ∃ n, w' = w.drewN n := by
  obtain ⟨c3, d3, q3, p3, u3⟩ := pop_parts (x / 16777216) (by omega)
  obtain ⟨c2, d2, q2, p2, u2⟩ := pop_parts (x / 65536 % 256) (by omega)
  obtain ⟨c1, d1, q1, p1, u1⟩ := pop_parts (x / 256 % 256) (by omega)
  obtain ⟨c0, d0, q0, p0, u0⟩ := pop_parts (x % 256) (by omega)
  have C := cnt_bytes x
  rw [← d3, ← d2, ← d1, ← d0] at C
  obtain ⟨w1, w2, w3, w4⟩ := pop_sums c3 c2 c1 c0 _ q3 q2 q1 q0 C
  have F := Lib.hid w4
  have i3 := byte_top x _ rfl
  have i2 := byte_at x 65536 _ 65536 rfl hx rfl
  have i1 := byte_at x 256 _ 256 rfl hx rfl
  have i0 := byte_low x _ hx rfl
  generalize x / 16777216 = b3 at *
  generalize x / 65536 % 256 = b2 at *
  generalize x / 256 % 256 = b1 at *
  generalize x % 256 = b0 at *
  clear C d3 d2 d1 d0 w4 q3 q2 q1 q0
  go_enter Tryd.func31, Tryd.ntmps31
  go_wp2
  simp only [pop_fold]
  go_quiet (fail)
  go_wp2
  go_ret
  exact ⟨ret_int F.out, nq, rfl⟩

theorem rank_num (m : Nat) (slot : Int) : cnt (m % bitN slot) 32 = cnt m (inN slot) := cnt_mod_ge m (inN slot) 32 (Nat.le_of_lt (inN_lt slot))

theorem bt_rank (m : Nat) (slot : Int) (hm : m < 4294967296) (w : World) :
    Calls Tryd.prog 19 #[.int .u32 m, .int .i64 slot] w fun e w' => e = .returned (.int .i64 (cnt m (inN slot))) ∧ ∃ n, w' = w.drewN n := by
  have N := below_num m slot hm
  have R := Lib.hid (rank_num m slot)
  have b1 := bitN_lt slot
  have b0 := bitN_pos slot
  have l : m % bitN slot ≤ m := Nat.mod_le _ _
  generalize m % bitN slot = r at N R l
  go_enter Tryd.func19, Tryd.ntmps19
  go_wp2_with (first
    | (go_at_call 29; refine (bt_bit slot _).mono ?_; rintro e w' ⟨rfl, rfl⟩)
    | (go_at_call 31; refine (ones r (by omega) _).mono ?_; rintro e w1 ⟨rfl, n1, rfl⟩))
  go_ret
  exact ⟨ret_int (congrArg _ R.out), n1, rfl⟩
end Go.Proofs.YtieilbihfbghjaaDoor
