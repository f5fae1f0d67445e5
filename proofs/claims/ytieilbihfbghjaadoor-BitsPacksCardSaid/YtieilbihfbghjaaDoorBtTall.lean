/-
  bits, by contract: TrailingZeros64 (the library's: a table of 64 bytes, a package-level variable) and Tall. Conditions: the numbers are of their kinds; the variable holds what the library's text lays.
-/
import Derived.Test.YtieilbihfbghjaaDoorBtRefTall
import Derived.Test.YtieilbihfbghjaaDoorBtBits
namespace Go.Proofs.YtieilbihfbghjaaDoor
open Go.RowKit

/-- The library's table of 64 bytes. -/
def tz64 : List Nat := [0, 1, 56, 2, 57, 49, 28, 3, 61, 58, 42, 50, 38, 29, 17, 4, 62, 47, 59, 36, 45, 43, 51, 22, 53, 39, 33, 30, 24, 18, 12, 5, 63, 55, 48, 27, 60, 41, 37, 16, 46, 35, 44, 21, 52, 32, 23, 11, 54, 26, 40, 15, 34, 20, 31, 10, 25, 14, 19, 9, 13, 8, 7, 6]

/-- The package-level variable math/bits.deBruijn64tab holds its table. -/
def Glob (w : World) : Prop := ∀ i, i < 64 → w.cell? ⟨0, i, none⟩ = some (.int .u8 (tz64.getD i 0 : Nat))

theorem tz_place : ∀ t : Nat, t < 64 → tz64.getD (2 ^ t * 285870213051353865 % 18446744073709551616 / 288230376151711744) 0 = t := by decide +kernel

theorem lone (x t : Nat) (ht : Tz x t) (h0 : x ≠ 0) (hx : x < 18446744073709551616) : bits .and .u64 (x : Int) (IntKind.u64.wrap (-(x : Int))) = ((2 ^ t : Nat) : Int) := by
  have h64 := tz_lt x t ht h0 hx
  have e : IntKind.u64.wrap (-(x : Int)) = ((18446744073709551616 - x : Nat) : Int) := by rw [IntKind.wrap_u64]; omega
  rw [e, u64_and_nat _ _ hx (by omega), tz_and x t ht h64 h0 hx]

theorem tz_zero64 (w : World) :
    Calls Tryd.prog 32 #[.int .u64 0] w fun e w' => e = .returned (.int .i64 64) ∧ w = w' := by
  go_enter Tryd.func32, Tryd.ntmps32
  go_wp2
  go_ret
  exact ⟨rfl, rfl⟩

theorem tz_div (p : Nat) : IntKind.u64.wrap ((p : Int) * 285870213051353865) / 288230376151711744 = ((p * 285870213051353865 % 18446744073709551616 / 288230376151711744 : Nat) : Int) := by
  rw [IntKind.wrap_u64]
  have e : (p : Int) * 285870213051353865 = ((p * 285870213051353865 : Nat) : Int) := by simp
  rw [e]
  generalize p * 285870213051353865 = y
  omega
theorem tz_in (y : Nat) : y % 18446744073709551616 / 288230376151711744 < 64 := by omega
theorem tz_index (x t : Nat) (ht : Tz x t) (h0 : x ≠ 0) (hx : x < 18446744073709551616) (h64 : t < 64) :
    ∃ p j : Nat, bits .and .u64 (x : Int) (IntKind.u64.wrap (-(x : Int))) = (p : Int) ∧ IntKind.u64.wrap ((p : Int) * 285870213051353865) / 288230376151711744 = (j : Int) ∧ j < 64 ∧ tz64.getD j 0 = t :=
  ⟨2 ^ t, _, lone x t ht h0 hx, tz_div _, tz_in _, tz_place t h64⟩

theorem tz_any (x t : Nat) (ht : Tz x t) (hx : x < 18446744073709551616) (w : World) (hg : Glob w) :
    Calls Tryd.prog 32 #[.int .u64 x] w fun e w' => e = .returned (.int .i64 t) ∧ w = w' := by
  by_cases h0 : x = 0
  · subst h0
    rw [tz_zero t ht]
    exact tz_zero64 w
  · have h64 := tz_lt x t ht h0 hx
    obtain ⟨p, j, L, J, jl, P⟩ := tz_index x t ht h0 hx h64
    have n0 : ((x : Int) == 0) = false := by simp; omega
    have c := hg j jl
    rw [P] at c
    have u : (j : Int) < 64 := by omega
    clear P hg ht
    go_enter Tryd.func32, Tryd.ntmps32
    go_wp2
    go_ret
    exact ⟨ret_int rfl, rfl⟩

theorem bt_tall (x t : Nat) (most : Int) (ht : Tz x t) (hx : x < 18446744073709551616) (w : World) (hg : Glob w) :
    Calls Tryd.prog 21 #[.int .u64 x, .int .i64 most] w fun e w' => e = .returned (.int .i64 (tallI t most)) ∧ w = w' := by
  have G := Lib.hid hg
  have T := Lib.hid ht
  have h64 := ht.1
  have f : (if most < 1 then 1 else if most < 1 + (t : Int) then most else 1 + (t : Int)) = tallI t most := rfl
  clear hg ht
  by_cases c1 : most < 1
  · rw [if_pos c1] at f
    by_cases t0 : t = 0
    · subst t0
      have F := Lib.hid f
      clear f
      go_enter Tryd.func21, Tryd.ntmps21
      go_wp2_with (go_at_call 32; refine (tz_any x 0 T.out hx _ G.out).mono ?_; rintro e w' ⟨rfl, rfl⟩)
      go_ret
      exact ⟨ret_int F.out, rfl⟩
    have t1 : 1 ≤ t := by omega
    clear t0
    have F := Lib.hid f
    clear f
    go_enter Tryd.func21, Tryd.ntmps21
    go_wp2_with (go_at_call 32; refine (tz_any x t T.out hx _ G.out).mono ?_; rintro e w' ⟨rfl, rfl⟩)
    go_ret
    exact ⟨ret_int F.out, rfl⟩
  · rw [if_neg c1] at f
    by_cases c2 : most < 1 + (t : Int)
    · rw [if_pos c2] at f
      have F := Lib.hid f
      clear f
      go_enter Tryd.func21, Tryd.ntmps21
      go_wp2_with (go_at_call 32; refine (tz_any x t T.out hx _ G.out).mono ?_; rintro e w' ⟨rfl, rfl⟩)
      go_ret
      exact ⟨ret_int F.out, rfl⟩
    · rw [if_neg c2] at f
      have F := Lib.hid f
      clear f
      go_enter Tryd.func21, Tryd.ntmps21
      go_wp2_with (go_at_call 32; refine (tz_any x t T.out hx _ G.out).mono ?_; rintro e w' ⟨rfl, rfl⟩)
      go_ret
      exact ⟨ret_int F.out, rfl⟩
end Go.Proofs.YtieilbihfbghjaaDoor
