/-
  blocks: placeOf, (block).ref, (block).head and (*Blocks).none by contract.
-/
import Derived.Test.YtenhmficiegpiaaGreatDoorBkState
import Derived.Test.YtenhmficiegpiaaGreatDoorWdOps
import Derived.Laws.Bits64b
import Derived.Laws.BitsLemmas
namespace Go.Proofs.YtenhmficiegpiaaGreatDoor
open Go.RowKit Go.Extern.Stop Go.Stop Go.Extern

theorem and_low (r : Nat) (h : r < 18446744073709551616) : bits .and .u64 (r : Int) 4294967295 = ((r % 4294967296 : Nat) : Int) := by
  have h1 := bits_and_u64_nat r 4294967295 h (by decide)
  rw [show (4294967295 : Nat) = 2 ^ 32 - 1 from rfl, Nat.and_two_pow_sub_one_eq_mod] at h1
  exact h1

theorem or_sum (g p : Nat) (hg : g < 4294967296) (hp : p < 4294967296) : bits .or .u64 ((g : Int) * 4294967296) (p : Int) = ((g * 4294967296 + p : Nat) : Int) := by
  have h1 := bits_or_u64_nat (g * 4294967296) p (by omega) (by omega)
  rw [show (g : Int) * 4294967296 = ((g * 4294967296 : Nat) : Int) by simp, h1]
  have h2 := Nat.two_pow_add_eq_or_of_lt (i := 32) (b := p) (by omega) g
  have h3 : g * 4294967296 = 2 ^ 32 * g := by omega
  rw [h3, ← h2]

set_option maxRecDepth 100000 in
theorem placeOf_any (r : Nat) (h : r < 18446744073709551616) (w : World) :
    Calls Tryz.prog 37 #[.int .u64 r] w fun e w' => e = .returned (.int .i64 ((r % 4294967296 : Nat) : Int)) ∧ w = w' := by
  have hb := and_low r h
  have h2 : r % 4294967296 < 4294967296 := Nat.mod_lt _ (by decide)
  generalize r % 4294967296 = p at hb h2 ⊢
  go_enter Tryz.func37, Tryz.ntmps37
  go_wp2
  go_ret
  exact ⟨rfl, rfl⟩

set_option maxRecDepth 100000 in
theorem ref_any (s : Int) (g p : Nat) (l : Bool) (hg : g < 4294967296) (hp : p < 4294967296) (w : World) :
    Calls Tryz.prog 63 #[.agg #[.int .i64 s, .int .u32 g, .bool l], .int .i64 p] w fun e w' => e = .returned (.int .u64 ((g * 4294967296 + p : Nat) : Int)) ∧ Keeps (fun _ => False) w w' := by
  have hb := or_sum g p hg hp
  generalize g * 4294967296 + p = x at hb ⊢
  go_enter Tryz.func63, Tryz.ntmps63
  go_wp2
  go_ret
  exact ⟨rfl, (Keeps.refl _ w).alloc _⟩

set_option maxRecDepth 100000 in
theorem head_any (s : Int) (g : Nat) (l : Bool) (w : World) :
    Calls Tryz.prog 87 #[.agg #[.int .i64 s, .int .u32 g, .bool l]] w fun e w' => (∃ h : Int, e = .returned (.int .u64 h)) ∧ Keeps (fun _ => False) w w' := by
  go_enter Tryz.func87, Tryz.ntmps87
  go_wp2
  all_goals
    go_ret
    exact ⟨⟨_, rfl⟩, (Keeps.refl _ w).alloc _⟩
end Go.Proofs.YtenhmficiegpiaaGreatDoor
