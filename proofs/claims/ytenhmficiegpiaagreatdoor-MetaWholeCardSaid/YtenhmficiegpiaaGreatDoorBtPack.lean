/-
  bits, by contract: the document's own Pack, and Pack. Each leaves what was there as it was.
-/
import Derived.Test.YtenhmficiegpiaaGreatDoorBtMeta
import Derived.Deep.RegionHeld3
import Derived.Lib.Hide
namespace Go.Proofs.YtenhmficiegpiaaGreatDoor
open Go.RowKit

/-- A Meta's word. -/
def packN (v o : Nat) (c t : Bool) : Nat := 65536 * v + 256 * o + flagN c t
/-- A Meta that has no word. -/
def Bad (v o : Int) : Prop := v < 0 ∨ 281474976710655 < v ∨ o < 0 ∨ 255 < o
theorem bad_or (v o : Int) : Bad v o ∨ ∃ a b : Nat, v = a ∧ o = b ∧ a ≤ 281474976710655 ∧ b ≤ 255 := by
  unfold Bad
  by_cases h1 : v < 0
  · exact .inl (.inl h1)
  · by_cases h2 : 281474976710655 < v
    · exact .inl (.inr (.inl h2))
    · by_cases h3 : o < 0
      · exact .inl (.inr (.inr (.inl h3)))
      · by_cases h4 : 255 < o
        · exact .inl (.inr (.inr (.inr h4)))
        · exact .inr ⟨v.toNat, o.toNat, by omega, by omega, by omega, by omega⟩

theorem ret_tup {a b : Int} {x : Value} (h : a = b) : Ending.returned (.tuple #[.int .u64 a, x]) = .returned (.tuple #[.int .u64 b, x]) := by rw [h]

theorem flagN_lt (c t : Bool) : flagN c t < 4 := by cases c <;> cases t <;> decide
theorem pack_join (v o : Nat) (c t : Bool) (hv : v ≤ 281474976710655) (ho : o ≤ 255) :
    ∃ a b d : Nat, IntKind.u64.wrap ((v : Int) * 65536) = (a : Int) ∧ IntKind.u64.wrap ((o : Int) * 256) = (b : Int) ∧ bits .or .u64 (a : Int) (b : Int) = (d : Int) ∧ bits .or .u64 (d : Int) (flagN c t : Int) = (packN v o c t : Int) := by
  have hf := flagN_lt c t
  refine ⟨v * 65536, o * 256, v * 65536 + o * 256, ?_, ?_, ?_, ?_⟩
  · rw [IntKind.wrap_u64]; omega
  · rw [IntKind.wrap_u64]; omega
  · rw [u64_or_nat _ _ (by omega) (by omega), nat_join 16 (v * 65536) (o * 256) (by omega) (by omega)]
  · rw [u64_or_nat _ _ (by omega) (by omega), nat_join 8 (v * 65536 + o * 256) (flagN c t) (by omega) (by omega)]
    unfold packN
    omega

/-- A Meta in memory, its four cells. -/
theorem four_cells {V : World} {r : Nat} {v o : Int} {c t : Bool} (h : Whole V r 113 #[.int .i64 v, .int .i64 o, .bool c, .bool t]) :
    V.cell? ⟨r, 0, none⟩ = some (.int .i64 v) ∧ V.cell? ⟨r, 1, none⟩ = some (.int .i64 o) ∧ V.cell? ⟨r, 2, none⟩ = some (.bool c) ∧ V.cell? ⟨r, 3, none⟩ = some (.bool t) :=
  ⟨h.at_ 0, h.at_ 1, h.at_ 2, h.at_ 3⟩

set_option maxHeartbeats 1000000 in
theorem pack_ok (v o : Nat) (c t : Bool) (hv : v ≤ 281474976710655) (ho : o ≤ 255) (w : World) :
    Calls Tryz.prog 49 #[.agg #[.int .i64 v, .int .i64 o, .bool c, .bool t]] w fun e w' => e = .returned (.tuple #[.int .u64 (packN v o c t), .nilIface]) ∧ Keeps (fun _ => False) w w' := by
  have w1 : IntKind.u64.wrap (v : Int) = (v : Int) := by rw [IntKind.wrap_u64]; omega
  have w2 : IntKind.u64.wrap (o : Int) = (o : Int) := by rw [IntKind.wrap_u64]; omega
  obtain ⟨a, b, d, u1, u2, u3, u4⟩ := pack_join v o c t hv ho
  have m0 := Whole.made w 113 #[.int .i64 v, .int .i64 o, .bool c, .bool t]
  have k0 := Lib.hid ((Keeps.refl (fun _ => False) w).alloc (.cells #[.int .i64 v, .int .i64 o, .bool c, .bool t] 113))
  have M := Lib.hid m0
  have s0 := Lib.hid (four_cells m0)
  have s1 := Lib.hid (four_cells m0.drew)
  clear m0
  go_enter Tryz.func49, Tryz.ntmps49
  go_wp2
  go_region_held3 (fun V => V.cell? ⟨w.heap.size, 0, none⟩ = some (.int .i64 (v : Int)) ∧ V.cell? ⟨w.heap.size, 1, none⟩ = some (.int .i64 (o : Int)) ∧ V.cell? ⟨w.heap.size, 2, none⟩ = some (.bool c) ∧ V.cell? ⟨w.heap.size, 3, none⟩ = some (.bool t)) (first | exact s1.out | exact hHeld | exact s0.out | exact s3.out)
    (first
      | (go_at_call 69; refine (bt_flags _ _ _ _ _).mono ?_; rintro e V ⟨rfl, hK⟩; have k3 := Lib.hid hK; have s3 := Lib.hid (four_cells (M.out.drew.keeps hK id)); clear hK))
  go_wp2
  go_ret2
  exact ⟨rfl, (k0.out.drew).trans_ k3.out⟩

/-- Why a Meta is refused. -/
def reason (v : Int) : ByteArray := if v < 0 ∨ 281474976710655 < v then ⟨#[118, 101, 114, 115, 105, 111, 110]⟩ else ⟨#[111, 119, 110, 101, 114]⟩

theorem pack_bad (v o : Int) (c t : Bool) (h : Bad v o) (w : World) :
    Calls Tryz.prog 49 #[.agg #[.int .i64 v, .int .i64 o, .bool c, .bool t]] w fun e w' => e = .returned (.tuple #[.int .u64 0, .iface 150 (.agg #[.string (reason v), .int .i64 2])]) ∧ Keeps (fun _ => False) w w' := by
  unfold Bad at h
  by_cases h1 : v < 0
  · clear h
    rw [show reason v = ⟨#[118, 101, 114, 115, 105, 111, 110]⟩ from if_pos (.inl h1)]
    go_enter Tryz.func49, Tryz.ntmps49
    go_wp2
    go_ret2
    exact ⟨rfl, (Keeps.refl _ w).alloc _⟩
  · by_cases h2 : 281474976710655 < v
    · clear h
      rw [show reason v = ⟨#[118, 101, 114, 115, 105, 111, 110]⟩ from if_pos (.inr h2)]
      go_enter Tryz.func49, Tryz.ntmps49
      go_wp2
      go_ret2
      exact ⟨rfl, (Keeps.refl _ w).alloc _⟩
    · rw [show reason v = ⟨#[111, 119, 110, 101, 114]⟩ from if_neg (by omega)]
      by_cases h3 : o < 0
      · clear h
        go_enter Tryz.func49, Tryz.ntmps49
        go_wp2
        go_ret2
        exact ⟨rfl, (Keeps.refl _ w).alloc _⟩
      · have h4 : 255 < o := by omega
        clear h
        go_enter Tryz.func49, Tryz.ntmps49
        go_wp2
        go_ret2
        exact ⟨rfl, (Keeps.refl _ w).alloc _⟩
end Go.Proofs.YtenhmficiegpiaaGreatDoor
