/-
  bits, the document's own answer of Tall (concordref03), by contract. The world stays as it was. Conditions: the numbers are of their kinds.
-/
import Derived.Test.YtieilbihfbghjaaDoorBtRef
import Derived.BigQuiet
namespace Go.Proofs.YtieilbihfbghjaaDoor
open Go.RowKit

/-- How tall, by where the lowest bit that is set stands. -/
def tallI (t : Nat) (most : Int) : Int := if most < 1 then 1 else if most < 1 + t then most else 1 + t

set_option maxHeartbeats 1000000 in
theorem ref_tall (x t : Nat) (most : Int) (ht : Tz x t) (hx : x < 18446744073709551616) (w : World) :
    Calls Tryd.prog 22 #[.int .u64 x, .int .i64 most] w fun e w' => e = .returned (.int .i64 (tallI t most)) ∧ w = w' := by
  have h64 := ht.1
  have T := Lib.hid ht
  clear ht
  go_enter Tryd.func22, Tryd.ntmps22
  go_wp2
  go_loop [5, 6] (fun c i => ∃ k : Nat, k ≤ t ∧ i = .int .i64 k ∧ c = .int .i64 (1 + k)) (fun _ i => 64 - (intOf i).toNat)
  case atStart => exact ⟨0, Nat.zero_le _, rfl, rfl⟩
  case round =>
    obtain ⟨k, hk, rfl, rfl⟩ := hrel
    by_cases hlt : k < t
    · have b := Lib.hid (bitB_no (T.out.2.1 k hlt))
      go_wp2_with (go_at_call 28; refine (ref_bit x k _ rfl false b.out hx (by omega) _).mono ?_; rintro e w' ⟨rfl, rfl⟩)
      go_round
      case rel => exact ⟨k + 1, by omega, by go_num, by go_num⟩
      case measure => simp [intOf]; omega
    · have e5 : k = t := by omega
      have fin := Lib.hid (show (if most < 1 then 1 else if most < 1 + (k : Int) then most else 1 + (k : Int)) = tallI t most by rw [e5]; rfl)
      have b' : Hid (k < 64 → bitB x k = true) := Lib.hid (fun h => by rw [e5]; exact bitB_yes (T.out.2.2 (by omega)))
      clear e5
      have f := fin.out
      clear fin
      by_cases c1 : most < 1
      · rw [if_pos c1] at f
        have F := Lib.hid f
        clear f
        by_cases h : k < 64
        all_goals
          go_wp2_with (go_at_call 28; refine (ref_bit x k _ rfl true (b'.out h) hx (by omega) _).mono ?_; rintro e w' ⟨rfl, rfl⟩)
          go_ret
          exact ⟨ret_int F.out, rfl⟩
      · rw [if_neg c1] at f
        by_cases c2 : most < 1 + (k : Int)
        · rw [if_pos c2] at f
          have F := Lib.hid f
          clear f
          by_cases h : k < 64
          all_goals
            go_wp2_with (go_at_call 28; refine (ref_bit x k _ rfl true (b'.out h) hx (by omega) _).mono ?_; rintro e w' ⟨rfl, rfl⟩)
            go_ret
            exact ⟨ret_int F.out, rfl⟩
        · rw [if_neg c2] at f
          have F := Lib.hid f
          clear f
          by_cases h : k < 64
          all_goals
            go_wp2_with (go_at_call 28; refine (ref_bit x k _ rfl true (b'.out h) hx (by omega) _).mono ?_; rintro e w' ⟨rfl, rfl⟩)
            go_ret
            exact ⟨ret_int F.out, rfl⟩
end Go.Proofs.YtieilbihfbghjaaDoor
