/-
  concordlaw01.alive returns true; nothing that was there has changed.
-/
import Derived.Test.YtokcchgccfpbpaaDoorWdCalls
import Derived.Test.YtokcchgccfpbpaaDoorWdNo
namespace Go.Proofs.YtokcchgccfpbpaaDoor
open Go.RowKit Go.Extern.Stop Go.Stop Go.Extern

theorem new_two (w : World) : Calls Tryd.prog 11 #[.int .i64 2] w fun e w' => Made w 2 e w' := new_in 2 (by decide) (by decide) w

theorem alive_store (a bw : Nat) (w : World) (h : Arena w a bw [0, 0] 0) :
    Calls Tryd.prog 14 #[.pointer (some ⟨a, 0, none⟩), .int .i64 1, .int .u64 7] w fun e w' => Done w a bw [0, 7] 0 .nilIface e w' := store_in a bw [0, 0] 0 1 7 (by decide) (by decide) w h
theorem alive_cas1 (a bw : Nat) (w : World) (h : Arena w a bw [0, 7] 1) :
    Calls Tryd.prog 15 #[.pointer (some ⟨a, 0, none⟩), .int .i64 1, .int .u64 7, .int .u64 8] w fun e w' => Done w a bw [0, 8] 1 (.tuple #[.bool true, .nilIface]) e w' := cas_yes a bw [0, 7] 1 1 7 8 rfl (by decide) (by decide) w h
theorem alive_cas2 (a bw : Nat) (w : World) (h : Arena w a bw [0, 8] 2) :
    Calls Tryd.prog 15 #[.pointer (some ⟨a, 0, none⟩), .int .i64 1, .int .u64 7, .int .u64 9] w fun e w' => Done w a bw [0, 8] 2 (.tuple #[.bool false, .nilIface]) e w' := cas_no a bw [0, 8] 2 1 7 9 (by decide) (by decide) (by decide) w h
theorem alive_load (a bw : Nat) (w : World) (h : Arena w a bw [0, 8] 3) :
    Calls Tryd.prog 13 #[.pointer (some ⟨a, 0, none⟩), .int .i64 1] w fun e w' => Done w a bw [0, 8] 3 (.tuple #[.int .u64 8, .nilIface]) e w' := load_in a bw [0, 8] 3 1 (by decide) (by decide) w h
theorem alive_count (a bw : Nat) (w : World) (h : Arena w a bw [0, 8] 4) :
    Calls Tryd.prog 9 #[.pointer (some ⟨a, 0, none⟩)] w fun e w' => e = .returned (.int .i64 4) ∧ w = w' := count_there a bw [0, 8] 4 w h

theorem Keeps.its {S : Nat → Prop} {u v w : World} {a bw : Nat} (h : Keeps S u v) (k : Keeps (Its a bw) v w) (ha : a < u.heap.size → S a) (hb : bw < u.heap.size → S bw) : Keeps S u w :=
  h.trans k fun x hx hT => by rcases hT with rfl | rfl <;> first | exact ha hx | exact hb hx

theorem alive_any (w : World) :
    Calls Tryd.prog 5 #[] w fun e w' => e = .returned (.bool true) ∧ Keeps (fun _ => False) w w' := by
  go_enter Tryd.func5, Tryd.ntmps5
  go_wp2_with fail
  refine (new_two _).mono ?_
  rintro e w1 ⟨a, bw, rfl, hA, ha, hb, hK⟩
  have k1 := Lib.hid hK
  have a1 := Lib.hid hA
  have la := Lib.hid ha
  have lb := Lib.hid hb
  clear hK hA ha hb
  go_wp2_with (go_at_call 12; refine (no_nil _).mono ?_; rintro e w' ⟨rfl, rfl⟩)
  refine (alive_store a bw _ a1.out).mono ?_
  rintro e w2 ⟨rfl, hA, hK⟩
  have k2 := Lib.hid (k1.out.its hK (fun h => absurd h (by have := la.out; omega)) (fun h => absurd h (by have := lb.out; omega)))
  have a2 := Lib.hid hA
  clear hK hA
  go_wp2_with (go_at_call 12; refine (no_nil _).mono ?_; rintro e w' ⟨rfl, rfl⟩)
  refine (alive_cas1 a bw _ a2.out).mono ?_
  rintro e w3 ⟨rfl, hA, hK⟩
  have k3 := Lib.hid (k2.out.its hK (fun h => absurd h (by have := la.out; omega)) (fun h => absurd h (by have := lb.out; omega)))
  have a3 := Lib.hid hA
  clear hK hA
  go_wp2_with fail
  refine (alive_cas2 a bw _ a3.out).mono ?_
  rintro e w4 ⟨rfl, hA, hK⟩
  have k4 := Lib.hid (k3.out.its hK (fun h => absurd h (by have := la.out; omega)) (fun h => absurd h (by have := lb.out; omega)))
  have a4 := Lib.hid hA
  clear hK hA
  go_wp2_with fail
  refine (alive_load a bw _ a4.out).mono ?_
  rintro e w5 ⟨rfl, hA, hK⟩
  have k5 := Lib.hid (k4.out.its hK (fun h => absurd h (by have := la.out; omega)) (fun h => absurd h (by have := lb.out; omega)))
  have a5 := Lib.hid hA
  clear hK hA
  go_wp2_with (go_at_call 12; refine (no_nil _).mono ?_; rintro e w' ⟨rfl, rfl⟩)
  refine (alive_count a bw _ a5.out).mono ?_
  rintro e w6 ⟨rfl, rfl⟩
  go_wp2_with fail
  go_ret
  exact ⟨rfl, k5.out⟩
end Go.Proofs.YtokcchgccfpbpaaDoor
