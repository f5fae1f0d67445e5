/-
  BitsSlots: called with any hash, concordlaw03.BitsSlots returns true and changes nothing. No conditions but the tied variable.
-/
import Derived.Test.YtieilbihfbghjaaDoorBtAlive
import Derived.Test.YtieilbihfbghjaaDoorBtLaid
import Derived.Test.YtieilbihfbghjaaDoorRows
import Derived.Test.YtieilbihfbghjaaDoorCards
import Derived.Test.YtieilbihfbghjaaDoorTie
import Derived.ProofKit
import Derived.OpenShut
import Derived.ChangeOld
import Derived.SevenTiedAt
namespace Go.Proofs.YtieilbihfbghjaaDoor
open Go.ChangeShapes Go.WideShapes Go.ChangeAt Go.RowKit

/-- The rest of a hash from level k on is what is behind it times 32, and its slot. -/
theorem slot_down (h k x : Nat) (hx : x = h / 2 ^ (5 * (k + 1))) : 32 * x + h / 2 ^ (5 * k) % 32 = h / 2 ^ (5 * k) := by
  subst hx
  have e : h / 2 ^ (5 * (k + 1)) = h / 2 ^ (5 * k) / 32 := by rw [Nat.mul_add, Nat.pow_add, Nat.div_div_eq_div_mul]
  rw [e]; omega
theorem lvl_of (k : Nat) (h : k ≤ 6) : lvl (k : Int) = k := by
  unfold lvl
  rw [if_neg (by omega), if_neg (by omega)]; simp

theorem bitsSlots_walk (h : Int) (w : World) (w0 : (Lit.int .u32 h).wf = true) (hg : Glob w) :
    Calls Tryd.prog 4 #[.int .u32 h] w fun e w' => e = .returned (.bool true) ∧ Below w.heap.size w w' := by
  obtain ⟨n, rfl, hn⟩ := u32_of w0
  have G := Lib.hid hg
  clear hg w0
  go_enter Tryd.func4, Tryd.ntmps4
  go_wp2
  go_loop [3, 4] (fun o l => ∃ k : Nat, k ≤ 7 ∧ l = .int .i64 ((k : Int) - 1) ∧ ∃ x : Nat, x = n / 2 ^ (5 * k) ∧ o = .int .u32 x) (fun _ l => (intOf l + 1).toNat)
  case atStart => exact ⟨7, by decide, rfl, 0, by rw [Nat.div_eq_of_lt (Nat.lt_of_lt_of_le hn (by decide))], rfl⟩
  case round =>
    obtain ⟨k, hk, rfl, x, hx, rfl⟩ := hrel
    cases k with
    | zero =>
      have e : x = n := by simpa using hx
      subst e
      clear hx
      go_wp2_with (go_at_call 13; refine (alive_any _ G.out).mono ?_; rintro e w' ⟨rfl, rfl⟩)
      go_ret
      exact ⟨rfl, Below.refl _ _⟩
    | succ j =>
      have st := slot_down n j x hx
      have d : n / 2 ^ (5 * j) ≤ n := Nat.div_le_self _ _
      have S := bt_slot n (j : Int) hn
      rw [lvl_of j (by omega)] at S
      have S' := fun w => Lib.hid (S w)
      clear S
      have sl := slot_lt n j
      generalize n / 2 ^ (5 * j) % 32 = s at st S' sl
      generalize hy : n / 2 ^ (5 * j) = y at st d
      have Y := Lib.hid hy
      have ST := Lib.hid st
      have b : 32 * x + s ≤ 4294967295 := by omega
      have e1 : ((j + 1 : Nat) : Int) - 1 = (j : Int) := by omega
      rw [e1]
      clear hx hy st e1 d
      go_wp2_with (go_at_call 11; refine ((S' _).out).mono ?_; rintro e w' ⟨rfl, rfl⟩)
      go_round
      case rel => exact ⟨j, by omega, rfl, 32 * x + s, by rw [ST.out, Y.out], by go_num⟩
      case measure => simp [intOf]

theorem bitsSlots_own : ownKnob Tryd.prog.godebug = none := by kernel_rfl
theorem bitsSlots_laidOut : laidOutB Tryd.prog = true := by kernel_rfl

set_option maxRecDepth 100000 in
theorem bitsSlots_lifted (os : Os) (started : os.Started) (H : Type) (enc : TypeId × Value → H) :
    ReturnsInHanded {} Tryd.checked os 4 .any (fun w args => (Rows.bitsSlotsSpec.pre enc Tryd.prog Tryd.f4 [] false w args ∧ laidMetH Tryd.prog btLaid w) ∧ sizedMet enc Tryd.prog Tryd.f4 (OpenSpec.ofChange Rows.bitsSlotsSpec) false w args)
      (Rows.bitsSlotsSpec.post enc Tryd.prog Tryd.f4 false true false false) := by
  refine returnsInHanded_of_change_and (C := Tryd.checked) (X := fun w _ => laidMetH Tryd.prog btLaid w) (fun _ _ _ hh h => h.of_heap hh) bitsSlots_own started (by kernel_rfl) Tryd.func4
    (ChangeSpec.witness_shaped (enc := enc) (C := Tryd.checked) (os := os) (X := fun w _ => laidMetH Tryd.prog btLaid w) false (World.doorLaid Tryd.prog 400 os) #[.int .u32 0] 8 rfl (bt_shaped os _) (by kernel_rfl) (by kernel_rfl) (by kernel_rfl) (bt_met os _)) ?_
  intro W base args ds gs before hval0 hW hcnd _ hL _
  have hGl := bt_glob hL
  clear hcnd
  have hval : ∀ (j : Nat) t v, Tryd.f4.params[j]? = some t → args[j]? = some v → Value.okWide Tryd.prog W .any base t v := hval0
  have hW' := hW
  obtain ⟨p, q, hA0, hV, rfl, hfz, hnd⟩ := hW
  have hA : DataW.TrodAll enc Tryd.prog W 0 (fun _ => true) true Tryd.f4.params.toList args.toList ds p := hA0
  rw [Tryd.params4] at hA hval
  obtain ⟨v0, vs0, d0, ds0, p0, q0, hargs, rfl, rfl, h0, r0⟩ := trodAll_cons hA
  obtain ⟨rfl, rfl, rfl⟩ := trodAll_nil r0
  obtain rfl : args = #[v0] := by cases args; simp_all
  obtain ⟨rfl, rfl⟩ := trodVars_none hV
  have k0 := h0
  have lt0 : ∀ x ∈ p0, x.block < W.heap.size := by obtain ⟨m, hm⟩ := k0; exact DataW.trod_lt m _ _ _ hm
  obtain ⟨a0, rfl, e0, f0, w0⟩ := open_int Tryd.underlying22 (hval 0 22 v0 rfl rfl) h0
  clear e0 f0
  clear hA0 hval0
  refine (bitsSlots_walk a0 W w0 hGl).mono fun e W' ⟨he, bel⟩ => ?_
  subst he
  exact ⟨_, rfl, _, _, _, [], _, [], hW', trodAll_mk1 (shut_bool Tryd.underlying4 _), (trodAll_cons_mk (Below.trod bitsSlots_laidOut (by kernel_rfl) (of_decide_eq_true (by kernel_rfl)) k0 bel lt0) trodAll_mk0), rfl, bel.frame _, fun h => by cases h⟩

/-- The statement BitsSlots. -/
theorem bitsSlots_holds : Rows.BitsSlotsSaid :=
  OpenClaim.holds_of_wide 4 Tryd.f4 rfl rfl rfl rfl rfl rfl rfl ⟨rfl, rfl, rfl, rfl, rfl⟩ rfl rfl rfl rfl rfl (by kernel_rfl) Tryd.func4 (by kernel_rfl)
    (of_decide_eq_true (by kernel_rfl)) (by unfold Func.isWrapper; first | (rw [if_pos (by decide +kernel)]; kernel_rfl) | (rw [if_neg (by decide +kernel)]; exact ⟨rfl, rfl⟩))
    (fun os started H enc _ => bitsSlots_lifted os started H enc)
#print axioms bitsSlots_holds

/-- The card: the row, what it lists tied to the program's text. -/
theorem bitsSlots_card : Rows.BitsSlotsCardSaid :=
  Claim7.holds_tied_plain_at .later [] [.data] true Rows.bitsSlotsCard.stood.harness true
    bitsSlots_holds (fun _ h => by cases h) (by kernel_rfl) (fun _ h => by cases h) bitsSlots_row_tie rfl ⟨rfl, rfl⟩ (by kernel_rfl) rfl
    (fun f fn hf hfn => by
      obtain rfl : f = 4 := Option.some.inj ((show Tryd.prog.funcNamed "concord/concordlaw03.BitsSlots" = some 4 by kernel_rfl).symm.trans hf) |>.symm
      obtain rfl : fn = Tryd.f4 := (Option.some.inj (Tryd.func4.symm.trans hfn)).symm
      exact ⟨by kernel_rfl, fun j t ht => by
        rw [Tryd.params4] at ht
        have hm : t ∈ Tryd.f4.params.toList := by rw [Tryd.params4]; simpa using Array.mem_of_getElem? ht
        have hall : (Tryd.f4.params.toList.all fun u => !Tryd.prog.wantsStandIn u) = true := by kernel_rfl
        exact (show Tryd.prog.wantsStandIn t = false by simpa using List.all_eq_true.1 hall t hm)⟩)
    (by kernel_rfl)
#print axioms bitsSlots_card
end Go.Proofs.YtieilbihfbghjaaDoor
