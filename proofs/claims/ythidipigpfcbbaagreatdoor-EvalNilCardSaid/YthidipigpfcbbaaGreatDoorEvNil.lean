/-
  concordlaw11.EvalNil.
-/
import Derived.Test.YthidipigpfcbbaaGreatDoorEvLaw
import Derived.Test.YthidipigpfcbbaaGreatDoorEvNilP
import Derived.Test.YthidipigpfcbbaaGreatDoorPgWeight
namespace Go.Proofs.YthidipigpfcbbaaGreatDoor
open Go.RowKit Go.Maps Go.Extern.Stop Go.Stop Go.Extern

set_option maxRecDepth 100000 in
set_option maxHeartbeats 1000000 in
theorem evnil_any {w : World} {vo : Option Addr} {n c : Nat} (hg : Glob w) :
    Calls Tryz.prog 6 #[.slice vo n c] w fun e w' => e = .returned (.bool true) ∧ Keeps (fun _ => False) w w' := by
  have CR := Lib.hid (run_nil11 (w := w) (vo := vo) (n := n) (c := c))
  have HG := Lib.hid hg
  clear hg
  go_enter Tryz.func6, Tryz.ntmps6
  go_wp2_with fail
  refine CR.out.mono ?_
  rintro e w1 ⟨rfl, hK⟩
  unfold evalV
  obtain ⟨V2, hV2⟩ : ∃ V, V = w1.alloc (.cells #[.int .i64 0, .slice none 0 0] 32) := ⟨_, rfl⟩
  have K2 : Keeps (fun _ => False) w V2 := by rw [hV2]; exact hK.alloc _
  have B2 := Lib.hid (show Whole V2 w1.heap.size 32 #[.int .i64 0, .slice none 0 0] by rw [hV2]; exact Whole.made _ _ _)
  have k3 : Keeps (fun _ => False) V2 (V2.alloc (.cells #[.slice vo n c] 24)) := (Keeps.refl _ V2).alloc _
  have CA := Lib.hid (all_nil11 (HG.out.keeps (K2.trans k3 fun _ _ => id) id) (Whole.made V2 24 #[.slice vo n c]))
  have HV := Lib.hid hV2
  have K2' := Lib.hid K2
  have k3' := Lib.hid k3
  clear hK CR hV2 K2 k3
  go_upto_region 2 with fail
  rw [← HV.out]
  clear HV
  go_wp2_with fail
  refine CA.out.mono ?_
  rintro e w4 ⟨p, rfl, _, hW, hK⟩
  have k4 := k3'.out.trans hK fun _ _ => id
  have K4 := Lib.hid (K2'.out.trans k4 fun _ _ => id)
  have B4 := B2.out.keeps k4 id
  have d0 := B4.at_ 0
  have d1 := B4.at_ 1
  have CS := Lib.hid (eval_yes (w := w4) (k := 0) (l := 0) (a := none) (b := none) (n := 0) (c := 0) (m := 0) (d := 0) (L := []) (M := []) (World.ownsRow_nil ..) (World.ownsRow_nil ..) (by decide) rfl rfl)
  have HW := Lib.hid hW
  have CL := Lib.hid (fun V (k : Keeps (fun _ => False) w V) => alive_any11 (HG.out.keeps k id))
  clear hK k4 hW CA
  go_wp2_with fail
  refine CS.out.mono ?_
  rintro e w5 ⟨rfl, hK⟩
  have K5 := Lib.hid (K4.out.trans hK fun _ _ => id)
  have W5 := Lib.hid (HW.out.keeps hK id)
  clear hK CS
  go_wp2_with fail
  refine (no_errno 1 (by decide) (by decide) _).mono ?_
  rintro e w6 ⟨rfl, rfl⟩
  go_wp2_with fail
  refine (no_fault p 0 1 (by decide) (by decide) _ (W5.out.at_ 1)).mono ?_
  rintro e w6 ⟨rfl, rfl⟩
  go_wp2_with fail
  refine (CL.out _ K5.out).mono ?_
  rintro e w6 ⟨rfl, hK⟩
  have K6 := Lib.hid (K5.out.trans hK fun _ _ => id)
  clear hK CL
  go_wp2_with fail
  go_ret
  exact ⟨rfl, K6.out⟩
end Go.Proofs.YthidipigpfcbbaaGreatDoor
