/-
  What the listed variable math/bits.deBruijn64tab gives the walks, and a world that meets the condition: the one that the program's own start leaves.
-/
import Derived.Test.YtieilbihfbghjaaDoorBtTall
import Derived.Test.YtieilbihfbghjaaDoorRows
import Derived.ProofKit
import Derived.LaidMore
import Derived.Lib.LaidTab
import Derived.OpenShut
import Derived.Below
namespace Go.Proofs.YtieilbihfbghjaaDoor
open Go.ChangeShapes Go.WideShapes Go.ChangeAt Go.RowKit

def btLaid : List (String × DataW Unit) := [("math/bits.deBruijn64tab", Rows.laid_math_bits_deBruijn64tab)]
theorem bt_own : ownKnob Tryd.prog.godebug = none := by kernel_rfl
theorem bt_laidOut : laidOutB Tryd.prog = true := by kernel_rfl
theorem bt_gN : Tryd.prog.globalNamed "math/bits.deBruijn64tab" = some 0 := by kernel_rfl
theorem bt_gT : (Tryd.prog.globals[0]?).map (·.type) = some 54 := by kernel_rfl
theorem bt_data : (Rows.laid_math_bits_deBruijn64tab : DataW Unit) = Lib.tabData .u8 (tz64.map Int.ofNat) := by kernel_rfl

/-- What the listed variable gives the walks. -/
theorem bt_glob {W : World} (h : laidMetH Tryd.prog btLaid W) : Glob W := by
  rw [MakeChecks.laidMetH_plain _ _ _ (by kernel_rfl)] at h
  unfold btLaid at h
  rw [bt_data] at h
  have hT := Lib.tabIs_of_head bt_gN bt_gT Tryd.underlying54 Tryd.underlying5 (by kernel_rfl) (by kernel_rfl) h
  intro i hi
  have hc := hT.cell bt_gN i (by simpa [tz64] using hi)
  rw [hc]
  have e : (tz64.map Int.ofNat).getD i 0 = ((tz64.getD i 0 : Nat) : Int) := by
    have hl : i < tz64.length := by simpa [tz64] using hi
    simp [List.getD, hl]
  rw [e]

/-- The program's own start meets the condition. -/
theorem bt_met (os : Os) (args : Array Value) : laidMetH Tryd.prog btLaid ((World.doorLaid Tryd.prog 400 os).forCall (fun _ _ => 0) ⟨#[], args, []⟩).memory := by
  rw [MakeChecks.laidMetH_plain _ _ _ (by kernel_rfl)]
  exact laidMet_of_run' 8 (by kernel_rfl) (by kernel_rfl)
theorem bt_shaped (os : Os) (args : Array Value) : World.Shaped Tryd.prog ((World.doorLaid Tryd.prog 400 os).forCall (fun _ _ => 0) ⟨#[], args, []⟩) := World.shaped_of_RefB (by kernel_rfl) (by kernel_rfl)

/-- A number of 32 bits, of 64 bits. -/
theorem u32_of {h : Int} (hf : (Lit.int .u32 h).wf = true) : ∃ n : Nat, h = n ∧ n < 4294967296 := by
  simp [Lit.wf, IntKind.min, IntKind.max, IntKind.signed, IntKind.bits] at hf
  exact ⟨h.toNat, by omega, by omega⟩
theorem u64_of {h : Int} (hf : (Lit.int .u64 h).wf = true) : ∃ n : Nat, h = n ∧ n < 18446744073709551616 := by
  simp [Lit.wf, IntKind.min, IntKind.max, IntKind.signed, IntKind.bits] at hf
  exact ⟨h.toNat, by omega, by omega⟩
end Go.Proofs.YtieilbihfbghjaaDoor
