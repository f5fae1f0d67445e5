/-
  NARROWER THAN 'FOR EVERY INPUT', by the rows' own cells (each row's printed sentence says how): BitsHash: laid · BitsSlots: laid · BitsMaps: laid · BitsRanks: laid · BitsTall: laid · BitsPacks: laid.
  DERIVED. THE GIVEN ROWS OF THIS SEAT. 6 by the template 'for every input the law returns true; each argument reads behind the call as it read before'; 0 by the template 'total and deterministic' (their statements: YtieilbihfbghjaaDoorTotals.lean).
  GIVEN WITH THE SEED: the statements are not yours to turn. If you find one false, say at which input.
  Laid BY PROGRAM, IN A SANDBOX (cutbox-rows.mjs): the forced cells as the released guide's own fill.sh prints them over the translation db830a36a255bce7… (all of the seat's roots in one cut). By AI agents, Wed Nov 11 2026. No macro, syntax, notation, axiom, sorry.
-/
import Derived.Test.YtieilbihfbghjaaDoorChecked
import GoSem.Claim
import GoSem.ClaimJoined
import GoSem.ClaimMapViews
import Derived.JoinedTies
import Derived.KernelRfl
namespace Go.Proofs.YtieilbihfbghjaaDoor
/- THE CELL 'sum', in the pinned program and in every row, IS THE sha256 OF THE DUMP (.gsa) THAT YtieilbihfbghjaaDoorProg.lean LOADS. Nothing in Lean hashes anything: it is a label: what it is worth is what the hold of that sum in a sandbox is worth. -/
noncomputable def Tryd.pinned : Pinned := { name := "ytieilbihfbghjaadoor", sum := "db830a36a255bce7c7b47f2b8253de90ba7874e3e49fb87b4a7bb9f41fbcb73e", checked := Tryd.checked }
namespace Rows
def none {H : Type} : Left H := { results := [], args := [] }

/- WHAT THE LISTED PACKAGE-LEVEL VARIABLES READ AS WHEN THE CALL BEGINS. Each datum BY PROGRAM (the guide's laid-datum.mjs) off the statement by which the dump's own 'gosem.cut.vars' lays the variable. In a bare row this is a premise. The card (YtieilbihfbghjaaDoorCards.lean) ties it to the program's text. -/
def laid_math_bits_deBruijn64tab {H : Type} : DataW H := .agg [.lit (.int .u8 0), .lit (.int .u8 1), .lit (.int .u8 56), .lit (.int .u8 2), .lit (.int .u8 57), .lit (.int .u8 49), .lit (.int .u8 28), .lit (.int .u8 3), .lit (.int .u8 61), .lit (.int .u8 58), .lit (.int .u8 42), .lit (.int .u8 50), .lit (.int .u8 38), .lit (.int .u8 29), .lit (.int .u8 17), .lit (.int .u8 4), .lit (.int .u8 62), .lit (.int .u8 47), .lit (.int .u8 59), .lit (.int .u8 36), .lit (.int .u8 45), .lit (.int .u8 43), .lit (.int .u8 51), .lit (.int .u8 22), .lit (.int .u8 53), .lit (.int .u8 39), .lit (.int .u8 33), .lit (.int .u8 30), .lit (.int .u8 24), .lit (.int .u8 18), .lit (.int .u8 12), .lit (.int .u8 5), .lit (.int .u8 63), .lit (.int .u8 55), .lit (.int .u8 48), .lit (.int .u8 27), .lit (.int .u8 60), .lit (.int .u8 41), .lit (.int .u8 37), .lit (.int .u8 16), .lit (.int .u8 46), .lit (.int .u8 35), .lit (.int .u8 44), .lit (.int .u8 21), .lit (.int .u8 52), .lit (.int .u8 32), .lit (.int .u8 23), .lit (.int .u8 11), .lit (.int .u8 54), .lit (.int .u8 26), .lit (.int .u8 40), .lit (.int .u8 15), .lit (.int .u8 34), .lit (.int .u8 20), .lit (.int .u8 31), .lit (.int .u8 10), .lit (.int .u8 25), .lit (.int .u8 14), .lit (.int .u8 19), .lit (.int .u8 9), .lit (.int .u8 13), .lit (.int .u8 8), .lit (.int .u8 7), .lit (.int .u8 6)]

/-- 'concordlaw03.BitsHash': WHATEVER THE INPUT: true; the input reads as it did. -/
def bitsHashSpec : ChangeSpec := { name := "bitsHash", fn := fun _ => fun
  | [d1, d2, d3] => { results := [.lit (.bool true)], args := [d1, d2, d3] }
  | _ => none }
def bitsHashRow : OpenClaim := { program := "ytieilbihfbghjaadoor", sum := "db830a36a255bce7c7b47f2b8253de90ba7874e3e49fb87b4a7bb9f41fbcb73e", func := "concord/concordlaw03.BitsHash", spec := "bitsHash", named := ["math/bits.deBruijn64tab"], apart := false, laid := [("math/bits.deBruijn64tab", laid_math_bits_deBruijn64tab)] }
def BitsHashSaid : Prop := bitsHashRow.holds Tryd.pinned (OpenSpec.ofChange bitsHashSpec)

/-- ITS FALSE NEIGHBOUR: 'it returns false'. Refute it at one input. -/
def bitsHashWrong : ChangeSpec := { name := "bitsHash", fn := fun _ => fun
  | [d1, d2, d3] => { results := [.lit (.bool false)], args := [d1, d2, d3] }
  | _ => none }
def BitsHashWrongFalsely : Prop := bitsHashRow.holds Tryd.pinned (OpenSpec.ofChange bitsHashWrong)

/-- 'concordlaw03.BitsSlots': WHATEVER THE INPUT: true; the input reads as it did. -/
def bitsSlotsSpec : ChangeSpec := { name := "bitsSlots", fn := fun _ => fun
  | [d] => { results := [.lit (.bool true)], args := [d] }
  | _ => none }
def bitsSlotsRow : OpenClaim := { program := "ytieilbihfbghjaadoor", sum := "db830a36a255bce7c7b47f2b8253de90ba7874e3e49fb87b4a7bb9f41fbcb73e", func := "concord/concordlaw03.BitsSlots", spec := "bitsSlots", named := ["math/bits.deBruijn64tab"], apart := false, laid := [("math/bits.deBruijn64tab", laid_math_bits_deBruijn64tab)] }
def BitsSlotsSaid : Prop := bitsSlotsRow.holds Tryd.pinned (OpenSpec.ofChange bitsSlotsSpec)

/-- ITS FALSE NEIGHBOUR: 'it returns false'. Refute it at one input. -/
def bitsSlotsWrong : ChangeSpec := { name := "bitsSlots", fn := fun _ => fun
  | [d] => { results := [.lit (.bool false)], args := [d] }
  | _ => none }
def BitsSlotsWrongFalsely : Prop := bitsSlotsRow.holds Tryd.pinned (OpenSpec.ofChange bitsSlotsWrong)

/-- 'concordlaw03.BitsMaps': WHATEVER THE INPUT: true; the input reads as it did. -/
def bitsMapsSpec : ChangeSpec := { name := "bitsMaps", fn := fun _ => fun
  | [d1, d2] => { results := [.lit (.bool true)], args := [d1, d2] }
  | _ => none }
def bitsMapsRow : OpenClaim := { program := "ytieilbihfbghjaadoor", sum := "db830a36a255bce7c7b47f2b8253de90ba7874e3e49fb87b4a7bb9f41fbcb73e", func := "concord/concordlaw03.BitsMaps", spec := "bitsMaps", named := ["math/bits.deBruijn64tab"], apart := false, laid := [("math/bits.deBruijn64tab", laid_math_bits_deBruijn64tab)] }
def BitsMapsSaid : Prop := bitsMapsRow.holds Tryd.pinned (OpenSpec.ofChange bitsMapsSpec)

/-- ITS FALSE NEIGHBOUR: 'it returns false'. Refute it at one input. -/
def bitsMapsWrong : ChangeSpec := { name := "bitsMaps", fn := fun _ => fun
  | [d1, d2] => { results := [.lit (.bool false)], args := [d1, d2] }
  | _ => none }
def BitsMapsWrongFalsely : Prop := bitsMapsRow.holds Tryd.pinned (OpenSpec.ofChange bitsMapsWrong)

/-- 'concordlaw03.BitsRanks': WHATEVER THE INPUT: true; the input reads as it did. -/
def bitsRanksSpec : ChangeSpec := { name := "bitsRanks", fn := fun _ => fun
  | [d1, d2] => { results := [.lit (.bool true)], args := [d1, d2] }
  | _ => none }
def bitsRanksRow : OpenClaim := { program := "ytieilbihfbghjaadoor", sum := "db830a36a255bce7c7b47f2b8253de90ba7874e3e49fb87b4a7bb9f41fbcb73e", func := "concord/concordlaw03.BitsRanks", spec := "bitsRanks", named := ["math/bits.deBruijn64tab"], apart := false, laid := [("math/bits.deBruijn64tab", laid_math_bits_deBruijn64tab)] }
def BitsRanksSaid : Prop := bitsRanksRow.holds Tryd.pinned (OpenSpec.ofChange bitsRanksSpec)

/-- ITS FALSE NEIGHBOUR: 'it returns false'. Refute it at one input. -/
def bitsRanksWrong : ChangeSpec := { name := "bitsRanks", fn := fun _ => fun
  | [d1, d2] => { results := [.lit (.bool false)], args := [d1, d2] }
  | _ => none }
def BitsRanksWrongFalsely : Prop := bitsRanksRow.holds Tryd.pinned (OpenSpec.ofChange bitsRanksWrong)

/-- 'concordlaw03.BitsTall': WHATEVER THE INPUT: true; the input reads as it did. -/
def bitsTallSpec : ChangeSpec := { name := "bitsTall", fn := fun _ => fun
  | [d1, d2] => { results := [.lit (.bool true)], args := [d1, d2] }
  | _ => none }
def bitsTallRow : OpenClaim := { program := "ytieilbihfbghjaadoor", sum := "db830a36a255bce7c7b47f2b8253de90ba7874e3e49fb87b4a7bb9f41fbcb73e", func := "concord/concordlaw03.BitsTall", spec := "bitsTall", named := ["math/bits.deBruijn64tab"], apart := false, laid := [("math/bits.deBruijn64tab", laid_math_bits_deBruijn64tab)] }
def BitsTallSaid : Prop := bitsTallRow.holds Tryd.pinned (OpenSpec.ofChange bitsTallSpec)

/-- ITS FALSE NEIGHBOUR: 'it returns false'. Refute it at one input. -/
def bitsTallWrong : ChangeSpec := { name := "bitsTall", fn := fun _ => fun
  | [d1, d2] => { results := [.lit (.bool false)], args := [d1, d2] }
  | _ => none }
def BitsTallWrongFalsely : Prop := bitsTallRow.holds Tryd.pinned (OpenSpec.ofChange bitsTallWrong)

/-- 'concordlaw03.BitsPacks': WHATEVER THE INPUT: true; the input reads as it did. -/
def bitsPacksSpec : ChangeSpec := { name := "bitsPacks", fn := fun _ => fun
  | [d1, d2, d3] => { results := [.lit (.bool true)], args := [d1, d2, d3] }
  | _ => none }
def bitsPacksRow : OpenClaim := { program := "ytieilbihfbghjaadoor", sum := "db830a36a255bce7c7b47f2b8253de90ba7874e3e49fb87b4a7bb9f41fbcb73e", func := "concord/concordlaw03.BitsPacks", spec := "bitsPacks", inPlace := ["internal/reflectlite.TypeOf"], unfollowed := true, recurses := true, named := ["math/bits.deBruijn64tab"], apart := false, laid := [("math/bits.deBruijn64tab", laid_math_bits_deBruijn64tab)] }
def BitsPacksSaid : Prop := bitsPacksRow.holds Tryd.pinned (OpenSpec.ofChange bitsPacksSpec)

/-- ITS FALSE NEIGHBOUR: 'it returns false'. Refute it at one input. -/
def bitsPacksWrong : ChangeSpec := { name := "bitsPacks", fn := fun _ => fun
  | [d1, d2, d3] => { results := [.lit (.bool false)], args := [d1, d2, d3] }
  | _ => none }
def BitsPacksWrongFalsely : Prop := bitsPacksRow.holds Tryd.pinned (OpenSpec.ofChange bitsPacksWrong)

/- THE SECOND FORM. 'bulk': how many values and letters a reading holds, each counted each time it is reached (what is shared counts as often as it is met; a slice's spare places count too). A statement '..UptoSaid' is the law's where the arguments, and the package variables that the reading takes, are together of bulk at most 1048576: NARROWER than '..Said'. Prove '..Said' where nothing that the law and all that it calls make is longer than what came in: it says more and counts as full. Else prove '..UptoSaid'. A law counts once. -/
mutual
def uptoBulk {H : Type} : DataW H → Nat
  | .lit (.string bytes) => bytes.length + 1
  | .lit _ => 1
  | .nil => 1
  | .ptr d => uptoBulk d + 1
  | .slice elems spare => uptoBulkAll elems + uptoBulkAll spare + 1
  | .agg parts => uptoBulkAll parts + 1
  | .iface _ d => uptoBulk d + 1
  | .map entries => uptoBulkEntries entries + 1
  | .held _ => 1
def uptoBulkAll {H : Type} : List (DataW H) → Nat
  | [] => 0
  | d :: r => uptoBulk d + uptoBulkAll r
def uptoBulkEntries {H : Type} : List (Lit × DataW H) → Nat
  | [] => 0
  | x :: r => uptoBulkEntry x + uptoBulkEntries r
def uptoBulkEntry {H : Type} : Lit × DataW H → Nat
  | (.string bytes, d) => bytes.length + uptoBulk d + 1
  | (_, d) => uptoBulk d + 1
 end
def uptoSmall : (H : Type) → List (DataW H) → Bool := fun _ ds => decide (uptoBulkAll ds ≤ 1048576)
def OpenSpec.upto (s : _root_.Go.ChangeSpec) : _root_.Go.OpenSpec := { _root_.Go.OpenSpec.ofChange s with cond := some uptoSmall }

/-- 'concordlaw03.BitsHash', WHERE WHAT IT READS IS OF BULK AT MOST 1048576: true; the input reads as it did. -/
def bitsHashUptoRow : OpenClaim := { program := "ytieilbihfbghjaadoor", sum := "db830a36a255bce7c7b47f2b8253de90ba7874e3e49fb87b4a7bb9f41fbcb73e", func := "concord/concordlaw03.BitsHash", spec := "bitsHash", named := ["math/bits.deBruijn64tab"], apart := false, laid := [("math/bits.deBruijn64tab", laid_math_bits_deBruijn64tab)], narrowed := true }
def BitsHashUptoSaid : Prop := bitsHashUptoRow.holds Tryd.pinned (OpenSpec.upto bitsHashSpec)

/-- 'concordlaw03.BitsSlots', WHERE WHAT IT READS IS OF BULK AT MOST 1048576: true; the input reads as it did. -/
def bitsSlotsUptoRow : OpenClaim := { program := "ytieilbihfbghjaadoor", sum := "db830a36a255bce7c7b47f2b8253de90ba7874e3e49fb87b4a7bb9f41fbcb73e", func := "concord/concordlaw03.BitsSlots", spec := "bitsSlots", named := ["math/bits.deBruijn64tab"], apart := false, laid := [("math/bits.deBruijn64tab", laid_math_bits_deBruijn64tab)], narrowed := true }
def BitsSlotsUptoSaid : Prop := bitsSlotsUptoRow.holds Tryd.pinned (OpenSpec.upto bitsSlotsSpec)

/-- 'concordlaw03.BitsMaps', WHERE WHAT IT READS IS OF BULK AT MOST 1048576: true; the input reads as it did. -/
def bitsMapsUptoRow : OpenClaim := { program := "ytieilbihfbghjaadoor", sum := "db830a36a255bce7c7b47f2b8253de90ba7874e3e49fb87b4a7bb9f41fbcb73e", func := "concord/concordlaw03.BitsMaps", spec := "bitsMaps", named := ["math/bits.deBruijn64tab"], apart := false, laid := [("math/bits.deBruijn64tab", laid_math_bits_deBruijn64tab)], narrowed := true }
def BitsMapsUptoSaid : Prop := bitsMapsUptoRow.holds Tryd.pinned (OpenSpec.upto bitsMapsSpec)

/-- 'concordlaw03.BitsRanks', WHERE WHAT IT READS IS OF BULK AT MOST 1048576: true; the input reads as it did. -/
def bitsRanksUptoRow : OpenClaim := { program := "ytieilbihfbghjaadoor", sum := "db830a36a255bce7c7b47f2b8253de90ba7874e3e49fb87b4a7bb9f41fbcb73e", func := "concord/concordlaw03.BitsRanks", spec := "bitsRanks", named := ["math/bits.deBruijn64tab"], apart := false, laid := [("math/bits.deBruijn64tab", laid_math_bits_deBruijn64tab)], narrowed := true }
def BitsRanksUptoSaid : Prop := bitsRanksUptoRow.holds Tryd.pinned (OpenSpec.upto bitsRanksSpec)

/-- 'concordlaw03.BitsTall', WHERE WHAT IT READS IS OF BULK AT MOST 1048576: true; the input reads as it did. -/
def bitsTallUptoRow : OpenClaim := { program := "ytieilbihfbghjaadoor", sum := "db830a36a255bce7c7b47f2b8253de90ba7874e3e49fb87b4a7bb9f41fbcb73e", func := "concord/concordlaw03.BitsTall", spec := "bitsTall", named := ["math/bits.deBruijn64tab"], apart := false, laid := [("math/bits.deBruijn64tab", laid_math_bits_deBruijn64tab)], narrowed := true }
def BitsTallUptoSaid : Prop := bitsTallUptoRow.holds Tryd.pinned (OpenSpec.upto bitsTallSpec)

/-- 'concordlaw03.BitsPacks', WHERE WHAT IT READS IS OF BULK AT MOST 1048576: true; the input reads as it did. -/
def bitsPacksUptoRow : OpenClaim := { program := "ytieilbihfbghjaadoor", sum := "db830a36a255bce7c7b47f2b8253de90ba7874e3e49fb87b4a7bb9f41fbcb73e", func := "concord/concordlaw03.BitsPacks", spec := "bitsPacks", inPlace := ["internal/reflectlite.TypeOf"], unfollowed := true, recurses := true, named := ["math/bits.deBruijn64tab"], apart := false, laid := [("math/bits.deBruijn64tab", laid_math_bits_deBruijn64tab)], narrowed := true }
def BitsPacksUptoSaid : Prop := bitsPacksUptoRow.holds Tryd.pinned (OpenSpec.upto bitsPacksSpec)

end Rows
end Go.Proofs.YtieilbihfbghjaaDoor
