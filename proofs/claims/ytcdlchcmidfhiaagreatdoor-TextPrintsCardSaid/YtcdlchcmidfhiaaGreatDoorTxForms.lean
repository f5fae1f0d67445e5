/-
  concordref10.words and forms by contract: rows of strings that are laid anew.
-/
import Derived.Test.YtcdlchcmidfhiaaGreatDoorTxDec
namespace Go.Proofs.YtcdlchcmidfhiaaGreatDoor
open Go.RowKit Go.Maps Go.Extern.Stop Go.Stop Go.Extern

def fmB : Fm → UInt8
  | .c => 99
  | .a => 97
  | .b => 98
  | .r => 114
  | .n => 110
  | .o => 123
def formB : List Str := formT.map fun l => l.map fmB

set_option maxRecDepth 100000 in
theorem rwords10_any (w : World) :
    Calls Tryz.prog 40 #[] w fun e w' => e = .returned (.slice (some ⟨w.heap.size, 0, none⟩) 17 17) ∧ Keeps (fun _ => False) w w' ∧ ∀ k : Nat, k < 17 → w'.cell? ⟨w.heap.size, k, none⟩ = some (.string (mkB (kindT.getD k []))) := by
  go_enter Tryz.func40, Tryz.ntmps40
  go_wp2
  go_ret
  refine ⟨rfl, (Keeps.refl _ w).alloc _, fun k hk => ?_⟩
  rw [(Whole.made w _ _).at_ k]
  match k, hk with
  | 0, _ => rfl
  | 1, _ => rfl
  | 2, _ => rfl
  | 3, _ => rfl
  | 4, _ => rfl
  | 5, _ => rfl
  | 6, _ => rfl
  | 7, _ => rfl
  | 8, _ => rfl
  | 9, _ => rfl
  | 10, _ => rfl
  | 11, _ => rfl
  | 12, _ => rfl
  | 13, _ => rfl
  | 14, _ => rfl
  | 15, _ => rfl
  | 16, _ => rfl
  | k + 17, h => exact absurd h (by omega)
set_option maxRecDepth 100000 in
theorem rforms10_any (w : World) :
    Calls Tryz.prog 41 #[] w fun e w' => e = .returned (.slice (some ⟨w.heap.size, 0, none⟩) 17 17) ∧ Keeps (fun _ => False) w w' ∧ ∀ k : Nat, k < 17 → w'.cell? ⟨w.heap.size, k, none⟩ = some (.string (mkB (formB.getD k []))) := by
  go_enter Tryz.func41, Tryz.ntmps41
  go_wp2
  go_ret
  refine ⟨rfl, (Keeps.refl _ w).alloc _, fun k hk => ?_⟩
  rw [(Whole.made w _ _).at_ k]
  match k, hk with
  | 0, _ => rfl
  | 1, _ => rfl
  | 2, _ => rfl
  | 3, _ => rfl
  | 4, _ => rfl
  | 5, _ => rfl
  | 6, _ => rfl
  | 7, _ => rfl
  | 8, _ => rfl
  | 9, _ => rfl
  | 10, _ => rfl
  | 11, _ => rfl
  | 12, _ => rfl
  | 13, _ => rfl
  | 14, _ => rfl
  | 15, _ => rfl
  | 16, _ => rfl
  | k + 17, h => exact absurd h (by omega)
end Go.Proofs.YtcdlchcmidfhiaaGreatDoor
