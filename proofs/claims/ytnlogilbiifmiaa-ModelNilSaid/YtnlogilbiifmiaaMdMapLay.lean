/-
  The sort and the keys of a map, out of the library's contracts, at this program's own numbers (laid by program).
-/
import Derived.Shelf.SlMaps.Clone
import Derived.Shelf.SlMaps.Equal
import Derived.Test.YtnlogilbiifmiaaProg
namespace Go.Proofs.Ytnlogilbiifmiaa
open Go.Proofs Go.Shelf

def cloneA_ren : Go.Shelf.Ren := ⟨fun | 5 => 22 | 7 => 32 | n => n, fun | 23 => 42 | 25 => 3 | 3 => 3 | 4 => 4 | 20 => 20 | n => n, fun | n => n⟩

theorem cloneA : Go.Proofs.SlLaysW.n5 Try.prog cloneA_ren := {
  mixed := by kernel_rfl,
  f5 := ⟨Try.f22.name, by decide, Try.func22.trans (congrArg some (by kernel_rfl))⟩,
  f7 := Try.func32.trans (congrArg some (by kernel_rfl)),
  t4 := Try.underlying4,
  a4 := Try.isAgg4,
  z4 := Try.sizeOf4,
  v4 := Try.zeroValue4,
  t20 := Try.underlying20,
  a20 := Try.isAgg20,
  z20 := Try.sizeOf20,
  v20 := Try.zeroValue20,
  t23 := Try.underlying42,
  a23 := Try.isAgg42,
  z23 := Try.sizeOf42,
  v23 := Try.zeroValue42 }

def mequalA_ren : Go.Shelf.Ren := ⟨fun | 6 => 25 | n => n, fun | 23 => 42 | 24 => 42 | 26 => 3 | 27 => 3 | 4 => 4 | 3 => 3 | 0 => 0 | 36 => 45 | n => n, fun | n => n⟩

theorem mequalA : Go.Proofs.SlLaysEq.n6 Try.prog mequalA_ren := {
  mixed := by kernel_rfl,
  f6 := ⟨Try.f25.name, by decide, Try.func25.trans (congrArg some (by kernel_rfl))⟩,
  t0 := Try.underlying0,
  a0 := Try.isAgg0,
  z0 := Try.sizeOf0,
  v0 := Try.zeroValue0,
  t3 := Try.underlying3,
  a3 := Try.isAgg3,
  z3 := Try.sizeOf3,
  v3 := Try.zeroValue3,
  t4 := Try.underlying4,
  a4 := Try.isAgg4,
  z4 := Try.sizeOf4,
  v4 := Try.zeroValue4,
  t23 := Try.underlying42,
  a23 := Try.isAgg42,
  z23 := Try.sizeOf42,
  v23 := Try.zeroValue42,
  t24 := Try.underlying42,
  a24 := Try.isAgg42,
  z24 := Try.sizeOf42,
  v24 := Try.zeroValue42,
  a26 := Try.isAgg3,
  z26 := Try.sizeOf3,
  a27 := Try.isAgg3,
  z27 := Try.sizeOf3,
  t36 := Try.underlying45,
  a36 := Try.isAgg45,
  z36 := Try.sizeOf45 }

end Go.Proofs.Ytnlogilbiifmiaa
