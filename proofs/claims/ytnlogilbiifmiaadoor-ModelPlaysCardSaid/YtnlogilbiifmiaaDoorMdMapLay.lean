/-
  The sort and the keys of a map, out of the library's contracts, at this program's own numbers (laid by program).
-/
import Derived.Shelf.SlMaps.Clone
import Derived.Shelf.SlMaps.Equal
import Derived.Test.YtnlogilbiifmiaaDoorProg
namespace Go.Proofs.YtnlogilbiifmiaaDoor
open Go.Proofs Go.Shelf

def cloneA_ren : Go.Shelf.Ren := ⟨fun | 5 => 30 | 7 => 50 | n => n, fun | 23 => 67 | 25 => 3 | 3 => 3 | 4 => 4 | 20 => 20 | n => n, fun | n => n⟩

theorem cloneA : Go.Proofs.SlLaysW.n5 Tryd.prog cloneA_ren := {
  mixed := by kernel_rfl,
  f5 := ⟨Tryd.f30.name, by decide, Tryd.func30.trans (congrArg some (by kernel_rfl))⟩,
  f7 := Tryd.func50.trans (congrArg some (by kernel_rfl)),
  t4 := Tryd.underlying4,
  a4 := Tryd.isAgg4,
  z4 := Tryd.sizeOf4,
  v4 := Tryd.zeroValue4,
  t20 := Tryd.underlying20,
  a20 := Tryd.isAgg20,
  z20 := Tryd.sizeOf20,
  v20 := Tryd.zeroValue20,
  t23 := Tryd.underlying67,
  a23 := Tryd.isAgg67,
  z23 := Tryd.sizeOf67,
  v23 := Tryd.zeroValue67 }

def mequalA_ren : Go.Shelf.Ren := ⟨fun | 6 => 40 | n => n, fun | 23 => 67 | 24 => 67 | 26 => 3 | 27 => 3 | 4 => 4 | 3 => 3 | 0 => 0 | 36 => 84 | n => n, fun | n => n⟩

theorem mequalA : Go.Proofs.SlLaysEq.n6 Tryd.prog mequalA_ren := {
  mixed := by kernel_rfl,
  f6 := ⟨Tryd.f40.name, by decide, Tryd.func40.trans (congrArg some (by kernel_rfl))⟩,
  t0 := Tryd.underlying0,
  a0 := Tryd.isAgg0,
  z0 := Tryd.sizeOf0,
  v0 := Tryd.zeroValue0,
  t3 := Tryd.underlying3,
  a3 := Tryd.isAgg3,
  z3 := Tryd.sizeOf3,
  v3 := Tryd.zeroValue3,
  t4 := Tryd.underlying4,
  a4 := Tryd.isAgg4,
  z4 := Tryd.sizeOf4,
  v4 := Tryd.zeroValue4,
  t23 := Tryd.underlying67,
  a23 := Tryd.isAgg67,
  z23 := Tryd.sizeOf67,
  v23 := Tryd.zeroValue67,
  t24 := Tryd.underlying67,
  a24 := Tryd.isAgg67,
  z24 := Tryd.sizeOf67,
  v24 := Tryd.zeroValue67,
  a26 := Tryd.isAgg3,
  z26 := Tryd.sizeOf3,
  a27 := Tryd.isAgg3,
  z27 := Tryd.sizeOf3,
  t36 := Tryd.underlying84,
  a36 := Tryd.isAgg84,
  z36 := Tryd.sizeOf84 }

end Go.Proofs.YtnlogilbiifmiaaDoor
