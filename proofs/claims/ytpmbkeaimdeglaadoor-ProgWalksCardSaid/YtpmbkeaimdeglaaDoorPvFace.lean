/-
  The calls of package prog answer what the laws ask of them.
-/
import Derived.Test.YtpmbkeaimdeglaaDoorPvCheck
import Derived.Test.YtpmbkeaimdeglaaDoorPvColls
import Derived.Test.YtpmbkeaimdeglaaDoorPvWalk
namespace Go.Proofs.YtpmbkeaimdeglaaDoor

theorem face9 : Face9 where
  right_ := fun h hK fk few hd => right_call h hK fk few hd
  size_ := fun h few hd => size_any h few hd
  deep_ := fun h few hd => deep_any h few hd
  colls_ := fun h few hd => colls_call h few hd
  waits_ := fun h few hd => waits_any h few hd
end Go.Proofs.YtpmbkeaimdeglaaDoor
