/-
  The program's states answer as 'Face' asks.
-/
import Derived.Test.YtnlogilbiifmiaaMdPut
import Derived.Test.YtnlogilbiifmiaaMdCeil
import Derived.Test.YtnlogilbiifmiaaMdCopy
import Derived.Test.YtnlogilbiifmiaaMdSame
namespace Go.Proofs.Ytnlogilbiifmiaa
open Go.RowKit Go.Maps Go.Extern.Stop Go.Stop Go.Extern

theorem face : Face PM where
  keeps := fun h k hS => h.keeps k hS
  old := fun h => h.old
  ok := fun h => h.ok
  get := fun h c k hk => get_m h c k hk
  put := fun h c k v hk => put_m h c k v hk
  del_ := fun h c k hk => del_m h c k hk
  ceil_ := fun h c k => ceil_m h c k
  range_ := fun h c x y => range_m h c x y
  size_ := fun h c hc => size_m h c hc
  list_ := fun h c hc => list_m h c hc
  kinds_ := fun h => kinds_m h
  copy_ := fun h => copy_m h
  same_ := fun h h' => same_m h h'
  new_no := fun h hk => (new_m h).mono fun e w' hn => by
    rcases hn with ⟨_, h1⟩ | ⟨h1, _⟩
    · exact h1
    · rw [hk] at h1; cases h1
  new_ := fun h hk => (new_m h).mono fun e w' hn => by
    rcases hn with ⟨h1, _⟩ | ⟨_, h1⟩
    · rw [hk] at h1; cases h1
    · exact h1
end Go.Proofs.Ytnlogilbiifmiaa
