/-
  concordref09.One by contract: whether a statement is right, apart from those in it.
-/
import Derived.Test.YthidipigpfcbbaaGreatDoorPgOne
import Derived.Test.YthidipigpfcbbaaGreatDoorRkArg
import Derived.Test.YthidipigpfcbbaaGreatDoorWdTail
namespace Go.Proofs.YthidipigpfcbbaaGreatDoor
open Go.RowKit Go.Extern.Stop Go.Stop Go.Extern

theorem one_parts (s : St7) (nb ne : Nat) (K : List Int) {q1 q2 q3 q4 q5 q6 q7 q8 q9 : Bool} (h1 : decide (1 ≤ s.k ∧ s.k ≤ 16) = q1) (h2 : (if s.k ≤ 8 then decide (0 ≤ s.c ∧ s.c < (K.length : Int)) else decide (s.c = 0)) = q2) (h3 : (if s.k = 6 ∨ s.k = 7 then K.getD s.c.toNat 0 == 3 else true) = q3)
    (h4 : (if inL s.k [1, 4, 5, 6, 7, 9, 10] then decide (1 ≤ s.r ∧ s.r ≤ 8) else decide (s.r = 0)) = q4) (h5 : argOk s.ar s.an (inL s.k [1, 2, 3, 4, 6, 7, 9, 10, 11, 12]) = q5) (h6 : argOk s.br s.bn (inL s.k [2, 7, 10, 11]) = q6)
    (h7 : (if s.k = 12 then decide (s.ar = 0 ∧ 0 ≤ s.an ∧ s.an ≤ 5) else true) = q7) (h8 : (decide (nb = 0) || decide (11 ≤ s.k ∧ s.k ≤ 14)) = q8) (h9 : (decide (ne = 0) || decide (s.k = 11 ∨ s.k = 14)) = q9) :
    one s nb ne K = (q1 && q2 && q3 && q4 && q5 && q6 && q7 && q8 && q9) := by
  unfold one
  rw [h1, h2, h3, h4, h5, h6, h7, h8, h9]

/-- The cells of a statement by value. -/
def stAgg (s : St7) (b e : Sl) : Array Value := #[.int .i64 s.k, .int .i64 s.c, .int .i64 s.r, .int .i64 s.ar, .int .i64 s.an, .int .i64 s.br, .int .i64 s.bn, slv b, slv e]

end Go.Proofs.YthidipigpfcbbaaGreatDoor
