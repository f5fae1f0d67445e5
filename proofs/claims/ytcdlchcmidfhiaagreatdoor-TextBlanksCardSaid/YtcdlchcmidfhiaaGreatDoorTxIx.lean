/-
  Indexes into arrays of strings.
-/
import Derived.Test.YtcdlchcmidfhiaaGreatDoorTpStmt
namespace Go.Proofs.YtcdlchcmidfhiaaGreatDoor
open Go.RowKit Go.Extern.Stop Go.Stop Go.Extern

theorem run_ix (t : TypeId) (n : Nat) (cs : Array Value) (h : Tryz.prog.underlying t = some (.array n 9)) (i : Nat) (v : Value) (hi : i < n) (hv : cs[i]? = some v) (w : World) :
    (Instr.index t (.agg cs) (.int .i64 (i : Int))).run Tryz.prog w = .ok v w := by
  have hs := Tryz.sizeOf9
  have ha := Tryz.isAgg9
  simp [Instr.index, asIntOf, run_underlying h, part, hs, ha, hv]
  intro hc
  exact absurd hi (Nat.not_lt.2 hc)
theorem ix3 (a b c : ByteArray) (w : World) :
    (Instr.index 38 (.agg #[.string a, .string b, .string c]) (.int .i64 0)).run Tryz.prog w = .ok (.string a) w ∧
    (Instr.index 38 (.agg #[.string a, .string b, .string c]) (.int .i64 1)).run Tryz.prog w = .ok (.string b) w ∧
    (Instr.index 38 (.agg #[.string a, .string b, .string c]) (.int .i64 2)).run Tryz.prog w = .ok (.string c) w :=
  ⟨run_ix _ 3 _ Tryz.underlying38 0 _ (by decide) rfl w, run_ix _ 3 _ Tryz.underlying38 1 _ (by decide) rfl w, run_ix _ 3 _ Tryz.underlying38 2 _ (by decide) rfl w⟩
theorem ix2 (a b : ByteArray) (w : World) :
    (Instr.index 39 (.agg #[.string a, .string b]) (.int .i64 0)).run Tryz.prog w = .ok (.string a) w ∧
    (Instr.index 39 (.agg #[.string a, .string b]) (.int .i64 1)).run Tryz.prog w = .ok (.string b) w :=
  ⟨run_ix _ 2 _ Tryz.underlying39 0 _ (by decide) rfl w, run_ix _ 2 _ Tryz.underlying39 1 _ (by decide) rfl w⟩
end Go.Proofs.YtcdlchcmidfhiaaGreatDoor
