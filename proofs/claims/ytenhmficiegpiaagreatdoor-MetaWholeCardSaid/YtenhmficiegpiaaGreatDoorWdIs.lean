/-
  errors.Is, called with a target that is an api.Errno, answers: of nil false; of an api.Errno whether both are the same number; of a pointer to an api.Fault whether the Fault's error is that number. The world stays as it was. Go's own text is walked; no conditions but that the Fault's cell is known.
-/
import Derived.Test.YtenhmficiegpiaaGreatDoorChecked
import Derived.WalkKit
import Derived.LaidEql
import Derived.Stop.Asserts
import Derived.RowKitTokens
namespace Go.Proofs.YtenhmficiegpiaaGreatDoor
open Go.RowKit Go.Extern.Stop Go.Stop Go.Extern

theorem run_equalIn_iface_int {P : Program} (w : World) (d : Nat) {ti tn : TypeId} {ms : Array (String × TypeId)} {i : TypeInfo} {k : IntKind} (a b : Int)
    (hi : P.underlying ti = some (.interface ms)) (hn : P.underlying tn = some (.int k)) (hinfo : P.info? tn = some i) (hcomp : i.comparable = true) :
    (Op.equalIn (d + 2) ti (.iface tn (.int k a)) (.iface tn (.int k b))).run P w = .ok (a == b) w := by
  simp [Op.equalIn, run_underlying hi, run_underlying hn, typeInfo, hinfo, hcomp]

theorem run_eql_iface_int {P : Program} (w : World) {ti tn : TypeId} {ms : Array (String × TypeId)} {i : TypeInfo} {k : IntKind} (a b : Int)
    (hi : P.underlying ti = some (.interface ms)) (hn : P.underlying tn = some (.int k)) (hinfo : P.info? tn = some i) (hcomp : i.comparable = true) :
    (binOp .eql ti (.iface tn (.int k a)) (.iface tn (.int k b))).run P w = .ok (.bool (a == b)) w := by
  simp only [binOp]
  simp [Op.equal, Op.maxDepth, run_equalIn_iface_int w 9998 a b hi hn hinfo hcomp]

/-! closed facts on the target's type and the errors' method sets -/
theorem is_typeOf0 (v : Value) (w : World) : (Extern.ReflectliteType.typeOf #[.iface 71 v]).run Tryz.prog w = .ok (.iface 129 (.agg #[.pointer (some ⟨1, 71, none⟩)])) w := by kernel_rfl
theorem is_comparable0 (w : World) : ((Extern.ReflectliteType.method fun t => do Extern.Rtype.noPackHeld "Comparable" t; pure (.bool (← typeInfo t).comparable)) #[.agg #[.pointer (some ⟨1, 71, none⟩)]]).run Tryz.prog w = .ok (.bool true) w := by kernel_rfl
theorem is_typeOf (v : Value) (w : World) : (callFunc 38 #[.iface 71 v]).run Tryz.prog w = .ok (.value (.iface 129 (.agg #[.pointer (some ⟨1, 71, none⟩)]))) w := by
  rw [@run_callFunc_extern Tryz.prog 38 _ Extern.ReflectliteType.typeOf Tryz.func38 (by kernel_rfl) (by kernel_rfl) (by kernel_rfl) (by kernel_rfl), is_typeOf0]; rfl
theorem is_comparable (w : World) : (callFunc 118 #[.agg #[.pointer (some ⟨1, 71, none⟩)]]).run Tryz.prog w = .ok (.value (.bool true)) w := by
  rw [@run_callFunc_extern Tryz.prog 118 _ (Extern.ReflectliteType.method fun t => do Extern.Rtype.noPackHeld "Comparable" t; pure (.bool (← typeInfo t).comparable)) Tryz.func118 (by kernel_rfl) (by kernel_rfl) (by kernel_rfl) (by kernel_rfl), is_comparable0]; rfl
theorem is_methodComparable (v : Value) (w : World) : (Go.method 308 129 v "Comparable").run Tryz.prog w = .ok (118, v) w := by kernel_rfl
theorem is_comp : (Tryz.prog.info? 71).map (·.comparable) = some true := by kernel_rfl
theorem is_noIsE (v : Value) (xT : TypeId) (w : World) : (Instr.typeAssert (.iface 71 v) xT 131 true).run Tryz.prog w = .ok (.tuple #[.nilIface, .bool false]) w := run_typeAssert_lacksB Tryz.underlying131 (by kernel_rfl) (by kernel_rfl) v xT w
theorem is_noUnwrapE (v : Value) (xT : TypeId) (w : World) : (Instr.typeAssert (.iface 71 v) xT 134 true).run Tryz.prog w = .ok (.tuple #[.nilIface, .bool false]) w := run_typeAssert_lacksB Tryz.underlying134 (by kernel_rfl) (by kernel_rfl) v xT w
theorem is_noUnwrapsE (v : Value) (xT : TypeId) (w : World) : (Instr.typeAssert (.iface 71 v) xT 135 true).run Tryz.prog w = .ok (.tuple #[.nilIface, .bool false]) w := run_typeAssert_lacksB Tryz.underlying135 (by kernel_rfl) (by kernel_rfl) v xT w
theorem is_noIsF (v : Value) (xT : TypeId) (w : World) : (Instr.typeAssert (.iface 96 v) xT 131 true).run Tryz.prog w = .ok (.tuple #[.nilIface, .bool false]) w := run_typeAssert_lacksB Tryz.underlying131 (by kernel_rfl) (by kernel_rfl) v xT w
theorem is_hasUnwrapF (v : Value) (xT : TypeId) (w : World) : (Instr.typeAssert (.iface 96 v) xT 134 true).run Tryz.prog w = .ok (.tuple #[.iface 96 v, .bool true]) w := run_typeAssert_hasB Tryz.underlying134 (by kernel_rfl) v xT w
theorem is_methodUnwrap (v : Value) (w : World) : (Go.method 308 96 v "Unwrap").run Tryz.prog w = .ok (113, v) w := by kernel_rfl

/-- errors.Is(nil, Errno(n)) is false. -/
theorem is_nil (n : Int) (w : World) :
    Calls Tryz.prog 24 #[.nilIface, .iface 71 (.int .i64 n)] w fun e w' => e = .returned (.bool false) ∧ w = w' := by
  have hn := run_eql_iface_nil_left (P := Tryz.prog) w 71 (.int .i64 n) Tryz.underlying50
  go_enter Tryz.func24, Tryz.ntmps24
  go_wp2
  go_ret
  exact ⟨rfl, rfl⟩

/-- errors.Is(Errno(a), Errno(b)) is whether a = b. -/
theorem is_errno (a b : Int) (w : World) :
    Calls Tryz.prog 24 #[.iface 71 (.int .i64 a), .iface 71 (.int .i64 b)] w fun e w' => e = .returned (.bool (a == b)) ∧ w = w' := by
  obtain ⟨i, hi, hcmp⟩ := Option.map_eq_some_iff.1 is_comp
  have tT := is_typeOf
  have cT := is_comparable
  have mR := is_methodComparable
  have nE := is_noIsE
  have uE := is_noUnwrapE
  have vE := is_noUnwrapsE
  by_cases hab : a = b
  · subst hab
    have heq : (binOp .eql 50 (.iface 71 (.int .i64 a)) (.iface 71 (.int .i64 a))).run Tryz.prog w = .ok (.bool true) w := by
      rw [run_eql_iface_int (P := Tryz.prog) w a a Tryz.underlying50 Tryz.underlying71 hi hcmp]; simp
    go_enter Tryz.func24, Tryz.ntmps24
    go_wp2
    refine wp_loop_rounds 1 ?_
    rw [rounds_succ]
    go_wp2
    go_ret
    exact ⟨by simp, rfl⟩
  · have heq : (binOp .eql 50 (.iface 71 (.int .i64 a)) (.iface 71 (.int .i64 b))).run Tryz.prog w = .ok (.bool false) w := by
      rw [run_eql_iface_int (P := Tryz.prog) w a b Tryz.underlying50 Tryz.underlying71 hi hcmp]; simp [hab]
    go_enter Tryz.func24, Tryz.ntmps24
    go_wp2
    refine wp_loop_rounds 1 ?_
    rw [rounds_succ]
    go_wp2
    go_ret
    exact ⟨by simp [hab], rfl⟩

/-- errors.Is(f, Errno(b)), f a pointer to a Fault whose error is Errno(a), is whether a = b. -/
theorem is_fault (p off : Nat) (a b : Int) (w : World) (h1 : w.cell? ⟨p, off + 1, none⟩ = some (.int .i64 a)) :
    Calls Tryz.prog 24 #[.iface 96 (.pointer (some ⟨p, off, none⟩)), .iface 71 (.int .i64 b)] w fun e w' => e = .returned (.bool (a == b)) ∧ w = w' := by
  obtain ⟨i, hi, hcmp⟩ := Option.map_eq_some_iff.1 is_comp
  have tT := is_typeOf
  have cT := is_comparable
  have mR := is_methodComparable
  have nE := is_noIsE
  have uE := is_noUnwrapE
  have vE := is_noUnwrapsE
  have nF := is_noIsF
  have uF := is_hasUnwrapF
  have mU := is_methodUnwrap
  have hty := run_eql_iface_types (P := Tryz.prog) 96 71 (.pointer (some ⟨p, off, none⟩)) (.int .i64 b) Tryz.underlying50 (by decide) w
  by_cases hab : a = b
  · subst hab
    have heq : (binOp .eql 50 (.iface 71 (.int .i64 a)) (.iface 71 (.int .i64 a))).run Tryz.prog w = .ok (.bool true) w := by
      rw [run_eql_iface_int (P := Tryz.prog) w a a Tryz.underlying50 Tryz.underlying71 hi hcmp]; simp
    go_enter Tryz.func24, Tryz.ntmps24
    go_wp2
    refine wp_loop_rounds 2 ?_
    rw [rounds_succ]
    go_wp2
    rw [rounds_succ]
    go_wp2
    go_ret
    exact ⟨by simp, rfl⟩
  · have heq : (binOp .eql 50 (.iface 71 (.int .i64 a)) (.iface 71 (.int .i64 b))).run Tryz.prog w = .ok (.bool false) w := by
      rw [run_eql_iface_int (P := Tryz.prog) w a b Tryz.underlying50 Tryz.underlying71 hi hcmp]; simp [hab]
    go_enter Tryz.func24, Tryz.ntmps24
    go_wp2
    refine wp_loop_rounds 2 ?_
    rw [rounds_succ]
    go_wp2
    rw [rounds_succ]
    go_wp2
    go_ret
    exact ⟨by simp [hab], rfl⟩

end Go.Proofs.YtenhmficiegpiaaGreatDoor
