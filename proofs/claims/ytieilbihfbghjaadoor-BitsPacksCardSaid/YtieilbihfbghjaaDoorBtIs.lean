/-
  errors.Is, called with a target that is an api.Errno, answers: of nil false; of an api.Errno whether both are the same number; of a bits.refused whether the error that it wraps is that number. Nothing that was there has changed.
-/
import Derived.Test.YtieilbihfbghjaaDoorChecked
import Derived.WalkKit
import Derived.LaidEql
import Derived.Stop.Asserts
import Derived.RowKitTokens
import Derived.Test.YtieilbihfbghjaaDoorWdLib
namespace Go.Proofs.YtieilbihfbghjaaDoor
open Go.RowKit Go.Extern.Stop Go.Stop Go.Extern

theorem run_equalIn_iface_int {P : Program} (w : World) (d : Nat) {ti tn : TypeId} {ms : Array (String × TypeId)} {i : TypeInfo} {k : IntKind} (a b : Int)
    (hi : P.underlying ti = some (.interface ms)) (hn : P.underlying tn = some (.int k)) (hinfo : P.info? tn = some i) (hcomp : i.comparable = true) :
    (Op.equalIn (d + 2) ti (.iface tn (.int k a)) (.iface tn (.int k b))).run P w = .ok (a == b) w := by
  simp [Op.equalIn, run_underlying hi, run_underlying hn, typeInfo, hinfo, hcomp]

theorem run_eql_iface_int {P : Program} (w : World) {ti tn : TypeId} {ms : Array (String × TypeId)} {i : TypeInfo} {k : IntKind} (a b : Int)
    (hi : P.underlying ti = some (.interface ms)) (hn : P.underlying tn = some (.int k)) (hinfo : P.info? tn = some i) (hcomp : i.comparable = true) :
    (binOp .eql ti (.iface tn (.int k a)) (.iface tn (.int k b))).run P w = .ok (.bool (a == b)) w := by
  simp only [binOp]
  simp [Op.equal, Op.maxDepth, run_equalIn_iface_int w 9998 a b hi hn hinfo hcomp]

/-! closed facts on the target's type and the errors' method sets -/
theorem is_typeOf0 (v : Value) (w : World) : (Extern.ReflectliteType.typeOf #[.iface 49 v]).run Tryd.prog w = .ok (.iface 60 (.agg #[.pointer (some ⟨1, 49, none⟩)])) w := by kernel_rfl
theorem is_comparable0 (w : World) : ((Extern.ReflectliteType.method fun t => do Extern.Rtype.noPackHeld "Comparable" t; pure (.bool (← typeInfo t).comparable)) #[.agg #[.pointer (some ⟨1, 49, none⟩)]]).run Tryd.prog w = .ok (.bool true) w := by kernel_rfl
theorem is_typeOf (v : Value) (w : World) : (callFunc 35 #[.iface 49 v]).run Tryd.prog w = .ok (.value (.iface 60 (.agg #[.pointer (some ⟨1, 49, none⟩)]))) w := by
  rw [@run_callFunc_extern Tryd.prog 35 _ Extern.ReflectliteType.typeOf Tryd.func35 (by kernel_rfl) (by kernel_rfl) (by kernel_rfl) (by kernel_rfl), is_typeOf0]; rfl
theorem is_comparable (w : World) : (callFunc 58 #[.agg #[.pointer (some ⟨1, 49, none⟩)]]).run Tryd.prog w = .ok (.value (.bool true)) w := by
  rw [@run_callFunc_extern Tryd.prog 58 _ (Extern.ReflectliteType.method fun t => do Extern.Rtype.noPackHeld "Comparable" t; pure (.bool (← typeInfo t).comparable)) Tryd.func58 (by kernel_rfl) (by kernel_rfl) (by kernel_rfl) (by kernel_rfl), is_comparable0]; rfl
theorem is_methodComparable (v : Value) (w : World) : (Go.method 203 60 v "Comparable").run Tryd.prog w = .ok (58, v) w := by kernel_rfl
theorem is_comp : (Tryd.prog.info? 49).map (·.comparable) = some true := by kernel_rfl
theorem is_noIsE (v : Value) (xT : TypeId) (w : World) : (Instr.typeAssert (.iface 49 v) xT 62 true).run Tryd.prog w = .ok (.tuple #[.nilIface, .bool false]) w := run_typeAssert_lacksB Tryd.underlying62 (by kernel_rfl) (by kernel_rfl) v xT w
theorem is_noUnwrapE (v : Value) (xT : TypeId) (w : World) : (Instr.typeAssert (.iface 49 v) xT 65 true).run Tryd.prog w = .ok (.tuple #[.nilIface, .bool false]) w := run_typeAssert_lacksB Tryd.underlying65 (by kernel_rfl) (by kernel_rfl) v xT w
theorem is_noUnwrapsE (v : Value) (xT : TypeId) (w : World) : (Instr.typeAssert (.iface 49 v) xT 67 true).run Tryd.prog w = .ok (.tuple #[.nilIface, .bool false]) w := run_typeAssert_lacksB Tryd.underlying67 (by kernel_rfl) (by kernel_rfl) v xT w
theorem is_noIsR (v : Value) (xT : TypeId) (w : World) : (Instr.typeAssert (.iface 51 v) xT 62 true).run Tryd.prog w = .ok (.tuple #[.nilIface, .bool false]) w := run_typeAssert_lacksB Tryd.underlying62 (by kernel_rfl) (by kernel_rfl) v xT w
theorem is_hasUnwrapR (v : Value) (xT : TypeId) (w : World) : (Instr.typeAssert (.iface 51 v) xT 65 true).run Tryd.prog w = .ok (.tuple #[.iface 51 v, .bool true]) w := run_typeAssert_hasB Tryd.underlying65 (by kernel_rfl) v xT w
theorem is_methodUnwrapR (v : Value) (w : World) : (Go.method 203 51 v "Unwrap").run Tryd.prog w = .ok (54, v) w := by kernel_rfl

/-- errors.Is(nil, Errno(n)) is false. -/
theorem is_nil (n : Int) (w : World) :
    Calls Tryd.prog 34 #[.nilIface, .iface 49 (.int .i64 n)] w fun e w' => e = .returned (.bool false) ∧ w = w' := by
  have hn := run_eql_iface_nil_left (P := Tryd.prog) w 49 (.int .i64 n) Tryd.underlying37
  go_enter Tryd.func34, Tryd.ntmps34
  go_wp2
  go_ret
  exact ⟨rfl, rfl⟩

/-- errors.Is(Errno(a), Errno(b)) is whether a = b. -/
theorem is_errno (a b : Int) (w : World) :
    Calls Tryd.prog 34 #[.iface 49 (.int .i64 a), .iface 49 (.int .i64 b)] w fun e w' => e = .returned (.bool (a == b)) ∧ w = w' := by
  obtain ⟨i, hi, hcmp⟩ := Option.map_eq_some_iff.1 is_comp
  have tT := is_typeOf
  have cT := is_comparable
  have mR := is_methodComparable
  have nE := is_noIsE
  have uE := is_noUnwrapE
  have vE := is_noUnwrapsE
  by_cases hab : a = b
  · subst hab
    have heq : (binOp .eql 37 (.iface 49 (.int .i64 a)) (.iface 49 (.int .i64 a))).run Tryd.prog w = .ok (.bool true) w := by
      rw [run_eql_iface_int (P := Tryd.prog) w a a Tryd.underlying37 Tryd.underlying49 hi hcmp]; simp
    go_enter Tryd.func34, Tryd.ntmps34
    go_wp2
    refine wp_loop_rounds 1 ?_
    rw [rounds_succ]
    go_wp2
    go_ret
    exact ⟨by simp, rfl⟩
  · have heq : (binOp .eql 37 (.iface 49 (.int .i64 a)) (.iface 49 (.int .i64 b))).run Tryd.prog w = .ok (.bool false) w := by
      rw [run_eql_iface_int (P := Tryd.prog) w a b Tryd.underlying37 Tryd.underlying49 hi hcmp]; simp [hab]
    go_enter Tryd.func34, Tryd.ntmps34
    go_wp2
    refine wp_loop_rounds 1 ?_
    rw [rounds_succ]
    go_wp2
    go_ret
    exact ⟨by simp [hab], rfl⟩

/-- errors.Is(r, Errno(b)), r a refused value whose error is Errno(a), is whether a = b. -/
theorem is_refused (s : ByteArray) (a b : Int) (w : World) :
    Calls Tryd.prog 34 #[.iface 51 (.agg #[.string s, .int .i64 a]), .iface 49 (.int .i64 b)] w fun e w' => e = .returned (.bool (a == b)) ∧ Keeps (fun _ => False) w w' := by
  obtain ⟨i, hi, hcmp⟩ := Option.map_eq_some_iff.1 is_comp
  have tT := is_typeOf
  have cT := is_comparable
  have mR := is_methodComparable
  have nE := is_noIsE
  have uE := is_noUnwrapE
  have vE := is_noUnwrapsE
  have nF := is_noIsR
  have uF := is_hasUnwrapR
  have mU := is_methodUnwrapR
  have hty := fun w => run_eql_iface_types (P := Tryd.prog) 51 49 (.agg #[.string s, .int .i64 a]) (.int .i64 b) Tryd.underlying37 (by decide) w
  by_cases hab : a = b
  · subst hab
    have heq : ∀ w, (binOp .eql 37 (.iface 49 (.int .i64 a)) (.iface 49 (.int .i64 a))).run Tryd.prog w = .ok (.bool true) w := fun w => by
      rw [run_eql_iface_int (P := Tryd.prog) w a a Tryd.underlying37 Tryd.underlying49 hi hcmp]; simp
    go_enter Tryd.func34, Tryd.ntmps34
    go_wp2
    refine wp_loop_rounds 2 ?_
    rw [rounds_succ]
    go_wp2
    rw [rounds_succ]
    go_wp2
    go_ret
    exact ⟨by simp, (Keeps.refl _ w).alloc _⟩
  · have heq : ∀ w, (binOp .eql 37 (.iface 49 (.int .i64 a)) (.iface 49 (.int .i64 b))).run Tryd.prog w = .ok (.bool false) w := fun w => by
      rw [run_eql_iface_int (P := Tryd.prog) w a b Tryd.underlying37 Tryd.underlying49 hi hcmp]; simp [hab]
    go_enter Tryd.func34, Tryd.ntmps34
    go_wp2
    refine wp_loop_rounds 2 ?_
    rw [rounds_succ]
    go_wp2
    rw [rounds_succ]
    go_wp2
    go_ret
    exact ⟨by simp [hab], (Keeps.refl _ w).alloc _⟩
end Go.Proofs.YtieilbihfbghjaaDoor
