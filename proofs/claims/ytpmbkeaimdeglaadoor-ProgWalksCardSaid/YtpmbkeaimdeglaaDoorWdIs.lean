/-
  errors.Is, called with a target that is an api.Errno, answers: of nil false; of an api.Errno whether both are the same number; of a pointer to an api.Fault whether the Fault's error is that number. The world stays as it was. Go's own text is walked; no conditions but that the Fault's cell is known.
-/
import Derived.Test.YtpmbkeaimdeglaaDoorChecked
import Derived.WalkKit
import Derived.LaidEql
import Derived.Stop.Asserts
import Derived.RowKitTokens
namespace Go.Proofs.YtpmbkeaimdeglaaDoor
open Go.RowKit Go.Extern.Stop Go.Stop Go.Extern

theorem run_equalIn_iface_int {P : Program} (w : World) (d : Nat) {ti tn : TypeId} {ms : Array (String × TypeId)} {i : TypeInfo} {k : IntKind} (a b : Int)
    (hi : P.underlying ti = some (.interface ms)) (hn : P.underlying tn = some (.int k)) (hinfo : P.info? tn = some i) (hcomp : i.comparable = true) :
    (Op.equalIn (d + 2) ti (.iface tn (.int k a)) (.iface tn (.int k b))).run P w = .ok (a == b) w := by
  simp [Op.equalIn, run_underlying hi, run_underlying hn, typeInfo, hinfo, hcomp]

theorem run_eql_iface_int {P : Program} (w : World) {ti tn : TypeId} {ms : Array (String × TypeId)} {i : TypeInfo} {k : IntKind} (a b : Int)
    (hi : P.underlying ti = some (.interface ms)) (hn : P.underlying tn = some (.int k)) (hinfo : P.info? tn = some i) (hcomp : i.comparable = true) :
    (binOp .eql ti (.iface tn (.int k a)) (.iface tn (.int k b))).run P w = .ok (.bool (a == b)) w := by
  simp only [binOp]
  simp [Op.equal, Op.maxDepth, run_equalIn_iface_int w 9998 a b hi hn hinfo hcomp]

/-! closed facts on the target's type and the errors' method sets -/
theorem is_typeOf0 (v : Value) (w : World) : (Extern.ReflectliteType.typeOf #[.iface 51 v]).run Tryd.prog w = .ok (.iface 99 (.agg #[.pointer (some ⟨1, 51, none⟩)])) w := by kernel_rfl
theorem is_comparable0 (w : World) : ((Extern.ReflectliteType.method fun t => do Extern.Rtype.noPackHeld "Comparable" t; pure (.bool (← typeInfo t).comparable)) #[.agg #[.pointer (some ⟨1, 51, none⟩)]]).run Tryd.prog w = .ok (.bool true) w := by kernel_rfl
theorem is_typeOf (v : Value) (w : World) : (callFunc 47 #[.iface 51 v]).run Tryd.prog w = .ok (.value (.iface 99 (.agg #[.pointer (some ⟨1, 51, none⟩)]))) w := by
  rw [@run_callFunc_extern Tryd.prog 47 _ Extern.ReflectliteType.typeOf Tryd.func47 (by kernel_rfl) (by kernel_rfl) (by kernel_rfl) (by kernel_rfl), is_typeOf0]; rfl
theorem is_comparable (w : World) : (callFunc 104 #[.agg #[.pointer (some ⟨1, 51, none⟩)]]).run Tryd.prog w = .ok (.value (.bool true)) w := by
  rw [@run_callFunc_extern Tryd.prog 104 _ (Extern.ReflectliteType.method fun t => do Extern.Rtype.noPackHeld "Comparable" t; pure (.bool (← typeInfo t).comparable)) Tryd.func104 (by kernel_rfl) (by kernel_rfl) (by kernel_rfl) (by kernel_rfl), is_comparable0]; rfl
theorem is_methodComparable (v : Value) (w : World) : (Go.method 264 99 v "Comparable").run Tryd.prog w = .ok (104, v) w := by kernel_rfl
theorem is_comp : (Tryd.prog.info? 51).map (·.comparable) = some true := by kernel_rfl
theorem is_noIsE (v : Value) (xT : TypeId) (w : World) : (Instr.typeAssert (.iface 51 v) xT 101 true).run Tryd.prog w = .ok (.tuple #[.nilIface, .bool false]) w := run_typeAssert_lacksB Tryd.underlying101 (by kernel_rfl) (by kernel_rfl) v xT w
theorem is_noUnwrapE (v : Value) (xT : TypeId) (w : World) : (Instr.typeAssert (.iface 51 v) xT 104 true).run Tryd.prog w = .ok (.tuple #[.nilIface, .bool false]) w := run_typeAssert_lacksB Tryd.underlying104 (by kernel_rfl) (by kernel_rfl) v xT w
theorem is_noUnwrapsE (v : Value) (xT : TypeId) (w : World) : (Instr.typeAssert (.iface 51 v) xT 106 true).run Tryd.prog w = .ok (.tuple #[.nilIface, .bool false]) w := run_typeAssert_lacksB Tryd.underlying106 (by kernel_rfl) (by kernel_rfl) v xT w
theorem is_noIsF (v : Value) (xT : TypeId) (w : World) : (Instr.typeAssert (.iface 53 v) xT 101 true).run Tryd.prog w = .ok (.tuple #[.nilIface, .bool false]) w := run_typeAssert_lacksB Tryd.underlying101 (by kernel_rfl) (by kernel_rfl) v xT w
theorem is_hasUnwrapF (v : Value) (xT : TypeId) (w : World) : (Instr.typeAssert (.iface 53 v) xT 104 true).run Tryd.prog w = .ok (.tuple #[.iface 53 v, .bool true]) w := run_typeAssert_hasB Tryd.underlying104 (by kernel_rfl) v xT w
theorem is_methodUnwrap (v : Value) (w : World) : (Go.method 264 53 v "Unwrap").run Tryd.prog w = .ok (98, v) w := by kernel_rfl

/-- errors.Is(nil, Errno(n)) is false. -/
theorem is_nil (n : Int) (w : World) :
    Calls Tryd.prog 31 #[.nilIface, .iface 51 (.int .i64 n)] w fun e w' => e = .returned (.bool false) ∧ w = w' := by
  have hn := run_eql_iface_nil_left (P := Tryd.prog) w 51 (.int .i64 n) Tryd.underlying27
  go_enter Tryd.func31, Tryd.ntmps31
  go_wp2
  go_ret
  exact ⟨rfl, rfl⟩

/-- errors.Is(Errno(a), Errno(b)) is whether a = b. -/
theorem is_errno (a b : Int) (w : World) :
    Calls Tryd.prog 31 #[.iface 51 (.int .i64 a), .iface 51 (.int .i64 b)] w fun e w' => e = .returned (.bool (a == b)) ∧ w = w' := by
  obtain ⟨i, hi, hcmp⟩ := Option.map_eq_some_iff.1 is_comp
  have tT := is_typeOf
  have cT := is_comparable
  have mR := is_methodComparable
  have nE := is_noIsE
  have uE := is_noUnwrapE
  have vE := is_noUnwrapsE
  by_cases hab : a = b
  · subst hab
    have heq : (binOp .eql 27 (.iface 51 (.int .i64 a)) (.iface 51 (.int .i64 a))).run Tryd.prog w = .ok (.bool true) w := by
      rw [run_eql_iface_int (P := Tryd.prog) w a a Tryd.underlying27 Tryd.underlying51 hi hcmp]; simp
    go_enter Tryd.func31, Tryd.ntmps31
    go_wp2
    refine wp_loop_rounds 1 ?_
    rw [rounds_succ]
    go_wp2
    go_ret
    exact ⟨by simp, rfl⟩
  · have heq : (binOp .eql 27 (.iface 51 (.int .i64 a)) (.iface 51 (.int .i64 b))).run Tryd.prog w = .ok (.bool false) w := by
      rw [run_eql_iface_int (P := Tryd.prog) w a b Tryd.underlying27 Tryd.underlying51 hi hcmp]; simp [hab]
    go_enter Tryd.func31, Tryd.ntmps31
    go_wp2
    refine wp_loop_rounds 1 ?_
    rw [rounds_succ]
    go_wp2
    go_ret
    exact ⟨by simp [hab], rfl⟩

/-- errors.Is(f, Errno(b)), f a pointer to a Fault whose error is Errno(a), is whether a = b. -/
theorem is_fault (p off : Nat) (a b : Int) (w : World) (h1 : w.cell? ⟨p, off + 1, none⟩ = some (.int .i64 a)) :
    Calls Tryd.prog 31 #[.iface 53 (.pointer (some ⟨p, off, none⟩)), .iface 51 (.int .i64 b)] w fun e w' => e = .returned (.bool (a == b)) ∧ w = w' := by
  obtain ⟨i, hi, hcmp⟩ := Option.map_eq_some_iff.1 is_comp
  have tT := is_typeOf
  have cT := is_comparable
  have mR := is_methodComparable
  have nE := is_noIsE
  have uE := is_noUnwrapE
  have vE := is_noUnwrapsE
  have nF := is_noIsF
  have uF := is_hasUnwrapF
  have mU := is_methodUnwrap
  have hty := run_eql_iface_types (P := Tryd.prog) 53 51 (.pointer (some ⟨p, off, none⟩)) (.int .i64 b) Tryd.underlying27 (by decide) w
  by_cases hab : a = b
  · subst hab
    have heq : (binOp .eql 27 (.iface 51 (.int .i64 a)) (.iface 51 (.int .i64 a))).run Tryd.prog w = .ok (.bool true) w := by
      rw [run_eql_iface_int (P := Tryd.prog) w a a Tryd.underlying27 Tryd.underlying51 hi hcmp]; simp
    go_enter Tryd.func31, Tryd.ntmps31
    go_wp2
    refine wp_loop_rounds 2 ?_
    rw [rounds_succ]
    go_wp2
    rw [rounds_succ]
    go_wp2
    go_ret
    exact ⟨by simp, rfl⟩
  · have heq : (binOp .eql 27 (.iface 51 (.int .i64 a)) (.iface 51 (.int .i64 b))).run Tryd.prog w = .ok (.bool false) w := by
      rw [run_eql_iface_int (P := Tryd.prog) w a b Tryd.underlying27 Tryd.underlying51 hi hcmp]; simp [hab]
    go_enter Tryd.func31, Tryd.ntmps31
    go_wp2
    refine wp_loop_rounds 2 ?_
    rw [rounds_succ]
    go_wp2
    rw [rounds_succ]
    go_wp2
    go_ret
    exact ⟨by simp [hab], rfl⟩

end Go.Proofs.YtpmbkeaimdeglaaDoor
