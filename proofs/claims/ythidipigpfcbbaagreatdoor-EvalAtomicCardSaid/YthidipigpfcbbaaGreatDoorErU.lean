/-
  errors.Is, called with a target that is an api.Errno, answers: of nil false; of an api.Errno whether both are the same number; of a pointer to an api.Fault whether the Fault's error is that number. The world stays as it was. Go's own text is walked; no conditions but that the Fault's cell is known.
  The number of an error (concordlaw01.No): of nil 0; of an api.Errno k, 1 to 17, k; of a pointer to an api.Fault with such an error its number. The world stays as it was.
  An error's value with its number and its place ('ErrU'): nil, an api.Errno, an *api.Fault of one; its number (concordlaw01.No), its place (api.Place). (As in the texts of sets.)
-/
import Derived.Test.YthidipigpfcbbaaGreatDoorChecked
import Derived.Test.YthidipigpfcbbaaGreatDoorBkArgs
import Derived.WalkKit
import Derived.LaidEql
import Derived.Stop.Asserts
import Derived.RowKitTokens
import Derived.LoopTactic
import Derived.Deep.RegionWith
import Derived.Lib.Hide

namespace Go.Proofs.YthidipigpfcbbaaGreatDoor
open Go.RowKit Go.Extern.Stop Go.Stop Go.Extern

theorem run_equalIn_iface_int {P : Program} (w : World) (d : Nat) {ti tn : TypeId} {ms : Array (String × TypeId)} {i : TypeInfo} {k : IntKind} (a b : Int)
    (hi : P.underlying ti = some (.interface ms)) (hn : P.underlying tn = some (.int k)) (hinfo : P.info? tn = some i) (hcomp : i.comparable = true) :
    (Op.equalIn (d + 2) ti (.iface tn (.int k a)) (.iface tn (.int k b))).run P w = .ok (a == b) w := by
  simp [Op.equalIn, run_underlying hi, run_underlying hn, typeInfo, hinfo, hcomp]

theorem run_eql_iface_int {P : Program} (w : World) {ti tn : TypeId} {ms : Array (String × TypeId)} {i : TypeInfo} {k : IntKind} (a b : Int)
    (hi : P.underlying ti = some (.interface ms)) (hn : P.underlying tn = some (.int k)) (hinfo : P.info? tn = some i) (hcomp : i.comparable = true) :
    (binOp .eql ti (.iface tn (.int k a)) (.iface tn (.int k b))).run P w = .ok (.bool (a == b)) w := by
  simp only [binOp]
  simp [Op.equal, Op.maxDepth, run_equalIn_iface_int w 9998 a b hi hn hinfo hcomp]

/-! closed facts on the target's type and the errors' method sets -/
theorem is_typeOf0 (v : Value) (w : World) : (Extern.ReflectliteType.typeOf #[.iface 65 v]).run Tryz.prog w = .ok (.iface 155 (.agg #[.pointer (some ⟨1, 65, none⟩)])) w := by kernel_rfl
theorem is_comparable0 (w : World) : ((Extern.ReflectliteType.method fun t => do Extern.Rtype.noPackHeld "Comparable" t; pure (.bool (← typeInfo t).comparable)) #[.agg #[.pointer (some ⟨1, 65, none⟩)]]).run Tryz.prog w = .ok (.bool true) w := by kernel_rfl
theorem is_typeOf (v : Value) (w : World) : (callFunc 52 #[.iface 65 v]).run Tryz.prog w = .ok (.value (.iface 155 (.agg #[.pointer (some ⟨1, 65, none⟩)]))) w := by
  rw [@run_callFunc_extern Tryz.prog 52 _ Extern.ReflectliteType.typeOf Tryz.func52 (by kernel_rfl) (by kernel_rfl) (by kernel_rfl) (by kernel_rfl), is_typeOf0]; rfl
theorem is_comparable (w : World) : (callFunc 143 #[.agg #[.pointer (some ⟨1, 65, none⟩)]]).run Tryz.prog w = .ok (.value (.bool true)) w := by
  rw [@run_callFunc_extern Tryz.prog 143 _ (Extern.ReflectliteType.method fun t => do Extern.Rtype.noPackHeld "Comparable" t; pure (.bool (← typeInfo t).comparable)) Tryz.func143 (by kernel_rfl) (by kernel_rfl) (by kernel_rfl) (by kernel_rfl), is_comparable0]; rfl
theorem is_methodComparable (v : Value) (w : World) : (Go.method 337 155 v "Comparable").run Tryz.prog w = .ok (143, v) w := by kernel_rfl
theorem is_comp : (Tryz.prog.info? 65).map (·.comparable) = some true := by kernel_rfl
theorem is_noIsE (v : Value) (xT : TypeId) (w : World) : (Instr.typeAssert (.iface 65 v) xT 157 true).run Tryz.prog w = .ok (.tuple #[.nilIface, .bool false]) w := run_typeAssert_lacksB Tryz.underlying157 (by kernel_rfl) (by kernel_rfl) v xT w
theorem is_noUnwrapE (v : Value) (xT : TypeId) (w : World) : (Instr.typeAssert (.iface 65 v) xT 160 true).run Tryz.prog w = .ok (.tuple #[.nilIface, .bool false]) w := run_typeAssert_lacksB Tryz.underlying160 (by kernel_rfl) (by kernel_rfl) v xT w
theorem is_noUnwrapsE (v : Value) (xT : TypeId) (w : World) : (Instr.typeAssert (.iface 65 v) xT 162 true).run Tryz.prog w = .ok (.tuple #[.nilIface, .bool false]) w := run_typeAssert_lacksB Tryz.underlying162 (by kernel_rfl) (by kernel_rfl) v xT w
theorem is_noIsF (v : Value) (xT : TypeId) (w : World) : (Instr.typeAssert (.iface 103 v) xT 157 true).run Tryz.prog w = .ok (.tuple #[.nilIface, .bool false]) w := run_typeAssert_lacksB Tryz.underlying157 (by kernel_rfl) (by kernel_rfl) v xT w
theorem is_hasUnwrapF (v : Value) (xT : TypeId) (w : World) : (Instr.typeAssert (.iface 103 v) xT 160 true).run Tryz.prog w = .ok (.tuple #[.iface 103 v, .bool true]) w := run_typeAssert_hasB Tryz.underlying160 (by kernel_rfl) v xT w
theorem is_methodUnwrap (v : Value) (w : World) : (Go.method 337 103 v "Unwrap").run Tryz.prog w = .ok (135, v) w := by kernel_rfl

/-- errors.Is(nil, Errno(n)) is false. -/
theorem is_nil (n : Int) (w : World) :
    Calls Tryz.prog 29 #[.nilIface, .iface 65 (.int .i64 n)] w fun e w' => e = .returned (.bool false) ∧ w = w' := by
  have hn := run_eql_iface_nil_left (P := Tryz.prog) w 65 (.int .i64 n) Tryz.underlying34
  go_enter Tryz.func29, Tryz.ntmps29
  go_wp2
  go_ret
  exact ⟨rfl, rfl⟩

/-- errors.Is(Errno(a), Errno(b)) is whether a = b. -/
theorem is_errno (a b : Int) (w : World) :
    Calls Tryz.prog 29 #[.iface 65 (.int .i64 a), .iface 65 (.int .i64 b)] w fun e w' => e = .returned (.bool (a == b)) ∧ w = w' := by
  obtain ⟨i, hi, hcmp⟩ := Option.map_eq_some_iff.1 is_comp
  have tT := is_typeOf
  have cT := is_comparable
  have mR := is_methodComparable
  have nE := is_noIsE
  have uE := is_noUnwrapE
  have vE := is_noUnwrapsE
  by_cases hab : a = b
  · subst hab
    have heq : (binOp .eql 34 (.iface 65 (.int .i64 a)) (.iface 65 (.int .i64 a))).run Tryz.prog w = .ok (.bool true) w := by
      rw [run_eql_iface_int (P := Tryz.prog) w a a Tryz.underlying34 Tryz.underlying65 hi hcmp]; simp
    go_enter Tryz.func29, Tryz.ntmps29
    go_wp2
    refine wp_loop_rounds 1 ?_
    rw [rounds_succ]
    go_wp2
    go_ret
    exact ⟨by simp, rfl⟩
  · have heq : (binOp .eql 34 (.iface 65 (.int .i64 a)) (.iface 65 (.int .i64 b))).run Tryz.prog w = .ok (.bool false) w := by
      rw [run_eql_iface_int (P := Tryz.prog) w a b Tryz.underlying34 Tryz.underlying65 hi hcmp]; simp [hab]
    go_enter Tryz.func29, Tryz.ntmps29
    go_wp2
    refine wp_loop_rounds 1 ?_
    rw [rounds_succ]
    go_wp2
    go_ret
    exact ⟨by simp [hab], rfl⟩

/-- errors.Is(f, Errno(b)), f a pointer to a Fault whose error is Errno(a), is whether a = b. -/
theorem is_fault (p off : Nat) (a b : Int) (w : World) (h1 : w.cell? ⟨p, off + 1, none⟩ = some (.int .i64 a)) :
    Calls Tryz.prog 29 #[.iface 103 (.pointer (some ⟨p, off, none⟩)), .iface 65 (.int .i64 b)] w fun e w' => e = .returned (.bool (a == b)) ∧ w = w' := by
  obtain ⟨i, hi, hcmp⟩ := Option.map_eq_some_iff.1 is_comp
  have tT := is_typeOf
  have cT := is_comparable
  have mR := is_methodComparable
  have nE := is_noIsE
  have uE := is_noUnwrapE
  have vE := is_noUnwrapsE
  have nF := is_noIsF
  have uF := is_hasUnwrapF
  have mU := is_methodUnwrap
  have hty := run_eql_iface_types (P := Tryz.prog) 103 65 (.pointer (some ⟨p, off, none⟩)) (.int .i64 b) Tryz.underlying34 (by decide) w
  by_cases hab : a = b
  · subst hab
    have heq : (binOp .eql 34 (.iface 65 (.int .i64 a)) (.iface 65 (.int .i64 a))).run Tryz.prog w = .ok (.bool true) w := by
      rw [run_eql_iface_int (P := Tryz.prog) w a a Tryz.underlying34 Tryz.underlying65 hi hcmp]; simp
    go_enter Tryz.func29, Tryz.ntmps29
    go_wp2
    refine wp_loop_rounds 2 ?_
    rw [rounds_succ]
    go_wp2
    rw [rounds_succ]
    go_wp2
    go_ret
    exact ⟨by simp, rfl⟩
  · have heq : (binOp .eql 34 (.iface 65 (.int .i64 a)) (.iface 65 (.int .i64 b))).run Tryz.prog w = .ok (.bool false) w := by
      rw [run_eql_iface_int (P := Tryz.prog) w a b Tryz.underlying34 Tryz.underlying65 hi hcmp]; simp [hab]
    go_enter Tryz.func29, Tryz.ntmps29
    go_wp2
    refine wp_loop_rounds 2 ?_
    rw [rounds_succ]
    go_wp2
    rw [rounds_succ]
    go_wp2
    go_ret
    exact ⟨by simp [hab], rfl⟩

end Go.Proofs.YthidipigpfcbbaaGreatDoor

namespace Go.Proofs.YthidipigpfcbbaaGreatDoor
open Go.RowKit Go.Extern.Stop Go.Stop Go.Extern

theorem no_nil (w : World) :
    Calls Tryz.prog 11 #[.nilIface] w fun e w' => e = .returned (.int .i64 0) ∧ w = w' := by
  go_enter Tryz.func11, Tryz.ntmps11
  go_wp2
  go_ret
  exact ⟨rfl, rfl⟩

theorem no_errno (k : Nat) (h1 : 1 ≤ k) (h2 : k ≤ 17) (w : World) :
    Calls Tryz.prog 11 #[.iface 65 (.int .i64 k)] w fun e w' => e = .returned (.int .i64 k) ∧ w = w' := by
  go_enter Tryz.func11, Tryz.ntmps11
  go_wp2
  go_loop [3] (fun i => ∃ m : Nat, 1 ≤ m ∧ m ≤ k ∧ i = .int .i64 m) (fun i => 20 - (intOf i).toNat)
  case atStart => exact ⟨1, by omega, by omega, rfl⟩
  case round =>
    obtain ⟨m, hm1, hm2, rfl⟩ := hrel
    by_cases hkm : k = m
    · subst hkm
      have hb : ((k : Int) == (k : Int)) = true := by simp
      go_wp2_with (go_at_call 29; refine (is_errno _ _ _).mono ?_; rintro e w' ⟨rfl, rfl⟩)
      go_ret
      exact ⟨rfl, rfl⟩
    · have hb : ((k : Int) == (m : Int)) = false := by simp; omega
      go_wp2_with (go_at_call 29; refine (is_errno _ _ _).mono ?_; rintro e w' ⟨rfl, rfl⟩)
      go_round
      case rel => exact ⟨m + 1, by omega, by omega, by go_num⟩
      case measure => simp [intOf]; omega

theorem no_fault (p off : Nat) (k : Nat) (h1 : 1 ≤ k) (h2 : k ≤ 17) (w : World) (hc : w.cell? ⟨p, off + 1, none⟩ = some (.int .i64 k)) :
    Calls Tryz.prog 11 #[.iface 103 (.pointer (some ⟨p, off, none⟩))] w fun e w' => e = .returned (.int .i64 k) ∧ w = w' := by
  go_enter Tryz.func11, Tryz.ntmps11
  go_wp2
  go_loop [3] (fun i => ∃ m : Nat, 1 ≤ m ∧ m ≤ k ∧ i = .int .i64 m) (fun i => 20 - (intOf i).toNat)
  case atStart => exact ⟨1, by omega, by omega, rfl⟩
  case round =>
    obtain ⟨m, hm1, hm2, rfl⟩ := hrel
    by_cases hkm : k = m
    · subst hkm
      have hb : ((k : Int) == (k : Int)) = true := by simp
      go_wp2_with (go_at_call 29; refine (is_fault _ _ _ _ _ hc).mono ?_; rintro e w' ⟨rfl, rfl⟩)
      go_ret
      exact ⟨rfl, rfl⟩
    · have hb : ((k : Int) == (m : Int)) = false := by simp; omega
      go_wp2_with (go_at_call 29; refine (is_fault _ _ _ _ _ hc).mono ?_; rintro e w' ⟨rfl, rfl⟩)
      go_round
      case rel => exact ⟨m + 1, by omega, by omega, by go_num⟩
      case measure => simp [intOf]; omega
end Go.Proofs.YthidipigpfcbbaaGreatDoor

namespace Go.Proofs.YthidipigpfcbbaaGreatDoor
open Go.RowKit Go.Extern.Stop Go.Stop Go.Extern

/-- An error's value, with its number and its place. B: a Fault lies from there on. -/
def ErrU (B : Nat) (w : World) (v : Value) (k : Nat) (at_ : Int) : Prop :=
  (k = 0 ∧ at_ = 0 ∧ v = .nilIface) ∨ (1 ≤ k ∧ k ≤ 17 ∧ at_ = 0 ∧ v = .iface 65 (.int .i64 k)) ∨ (1 ≤ k ∧ k ≤ 17 ∧ ∃ p, B ≤ p ∧ v = .iface 103 (.pointer (some ⟨p, 0, none⟩)) ∧ Whole w p 105 #[.int .i64 at_, .int .i64 k])

/-- The number of an error that a call answers. -/
theorem no_u {B : Nat} {w : World} {v : Value} {k : Nat} {at_ : Int} (h : ErrU B w v k at_) :
    Calls Tryz.prog 11 #[v] w fun e w' => e = .returned (.int .i64 (k : Nat)) ∧ w = w' := by
  rcases h with ⟨rfl, _, rfl⟩ | ⟨h1, h2, _, rfl⟩ | ⟨h1, h2, p, _, rfl, hw⟩
  · exact no_nil w
  · exact no_errno k h1 h2 w
  · exact no_fault p 0 k h1 h2 w (hw.at_ 1)

theorem ErrU.keeps {B : Nat} {w w' : World} {v : Value} {k : Nat} {a : Int} {S : Nat → Prop} (h : ErrU B w v k a) (K : Keeps S w w') (hS : ∀ x, B ≤ x → ¬ S x) : ErrU B w' v k a := by
  rcases h with h | h | ⟨h1, h2, p, h3, h4, h5⟩
  · exact .inl h
  · exact .inr (.inl h)
  · exact .inr (.inr ⟨h1, h2, p, h3, h4, h5.keeps K (hS p h3)⟩)
theorem ErrU.less {B C : Nat} {w : World} {v : Value} {k : Nat} {a : Int} (h : ErrU B w v k a) (hC : C ≤ B) : ErrU C w v k a := by
  rcases h with h | h | ⟨h1, h2, p, h3, h4, h5⟩
  · exact .inl h
  · exact .inr (.inl h)
  · exact .inr (.inr ⟨h1, h2, p, Nat.le_trans hC h3, h4, h5⟩)
theorem ErrU.same {B : Nat} {w w' : World} {v : Value} {k : Nat} {a : Int} (h : ErrU B w v k a) (K : Keeps (fun _ => False) w w') : ErrU B w' v k a := h.keeps K fun _ _ => id
theorem ErrU.nil {B : Nat} {w : World} {v : Value} {a : Int} (h : ErrU B w v 0 a) : v = .nilIface := by
  rcases h with ⟨_, _, h⟩ | ⟨h, _⟩ | ⟨h, _⟩
  · exact h
  · omega
  · omega
end Go.Proofs.YthidipigpfcbbaaGreatDoor
