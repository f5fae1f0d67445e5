/-
  delete of a key of a map with integer keys, at the operation. Of no program.
-/
import Derived.Test.YtpmbkeaimdeglaaDoorBkMap
namespace Go.Proofs.YtpmbkeaimdeglaaDoor
open Go.Maps Go.RowKit

def clr {V : Type} (f : Int → Option V) (k : Int) : Int → Option V := fun j => if j = k then none else f j

section
variable {V : Type} {P : Program} {K T e : TypeId} {E : Enc V} {w w' : World} {b : Nat} {f : Int → Option V}

theorem Reads.del {D : DataW Unit} (h : Reads E D f) (k : Int) : Reads E (D.del (ik k)) (clr f k) := by
  intro j
  by_cases e : j = k
  · subst e
    simp only [clr, if_true, Option.isSome]
    exact ⟨has_del_same, fun z => atKey_del_same z⟩
  · simp only [clr, if_neg e]
    exact ⟨(has_del_other (ik_ne e)).trans (h j).1, fun z => (atKey_del_other (ik_ne e) z).trans ((h j).2 z)⟩

theorem HoldsM.drop (h : HoldsM P K E w b f) (hk : P.underlying K = some (.int .i64)) (ht : P.underlying T = some (.map K e)) (k : Int) (hw : (Lit.int .i64 k).wf = true) (ty : TypeId) :
    ∃ w', (Builtin.delete_ #[T, K] ty #[.map (some b), .int .i64 k]).run P w = .ok (.tuple #[]) w' ∧ HoldsM P K E w' b (clr f k) ∧ w.grownBy w' (some b) := by
  obtain ⟨D, n, h1, rfl, h3⟩ := h
  obtain ⟨w', hrun, h4, h5⟩ := h1.drop (int_keyed hk) ht (keyOf_int_mk hk hw) ty
  refine ⟨w', hrun, ⟨_, Maps.size (D.del (ik k)), ?_, rfl, h3.del k⟩, h5.grown⟩
  obtain ⟨es, clock, hb, F, _, hD⟩ := h4
  refine ⟨es, clock, hb, F, ?_, hD⟩
  show es.size ≤ Maps.size (D.del (.int .i64 k))
  rw [hD]
  simp [Maps.size, length_sorted]
end

theorem wpList_drop {V : Type} {P : Program} (w : World) {ops : Array Oper} {rest : List Oper} {o : Oper} {a : Act} {Q : Exit → Act → World → Prop} (hg : o.guard = none) (m x : Operand) (t k : TypeId) (hop : o.op = Op.call { callee := Callee.builtin Builtin.delete, args := #[m, x], argTypes := #[t, k] })
    (e : TypeId) (E : Enc V) (hk : P.underlying k = some (.int .i64)) (ht : P.underlying t = some (.map k e)) (b : Nat) (f : Int → Option V) (hm : a.eval m = .map (some b)) (h : HoldsM P k E w b f) (i : Int) (hx : a.eval x = .int .i64 i) (hw : (Lit.int .i64 i).wf = true)
    (hK : ∀ w', HoldsM P k E w' b (clr f i) → w.grownBy w' (some b) → wpList P ops Q rest (a.put o.dst (.tuple #[])) w') : wpList P ops Q (o :: rest) a w := by
  refine wpList_plain hg fun K' hK' => ?_
  obtain ⟨w', hrun, r1, r2⟩ := h.drop hk ht i hw o.type
  unfold Oper.wp
  simp [execOp, hop, resolve, invoke, builtin, hm, hx, hrun, Result.andThen]
  exact hK' _ _ (hK w' r1 r2)
end Go.Proofs.YtpmbkeaimdeglaaDoor
