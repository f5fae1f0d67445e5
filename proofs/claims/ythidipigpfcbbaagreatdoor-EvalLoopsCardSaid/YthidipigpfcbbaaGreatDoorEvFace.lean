/-
  What the program's calls have to answer ('Face11': the calls of package eval, over states that keep 'Face'); what was told, in memory.
-/
import Derived.Test.YthidipigpfcbbaaGreatDoorMoOn8
import Derived.Test.YthidipigpfcbbaaGreatDoorMoSame
import Derived.Test.YthidipigpfcbbaaGreatDoorPgFace
import Derived.Test.YthidipigpfcbbaaGreatDoorEvRight
namespace Go.Proofs.YthidipigpfcbbaaGreatDoor
open Go.RowKit Go.Maps Go.Extern.Stop Go.Stop Go.Extern

/-- A transaction's registers and what it was told, at first. -/
def rs0 (A : M8) : RS := ⟨A, List.replicate 9 0, []⟩
def endC (k : Nat) : Int := if k = 0 then 1 else (k : Int)
/-- What a transaction does alone. -/
def runA (A : M8) (F : Fo) : RS × Nat × Nat := evF F (rs0 A) 0
/-- The state behind it. -/
def runS (A : M8) (F : Fo) : M8 := if (runA A F).2.1 = 0 then (runA A F).1.A else A
/-- An api.Eval. -/
def evalV (k : Int) (v : Value) : Value := .agg #[.int .i64 k, v]
/-- What Run answers of a state that is there. -/
def RunTo (PM : PMem) (w : World) (A : M8) (X : Nat → Prop) (F : Fo) (e : Ending) (w' : World) : Prop := Keeps (fun _ => False) w w' ∧
  ((∃ ev k a, e = .returned (.tuple #[.pointer none, evalV 0 (.slice none 0 0), ev]) ∧ k ≠ 0 ∧ ErrU w.heap.size w' ev k a) ∨
   (∃ t Z tv, e = .returned (.tuple #[.pointer (some ⟨t, 0, none⟩), evalV (endC (runA A F).2.1) tv, .nilIface]) ∧ (right F A.K).1 = 0 ∧ (runA A F).2.1 ≠ 5 ∧
      PM w' t (runS A F) Z ∧ (∀ x, Z x → w.heap.size ≤ x ∨ X x) ∧ IRow w' tv (runA A F).1.T ∧ (runA A F).1.T.length ≤ 300000 ∧ (∀ g, tv.ownBlock = some g → w.heap.size ≤ g)))
/-- The same, but that it does not say whether a transaction is right or a put is not done: these two do. -/
structure Face11 (PM : PMem) : Prop where
  run_ : ∀ {w : World} {s : Nat} {A : M8} {X : Nat → Prop} {v : Value} {F : Fo}, Glob w → PM w s A X → SlOf w v F → F.size ≤ 20000 → F.deep ≤ 20000 →
    Calls Tryz.prog 10 #[.pointer (some ⟨s, 0, none⟩), v] w (RunTo PM w A X F)
  good_ : ∀ {w : World} {s : Nat} {A : M8} {X : Nat → Prop} {v : Value} {F : Fo}, Glob w → PM w s A X → SlOf w v F → F.size ≤ 20000 → F.deep ≤ 20000 → (right F A.K).1 = 0 → (runA A F).2.1 ≠ 5 →
    Calls Tryz.prog 10 #[.pointer (some ⟨s, 0, none⟩), v] w fun e w' => Keeps (fun _ => False) w w' ∧ ∃ t Z tv, e = .returned (.tuple #[.pointer (some ⟨t, 0, none⟩), evalV (endC (runA A F).2.1) tv, .nilIface]) ∧
      PM w' t (runS A F) Z ∧ (∀ x, Z x → w.heap.size ≤ x ∨ X x) ∧ IRow w' tv (runA A F).1.T ∧ (runA A F).1.T.length ≤ 300000 ∧ (∀ g, tv.ownBlock = some g → w.heap.size ≤ g)
/-- Of a state that is none (in EvalNil's seat alone). -/
structure FaceN : Prop where
  run_nil : ∀ {w : World} {v : Value}, Calls Tryz.prog 10 #[.pointer none, v] w fun e w' => (∃ ev a, e = .returned (.tuple #[.pointer none, evalV 0 (.slice none 0 0), ev]) ∧ ErrU w.heap.size w' ev 1 a) ∧ Keeps (fun _ => False) w w'
  all_nil : ∀ {w : World} {v : Value} {g : Nat}, Glob w → Whole w g 24 #[v] → Calls Tryz.prog 16 #[.pointer none, .slice (some ⟨g, 0, none⟩) 1 1] w fun e w' => (∃ u ev a, e = .returned (.tuple #[.pointer none, u, ev]) ∧ u = .slice none 0 0 ∧ ErrU w.heap.size w' ev 1 a) ∧ Keeps (fun _ => False) w w'

/-! ### plainly -/
/-- Two runs that did not need all steps. -/
theorem run_free {A : M8} {F : Fo} (h : (runA A F).2.1 ≠ 4) : runA A F = evU F (rs0 A) := ev_free h
theorem end_1 {k : Nat} (h : k ≠ 1) : endC k = 1 ↔ k = 0 := by
  unfold endC
  split
  · simp [*]
  · omega
theorem plain_no1 : ∀ F : Fo, ∀ r, (evU F r).2.1 ≠ 1
  | .nil => fun r => by simp [evU]
  | .cons s B E F => fun r => by
    have ht : ∀ m r, (timesU (evU B) m r).2.1 ≠ 1 := fun m => by
      induction m with
      | zero => intro r; simp [timesU]
      | succ m ih =>
        intro r
        simp only [timesU]
        split
        · exact ih _
        · exact plain_no1 B r
    have hS : ∀ r, (stU s (evU B) (evU E) r).2.1 ≠ 1 := fun r => by
      unfold stU
      split
      · split
        · exact plain_no1 B r
        · exact plain_no1 E r
      · split
        · exact ht _ r
        · split
          · split
            · simp
            · exact plain_no1 B r
          · split
            · split
              · exact plain_no1 E r
              · exact plain_no1 B r
            · exact (plain_end s r).2
    simp only [evU]
    split
    · exact plain_no1 F _
    · exact hS r
/-- Two statements that were laid in one row. -/
def stAgg2 (s : St7) (b e : Sl) (t : St7) (b' e' : Sl) : Array Value := #[.int .i64 s.k, .int .i64 s.c, .int .i64 s.r, .int .i64 s.ar, .int .i64 s.an, .int .i64 s.br, .int .i64 s.bn, slv b, slv e, .int .i64 t.k, .int .i64 t.c, .int .i64 t.r, .int .i64 t.ar, .int .i64 t.an, .int .i64 t.br, .int .i64 t.bn, slv b', slv e']
theorem sl_lit2 {w : World} {g : Nat} {s t : St7} {b e b' e' : Sl} {B E B' E' : Fo} (h : Whole w g 40 (stAgg2 s b e t b' e')) (hB : SlOf w (slv b) B) (hE : SlOf w (slv e) E) (hB' : SlOf w (slv b') B') (hE' : SlOf w (slv e') E') (hw : (Lit.int .i64 s.c).wf = true) (hw' : (Lit.int .i64 t.c).wf = true) :
    SlOf w (.slice (some ⟨g, 0, none⟩) 2 2) (.cons s B E (.cons t B' E' .nil)) := by
  refine ⟨some ⟨g, 0, none⟩, 2, rfl, ⟨Nat.le_refl 2, (by decide : 2 ≤ maxLen)⟩, (fun e => by cases e), fun _ => ⟨g, 0, rfl, ?_⟩⟩
  have key : At w (Fo.ofItems [(s, B, E), (t, B', E')]) g 0 := at_of fun i x hx => by
    match i, hx with
    | 0, hx =>
      cases hx
      exact ⟨⟨h.at_ 0, h.at_ 1, h.at_ 2, h.at_ 3, h.at_ 4, h.at_ 5, h.at_ 6, hw⟩, ⟨_, h.at_ 7, hB⟩, ⟨_, h.at_ 8, hE⟩⟩
    | 1, hx =>
      cases hx
      exact ⟨⟨h.at_ 9, h.at_ 10, h.at_ 11, h.at_ 12, h.at_ 13, h.at_ 14, h.at_ 15, hw'⟩, ⟨_, h.at_ 16, hB'⟩, ⟨_, h.at_ 17, hE'⟩⟩
    | i + 2, hx => simp at hx
  exact key
end Go.Proofs.YthidipigpfcbbaaGreatDoor
