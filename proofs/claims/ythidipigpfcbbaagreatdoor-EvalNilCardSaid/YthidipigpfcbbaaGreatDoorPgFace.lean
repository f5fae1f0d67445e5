/-
  What the program's calls have to answer ('Face9': the calls of package prog); concordlaw09.alive by contract.
-/
import Derived.Test.YthidipigpfcbbaaGreatDoorPgRef2
import Derived.Test.YthidipigpfcbbaaGreatDoorErPlace
namespace Go.Proofs.YthidipigpfcbbaaGreatDoor
open Go.RowKit Go.Extern.Stop Go.Stop Go.Extern

theorem IntL.none_ints (w : World) : IntL w none 0 [] := ⟨rfl, Nat.zero_le _, fun _ => rfl, fun h => absurd h (Nat.lt_irrefl _)⟩
/-- A slice of one statement that was laid. -/
theorem sl_lit {w : World} {g : Nat} {s : St7} {b e : Sl} {B E : Fo} (h : Whole w g 40 (stAgg s b e)) (hB : SlOf w (slv b) B) (hE : SlOf w (slv e) E) (hw : (Lit.int .i64 s.c).wf = true) : SlOf w (.slice (some ⟨g, 0, none⟩) 1 1) (.cons s B E .nil) :=
  ⟨some ⟨g, 0, none⟩, 1, rfl, ⟨Nat.le_refl 1, (by decide : 1 ≤ maxLen)⟩, (fun e => by cases e), fun _ => ⟨g, 0, rfl, ⟨h.at_ 0, h.at_ 1, h.at_ 2, h.at_ 3, h.at_ 4, h.at_ 5, h.at_ 6, hw⟩, ⟨_, h.at_ 7, hB⟩, ⟨_, h.at_ 8, hE⟩, trivial⟩⟩
theorem sl_none (w : World) : SlOf w (slv (none, 0, 0)) .nil := SlOf.nil_ w

theorem right_le (F : Fo) (K : List Int) : (right F K).1 = 0 ∨ (right F K).1 = 8 ∨ (right F K).1 = 9 ∨ (right F K).1 = 10 := by
  have key : ∀ (L : List Ln) (i : Nat), (rightL K L i).1 = 0 ∨ (rightL K L i).1 = 8 ∨ (rightL K L i).1 = 9 ∨ (rightL K L i).1 = 10 := fun L => by
    induction L with
    | nil => intro i; exact .inl rfl
    | cons l t ih =>
      intro i
      simp only [rightL]
      split
      · exact .inr (.inl rfl)
      · split
        · exact .inr (.inr (.inr rfl))
        · split
          · exact .inr (.inr (.inl rfl))
          · exact ih _
  exact key _ _

end Go.Proofs.YthidipigpfcbbaaGreatDoor
