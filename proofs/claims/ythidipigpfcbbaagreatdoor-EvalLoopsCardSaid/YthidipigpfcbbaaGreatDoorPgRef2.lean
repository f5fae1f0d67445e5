/-
  concordref09.Right, Deep, Waits by contract.
  concordref09.Deep, Waits by contract.
-/
import Derived.Test.YthidipigpfcbbaaGreatDoorPgOneAll

namespace Go.Proofs.YthidipigpfcbbaaGreatDoor
open Go.RowKit Go.Extern.Stop Go.Stop Go.Extern

/-- A line's cells. -/
structure LnAt (w : World) (g o : Nat) (s : St7) (b e : Sl) (d : Int) : Prop where
  st : Cells7 w s g o
  b : w.cell? ⟨g, o + 7, none⟩ = some (slv b)
  e : w.cell? ⟨g, o + 8, none⟩ = some (slv e)
  d : w.cell? ⟨g, o + 9, none⟩ = some (.int .i64 d)
theorem LnAt.same {w w' : World} {g o : Nat} {s : St7} {b e : Sl} {d : Int} (h : LnAt w g o s b e d) (k : Keeps (fun _ => False) w w') : LnAt w' g o s b e d :=
  ⟨h.st.keeps k fun _ _ => id, (k.cell (cell_lt h.b) id).trans h.b, (k.cell (cell_lt h.e) id).trans h.e, (k.cell (cell_lt h.d) id).trans h.d⟩
theorem lin_wf {w : World} : ∀ {F : Fo} {b o d : Nat}, At w F b o → ∀ l ∈ lin F d, (Lit.int .i64 l.s.c).wf = true
  | .nil, _, _, _, _, l, h => by simp [lin] at h
  | .cons s B E R, b, o, d, h, l, hl => by
    obtain ⟨h1, ⟨v, _, h3⟩, ⟨u, _, h5⟩, h6⟩ := h
    have sub : ∀ {G : Fo} {q : Value} {e : Nat}, SliceIs q G.len (At w G) → (∀ {b o : Nat}, At w G b o → ∀ l ∈ lin G e, (Lit.int .i64 l.s.c).wf = true) → ∀ l ∈ lin G e, (Lit.int .i64 l.s.c).wf = true := fun {G q e} hq hG l hl => by
      obtain ⟨a, c, _, _, _, h4⟩ := hq
      rcases Nat.eq_zero_or_pos G.len with h0 | h0
      · have : G.items = [] := List.eq_nil_of_length_eq_zero h0
        have hG : G = .nil := by rw [← Fo.of_items G, this]; rfl
        subst hG
        simp [lin] at hl
      · obtain ⟨b, o, _, hr⟩ := h4 h0
        exact hG hr l hl
    simp only [lin, List.mem_cons, List.mem_append] at hl
    rcases hl with rfl | hl | hl | hl
    · exact h1.wf
    · exact sub h3 (fun ha => lin_wf (F := B) ha) l hl
    · exact sub h5 (fun ha => lin_wf (F := E) ha) l hl
    · exact lin_wf (F := R) h6 l hl
theorem SlOf.wf {w : World} {v : Value} {F : Fo} {d : Nat} (h : SlOf w v F) : ∀ l ∈ lin F d, (Lit.int .i64 l.s.c).wf = true := fun l hl => by
  obtain ⟨a, c, _, _, _, h4⟩ := h
  rcases Nat.eq_zero_or_pos F.len with h0 | h0
  · have : F.items = [] := List.eq_nil_of_length_eq_zero h0
    have hF : F = .nil := by rw [← Fo.of_items F, this]; rfl
    subst hF
    simp [lin] at hl
  · obtain ⟨b, o, _, hr⟩ := h4 h0
    exact lin_wf hr l hl

theorem SlOf.count {w : World} {x : Sl} {F : Fo} (h : SlOf w (slv x) F) : x.2.1 = F.len := by
  obtain ⟨a, c, h1, _⟩ := h
  injection h1

end Go.Proofs.YthidipigpfcbbaaGreatDoor

namespace Go.Proofs.YthidipigpfcbbaaGreatDoor
open Go.RowKit Go.Extern.Stop Go.Stop Go.Extern

/-! ### plainly -/
def deepL (L : List Ln) : Nat := L.foldl (fun m l => max m l.d) 0
theorem deepL_snoc (L : List Ln) (l : Ln) : deepL (L ++ [l]) = max (deepL L) l.d := by simp [deepL]
theorem fold_ge (L : List Ln) : ∀ m : Nat, m ≤ L.foldl (fun m l => max m l.d) m ∧ (∀ l ∈ L, l.d ≤ L.foldl (fun m l => max m l.d) m) ∧ ∀ M : Nat, m ≤ M → (∀ l ∈ L, l.d ≤ M) → L.foldl (fun m l => max m l.d) m ≤ M := by
  induction L with
  | nil => intro m; exact ⟨Nat.le_refl _, (fun l h => absurd h List.not_mem_nil), fun M h _ => h⟩
  | cons x t ih =>
    intro m
    obtain ⟨h1, h2, h3⟩ := ih (max m x.d)
    refine ⟨Nat.le_trans (Nat.le_max_left _ _) h1, fun l hl => ?_, fun M hm hl => h3 M (Nat.max_le.2 ⟨hm, hl x (by simp)⟩) fun l h => hl l (List.mem_cons_of_mem _ h)⟩
    rcases List.mem_cons.1 hl with rfl | hl
    · exact Nat.le_trans (Nat.le_max_right _ _) h1
    · exact h2 l hl
theorem deepL_lin (F : Fo) : deepL (lin F 1) = F.deep := by
  obtain ⟨_, h2, h3⟩ := fold_ge (lin F 1) 0
  have u := h3 F.deep (Nat.zero_le _) fun l hl => by have := (lin_deep F 1 l hl).2; omega
  refine Nat.le_antisymm u ?_
  rcases Nat.eq_zero_or_pos F.deep with h | h
  · omega
  · obtain ⟨l, hl, e⟩ := lin_deepest F 1 h
    have := h2 l hl
    unfold deepL
    omega
theorem deepL_le {F : Fo} {i : Nat} : deepL ((lin F 1).take i) ≤ F.deep := by
  obtain ⟨_, _, h3⟩ := fold_ge ((lin F 1).take i) 0
  exact h3 F.deep (Nat.zero_le _) fun l hl => by have := (lin_deep F 1 l (List.mem_of_mem_take hl)).2; omega

end Go.Proofs.YthidipigpfcbbaaGreatDoor
