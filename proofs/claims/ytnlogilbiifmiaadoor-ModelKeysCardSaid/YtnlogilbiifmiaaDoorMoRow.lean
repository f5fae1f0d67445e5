/-
  A slice of slices of pairs; the document's state in memory.
-/
import Derived.Test.YtnlogilbiifmiaaDoorMoRows
namespace Go.Proofs.YtnlogilbiifmiaaDoor
open Go.RowKit Go.Maps Go.Extern.Stop Go.Stop Go.Extern

/-- A slice, as a plain value. -/
abbrev Sl8 := Option Addr × Nat × Nat
def slv8 (x : Sl8) : Value := .slice x.1 x.2.1 x.2.2
def listK : RK Sl8 where
  T := 57
  e := 45
  size := 1
  bytes := 24
  z := .slice none 0 0
  cs := fun l => l.map slv8
  app := fun l m => by simp
  len := fun l => by simp
  one := fun l u hu => by obtain ⟨b, _, rfl⟩ := List.mem_map.1 hu; rfl
  hu := Tryd.underlying57
  info := by kernel_rfl
  zs := rfl
  pos := by decide
  few := by decide

theorem lrow_cells {w : World} {v : Value} {l : List Sl8} {n : Nat} (h : listK.Row w v l) (hn : l.length = n) :
    ∃ o c, v = .slice o n c ∧ (0 < n → ∃ g, o = some ⟨g, 0, none⟩ ∧ ∀ (i : Nat) (p : Sl8), l[i]? = some p → w.cell? ⟨g, i, none⟩ = some (slv8 p)) := by
  obtain ⟨o, c, rfl, ho⟩ := row_shape h
  subst hn
  refine ⟨o, c, rfl, fun h0 => ?_⟩
  obtain ⟨g, rfl⟩ := ho h0
  refine ⟨g, rfl, fun i p hp => ?_⟩
  have hi : i < l.length := (List.getElem?_eq_some_iff.1 hp).1
  refine (World.ownsRow.cellAt h i (by show i < l.length * 1; omega)).trans ?_
  show (l.map slv8)[i]? = _
  rw [List.getElem?_map, hp]; rfl

structure RMt (w : World) (r : Nat) (vK vL : Value) (ws : List Sl8) (A : M8) (Y : Nat → Prop) : Prop where
  blk : Whole w r 69 #[vK, vL]
  kinds : IRow w vK A.K
  lists : listK.Row w vL ws
  len : ws.length = A.L.length
  each : ∀ (i : Nat) (v : Sl8) (m : Tl), ws[i]? = some v → A.L[i]? = some m → PRow w (slv8 v) m
  inY : Y r ∧ (∀ g, vK.ownBlock = some g → Y g) ∧ (∀ g, vL.ownBlock = some g → Y g) ∧ ∀ v ∈ ws, ∀ g, (slv8 v).ownBlock = some g → Y g
  old : ∀ y, Y y → y < w.heap.size

/-- The document's state. -/
def RM (w : World) (r : Nat) (A : M8) (Y : Nat → Prop) : Prop := ∃ vK vL ws, RMt w r vK vL ws A Y

section
variable {w w' : World} {r : Nat} {vK vL : Value} {ws : List Sl8} {A : M8} {Y S : Nat → Prop}

theorem RMt.keeps (h : RMt w r vK vL ws A Y) (k : Keeps S w w') (hS : ∀ y, Y y → ¬ S y) : RMt w' r vK vL ws A Y where
  blk := h.blk.keeps k (hS _ h.inY.1)
  kinds := ownsRow_keeps h.kinds k fun g hg => hS g (h.inY.2.1 g hg)
  lists := ownsRow_keeps h.lists k fun g hg => hS g (h.inY.2.2.1 g hg)
  len := h.len
  each := fun i v m hv hm => ownsRow_keeps (h.each i v m hv hm) k fun g hg => hS g (h.inY.2.2.2 v (List.mem_of_getElem? hv) g hg)
  inY := h.inY
  old := fun y hy => Nat.lt_of_lt_of_le (h.old y hy) k.size
theorem RM.keeps (h : RM w r A Y) (k : Keeps S w w') (hS : ∀ y, Y y → ¬ S y) : RM w' r A Y := by
  obtain ⟨vK, vL, ws, h⟩ := h; exact ⟨vK, vL, ws, h.keeps k hS⟩
theorem RM.same (h : RM w r A Y) (k : Keeps (fun _ => False) w w') : RM w' r A Y := h.keeps k fun _ _ => id
theorem RM.old (h : RM w r A Y) : ∀ y, Y y → y < w.heap.size := by obtain ⟨vK, vL, ws, h⟩ := h; exact h.old
theorem RM.inY (h : RM w r A Y) : Y r := by obtain ⟨vK, vL, ws, h⟩ := h; exact h.inY.1
end

/-- What the document's state is behind a call. -/
def RMid (w w' : World) (r : Nat) (A : M8) (Y : Nat → Prop) : Prop := ∃ Y', RM w' r A Y' ∧ Mvs w Y Y' ∧ Keeps Y w w'
theorem RMid.same {w w' : World} {r : Nat} {A : M8} {Y : Nat → Prop} (h : RM w r A Y) (k : Keeps (fun _ => False) w w') : RMid w w' r A Y :=
  ⟨Y, h.same k, fun _ hx => .inl hx, k.mono fun _ _ => False.elim⟩

/-- What a collection's list is: where it stands, and its cells. -/
theorem RMt.col {w : World} {r : Nat} {vK vL : Value} {ws : List Sl8} {A : M8} {Y : Nat → Prop} (h : RMt w r vK vL ws A Y) {c : Nat} {W : Tl} (hc : A.L[c]? = some W) :
    ∃ g cap o cc, vL = .slice (some ⟨g, 0, none⟩) ws.length cap ∧ w.cell? ⟨g, c, none⟩ = some (.slice o W.length cc) ∧ PRow w (.slice o W.length cc) W ∧ c < ws.length ∧ ws[c]? = some (o, W.length, cc) := by
  have hlt : c < ws.length := by rw [h.len]; exact (List.getElem?_eq_some_iff.1 hc).1
  obtain ⟨o, cap, rfl, ho⟩ := lrow_cells h.lists rfl
  obtain ⟨g, rfl, hcs⟩ := ho (by omega)
  obtain ⟨v, hv⟩ : ∃ v, ws[c]? = some v := ⟨_, List.getElem?_eq_getElem hlt⟩
  have h1 := h.each c v W hv hc
  obtain ⟨o, cc, e, _⟩ := row_shape h1
  obtain ⟨v1, v2, v3⟩ := v
  unfold slv8 at e
  simp only [Value.slice.injEq] at e
  obtain ⟨rfl, rfl, rfl⟩ := e
  exact ⟨g, cap, _, _, rfl, hcs c _ hv, h1, hlt, hv⟩
end Go.Proofs.YtnlogilbiifmiaaDoor
