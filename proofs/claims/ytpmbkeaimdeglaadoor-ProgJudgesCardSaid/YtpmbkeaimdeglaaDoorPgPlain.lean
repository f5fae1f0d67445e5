/-
  Transactions, plainly: forests of statements; their lines in order; size, deep, which one is wrong; what was put behind, what was put within. Of no program.
-/
import Derived.Test.YtpmbkeaimdeglaaDoorTlPlain
namespace Go.Proofs.YtpmbkeaimdeglaaDoor

/-- A statement, apart from those in it. -/
structure St7 where
  k : Int
  c : Int
  r : Int
  ar : Int
  an : Int
  br : Int
  bn : Int

/-- Statements in order, each with its Body and its Else. -/
inductive Fo where
  | nil : Fo
  | cons (s : St7) (B E R : Fo) : Fo

namespace Fo
def items : Fo → List (St7 × Fo × Fo)
  | .nil => []
  | .cons s B E R => (s, B, E) :: R.items
def ofItems : List (St7 × Fo × Fo) → Fo
  | [] => .nil
  | (s, B, E) :: t => .cons s B E (ofItems t)
def len (F : Fo) : Nat := F.items.length
def size : Fo → Nat
  | .nil => 0
  | .cons _ B E R => 1 + B.size + E.size + R.size
def deep : Fo → Nat
  | .nil => 0
  | .cons _ B E R => max (1 + B.deep) (max (1 + E.deep) R.deep)
def app : Fo → Fo → Fo
  | .nil, G => G
  | .cons s B E R, G => .cons s B E (app R G)

theorem items_of (l : List (St7 × Fo × Fo)) : (ofItems l).items = l := by
  induction l with
  | nil => rfl
  | cons x t ih => obtain ⟨s, B, E⟩ := x; simp [ofItems, items, ih]
theorem of_items : ∀ F : Fo, ofItems F.items = F
  | .nil => rfl
  | .cons s B E R => by simp [items, ofItems, of_items R]
theorem items_app : ∀ F G : Fo, (F.app G).items = F.items ++ G.items
  | .nil, G => rfl
  | .cons s B E R, G => by simp [app, items, items_app R G]
theorem size_app : ∀ F G : Fo, (F.app G).size = F.size + G.size
  | .nil, G => by simp [app, size]
  | .cons s B E R, G => by simp [app, size, size_app R G]; omega
theorem deep_app : ∀ F G : Fo, (F.app G).deep = max F.deep G.deep
  | .nil, G => by simp [app, deep]
  | .cons s B E R, G => by simp [app, deep, deep_app R G]
theorem item_size : ∀ {F : Fo} {i : Nat} {s : St7} {B E : Fo}, F.items[i]? = some (s, B, E) → B.size + E.size < F.size
  | .cons s B E R, 0, _, _, _, h => by simp [items] at h; obtain ⟨rfl, rfl, rfl⟩ := h; simp [size]; omega
  | .cons s B E R, i + 1, _, _, _, h => by
    have := item_size (F := R) (i := i) (by simpa [items] using h)
    simp [size]; omega
  | .nil, i, _, _, _, h => by simp [items] at h
theorem item_deep : ∀ {F : Fo} {i : Nat} {s : St7} {B E : Fo}, F.items[i]? = some (s, B, E) → 1 + B.deep ≤ F.deep ∧ 1 + E.deep ≤ F.deep
  | .cons s B E R, 0, _, _, _, h => by simp [items] at h; obtain ⟨rfl, rfl, rfl⟩ := h; simp [deep]; omega
  | .cons s B E R, i + 1, _, _, _, h => by
    have := item_deep (F := R) (i := i) (by simpa [items] using h)
    simp [deep]; omega
  | .nil, i, _, _, _, h => by simp [items] at h
theorem len_le_size : ∀ F : Fo, F.len ≤ F.size
  | .nil => Nat.le_refl _
  | .cons s B E R => by
    have := len_le_size R
    simp [len, items, size] at this ⊢; omega
/-- Those ahead of a place, those from it on. -/
def upto (F : Fo) (i : Nat) : Fo := ofItems (F.items.take i)
theorem upto_zero (F : Fo) : F.upto 0 = .nil := by simp [upto, ofItems]
theorem upto_all {F : Fo} {i : Nat} (h : F.len ≤ i) : F.upto i = F := by
  unfold upto
  rw [List.take_of_length_le h, of_items]
theorem upto_add {F : Fo} {i : Nat} {s : St7} {B E : Fo} (h : F.items[i]? = some (s, B, E)) : F.upto (i + 1) = (F.upto i).app (.cons s B E .nil) := by
  unfold upto
  rw [List.take_add_one, h]
  have : ∀ (l m : List (St7 × Fo × Fo)), ofItems (l ++ m) = (ofItems l).app (ofItems m) := fun l m => by
    induction l with
    | nil => rfl
    | cons x t ih => obtain ⟨s, B, E⟩ := x; simp [ofItems, app, ih]
  rw [this]
  rfl
theorem size_upto {F : Fo} (i : Nat) : (F.upto i).size ≤ F.size := by
  have h : ∀ (l : List (St7 × Fo × Fo)) (i : Nat), (ofItems (l.take i)).size ≤ (ofItems l).size := fun l => by
    induction l with
    | nil => intro i; simp
    | cons x t ih =>
      intro i
      obtain ⟨s, B, E⟩ := x
      cases i with
      | zero => simp [ofItems, size]
      | succ i => have := ih i; simp [ofItems, size]; omega
  have := h F.items i
  rwa [of_items] at this
end Fo

/-- A line: a statement, its Body, its Else, how deep it lies. -/
structure Ln where
  s : St7
  B : Fo
  E : Fo
  d : Nat

def lin : Fo → Nat → List Ln
  | .nil, _ => []
  | .cons s B E R, d => ⟨s, B, E, d⟩ :: (lin B (d + 1) ++ (lin E (d + 1) ++ lin R d))

theorem lin_len : ∀ (F : Fo) (d : Nat), (lin F d).length = F.size
  | .nil, d => rfl
  | .cons s B E R, d => by simp [lin, Fo.size, lin_len B, lin_len E, lin_len R]; omega
theorem lin_app : ∀ (F G : Fo) (d : Nat), lin (F.app G) d = lin F d ++ lin G d
  | .nil, G, d => rfl
  | .cons s B E R, G, d => by simp [lin, Fo.app, lin_app R G d]
theorem lin_one (s : St7) (B E : Fo) (d : Nat) : lin (.cons s B E .nil) d = ⟨s, B, E, d⟩ :: (lin B (d + 1) ++ lin E (d + 1)) := by simp [lin]
theorem lin_upto {F : Fo} {i : Nat} {s : St7} {B E : Fo} (h : F.items[i]? = some (s, B, E)) (d : Nat) : lin (F.upto (i + 1)) d = lin (F.upto i) d ++ (⟨s, B, E, d⟩ :: (lin B (d + 1) ++ lin E (d + 1))) := by
  rw [Fo.upto_add h, lin_app, lin_one]
theorem lin_deep : ∀ (F : Fo) (d : Nat), ∀ l ∈ lin F d, d ≤ l.d ∧ l.d + 1 ≤ d + F.deep
  | .nil, d, l, h => by simp [lin] at h
  | .cons s B E R, d, l, h => by
    simp only [lin, List.mem_cons, List.mem_append] at h
    simp only [Fo.deep]
    rcases h with rfl | h | h | h
    · simp; omega
    · have := lin_deep B (d + 1) l h; omega
    · have := lin_deep E (d + 1) l h; omega
    · have := lin_deep R d l h; omega
theorem lin_deepest : ∀ (F : Fo) (d : Nat), 0 < F.deep → ∃ l ∈ lin F d, l.d + 1 = d + F.deep
  | .nil, d, h => by simp [Fo.deep] at h
  | .cons s B E R, d, _ => by
    simp only [lin, List.mem_cons, List.mem_append]
    by_cases h1 : Fo.deep (.cons s B E R) = 1
    · exact ⟨⟨s, B, E, d⟩, .inl rfl, by rw [h1]⟩
    · have hd : Fo.deep (.cons s B E R) = max (1 + B.deep) (max (1 + E.deep) R.deep) := rfl
      by_cases h2 : Fo.deep (.cons s B E R) = 1 + B.deep
      · obtain ⟨l, hl, e⟩ := lin_deepest B (d + 1) (by omega)
        exact ⟨l, .inr (.inl hl), by omega⟩
      · by_cases h3 : Fo.deep (.cons s B E R) = 1 + E.deep
        · obtain ⟨l, hl, e⟩ := lin_deepest E (d + 1) (by omega)
          exact ⟨l, .inr (.inr (.inl hl)), by omega⟩
        · obtain ⟨l, hl, e⟩ := lin_deepest R d (by omega)
          exact ⟨l, .inr (.inr (.inr hl)), by omega⟩
/-- The same lines, deeper. -/
theorem lin_shift : ∀ (F : Fo) (d e : Nat), lin F (d + e) = (lin F d).map fun l => { l with d := l.d + e }
  | .nil, d, e => rfl
  | .cons s B E R, d, e => by
    have h : d + e + 1 = d + 1 + e := by omega
    simp only [lin, List.map_cons, List.map_append]
    rw [h, lin_shift B (d + 1) e, lin_shift E (d + 1) e, lin_shift R d e]

/-! ### which one is wrong -/
def inL (n : Int) (l : List Int) : Bool := l.any fun x => x == n
def argOk (r n : Int) (there : Bool) : Bool := if there then decide (0 ≤ r ∧ r ≤ 8 ∧ -999 ≤ n ∧ n ≤ 999) else decide (r = 0 ∧ n = 0)
/-- Is a statement right, apart from those in it (nb, ne: how many are in its Body, its Else)? -/
def one (s : St7) (nb ne : Nat) (K : List Int) : Bool :=
  decide (1 ≤ s.k ∧ s.k ≤ 16) &&
  (if s.k ≤ 8 then decide (0 ≤ s.c ∧ s.c < (K.length : Int)) else decide (s.c = 0)) &&
  (if s.k = 6 ∨ s.k = 7 then K.getD s.c.toNat 0 == 3 else true) &&
  (if inL s.k [1, 4, 5, 6, 7, 9, 10] then decide (1 ≤ s.r ∧ s.r ≤ 8) else decide (s.r = 0)) &&
  argOk s.ar s.an (inL s.k [1, 2, 3, 4, 6, 7, 9, 10, 11, 12]) && argOk s.br s.bn (inL s.k [2, 7, 10, 11]) &&
  (if s.k = 12 then decide (s.ar = 0 ∧ 0 ≤ s.an ∧ s.an ≤ 5) else true) &&
  (decide (nb = 0) || decide (11 ≤ s.k ∧ s.k ≤ 14)) && (decide (ne = 0) || decide (s.k = 11 ∨ s.k = 14))

/-- What is wrong first, of lines from number i + 1 on: the error's number, its place. -/
def rightL (K : List Int) : List Ln → Nat → Nat × Nat
  | [], _ => (0, 0)
  | l :: t, i => if 100 ≤ i then (8, i + 1) else if 8 < l.d then (10, i + 1) else if one l.s l.B.len l.E.len K = false then (9, i + 1) else rightL K t (i + 1)
def right (F : Fo) (K : List Int) : Nat × Nat := rightL K (lin F 1) 0

theorem right_app (K : List Int) : ∀ (L M : List Ln) (i : Nat), rightL K (L ++ M) i = if (rightL K L i).1 ≠ 0 then rightL K L i else rightL K M (i + L.length)
  | [], M, i => by simp [rightL]
  | l :: t, M, i => by
    simp only [List.cons_append, rightL]
    split
    · simp
    · split
      · simp
      · split
        · simp
        · rw [right_app K t M (i + 1), List.length_cons, show i + 1 + t.length = i + (t.length + 1) by omega]
theorem right_none (K : List Int) : ∀ (L : List Ln) (i : Nat), (rightL K L i).1 = 0 → (rightL K L i).2 = 0 ∧ (L ≠ [] → i + L.length ≤ 100) ∧ ∀ l ∈ L, l.d ≤ 8 ∧ one l.s l.B.len l.E.len K = true
  | [], i, _ => ⟨rfl, fun h => absurd rfl h, fun l h => by cases h⟩
  | l :: t, i, h => by
    simp only [rightL] at h ⊢
    split at h
    · cases h
    · rename_i h1
      split at h
      · cases h
      · rename_i h2
        split at h
        · cases h
        · rename_i h3
          obtain ⟨a, b, c⟩ := right_none K t (i + 1) h
          rw [if_neg h1, if_neg h2, if_neg h3]
          refine ⟨a, fun _ => ?_, fun x hx => ?_⟩
          · by_cases ht : t = []
            · subst ht; simp; omega
            · have := b ht; simp; omega
          · rcases List.mem_cons.1 hx with rfl | hx
            · exact ⟨by omega, by simpa using h3⟩
            · exact c x hx
theorem right_ok (K : List Int) : ∀ (L : List Ln) (i : Nat), i + L.length ≤ 100 → (∀ l ∈ L, l.d ≤ 8 ∧ one l.s l.B.len l.E.len K = true) → rightL K L i = (0, 0)
  | [], i, _, _ => rfl
  | l :: t, i, h, hl => by
    obtain ⟨h1, h2⟩ := hl l (by simp)
    simp only [List.length_cons] at h
    simp only [rightL]
    rw [if_neg (by omega), if_neg (by omega), if_neg (by rw [h2]; simp)]
    exact right_ok K t (i + 1) (by omega) fun x hx => hl x (List.mem_cons_of_mem _ hx)
/-- Where there are not too many, the numbers are moved on. -/
theorem right_move (K : List Int) (j : Nat) : ∀ (L : List Ln) (i : Nat), i + j + L.length ≤ 100 → (rightL K L (i + j)).1 = (rightL K L i).1 ∧ ((rightL K L i).1 ≠ 0 → (rightL K L (i + j)).2 = j + (rightL K L i).2)
  | [], i, _ => ⟨rfl, fun h => absurd rfl h⟩
  | l :: t, i, h => by
    simp only [List.length_cons] at h
    simp only [rightL]
    have a1 : ¬ 100 ≤ i + j := by omega
    have a2 : ¬ 100 ≤ i := by omega
    by_cases a3 : 8 < l.d
    · simp only [if_neg a1, if_neg a2, if_pos a3]
      exact ⟨trivial, fun _ => by omega⟩
    · by_cases a4 : one l.s l.B.len l.E.len K = false
      · simp only [if_neg a1, if_neg a2, if_neg a3, if_pos a4]
        exact ⟨trivial, fun _ => by omega⟩
      · simp only [if_neg a1, if_neg a2, if_neg a3, if_neg a4]
        have := right_move K j t (i + 1) (by omega)
        rw [show i + 1 + j = i + j + 1 by omega] at this
        exact this
/-- Of lines that are right but for how deep they lie. -/
theorem right_only (K : List Int) : ∀ (L : List Ln) (i : Nat), (∀ l ∈ L, one l.s l.B.len l.E.len K = true) → (rightL K L i).1 = 0 ∨ (rightL K L i).1 = 8 ∨ (rightL K L i).1 = 10
  | [], i, _ => .inl rfl
  | l :: t, i, h => by
    simp only [rightL]
    split
    · exact .inr (.inl rfl)
    · split
      · exact .inr (.inr rfl)
      · rw [if_neg (by rw [h l (by simp)]; simp)]
        exact right_only K t (i + 1) fun x hx => h x (List.mem_cons_of_mem _ hx)

/-! ### parts -/
theorem parts_first {F G : Fo} {K : List Int} (h : (right F K).1 ≠ 0) : right (F.app G) K = right F K := by
  unfold right at h ⊢
  rw [lin_app, right_app, if_pos h]
theorem parts_second {F G : Fo} {K : List Int} (hs : (F.app G).size ≤ 100) (h : (right F K).1 = 0) : (right (F.app G) K).1 = (right G K).1 ∧ ((right G K).1 ≠ 0 → (right (F.app G) K).2 = F.size + (right G K).2) := by
  unfold right at h ⊢
  rw [lin_app, right_app, if_neg (by rw [h]; simp), lin_len]
  have := right_move K F.size (lin G 1) 0 (by rw [lin_len]; rw [Fo.size_app] at hs; omega)
  simpa using this

/-! ### within -/
def s13 : St7 := ⟨13, 0, 0, 0, 0, 0, 0⟩
def wrap (F : Fo) : Fo := .cons s13 F .nil .nil
theorem wrap_size (F : Fo) : (wrap F).size = F.size + 1 := by simp [wrap, Fo.size]; omega
theorem wrap_deep (F : Fo) : (wrap F).deep = F.deep + 1 := by simp [wrap, Fo.deep]; omega
theorem one_s13 (nb : Nat) (K : List Int) : one s13 nb 0 K = true := by
  simp [one, s13, inL, argOk]
theorem within {F : Fo} {K : List Int} (h : (right F K).1 = 0) :
    F.size ≤ 100 ∧ F.deep ≤ 8 ∧ (F.deep = 8 → (right (wrap F) K).1 = 10 ∨ (right (wrap F) K).1 = 8) ∧ (F.deep ≠ 8 → F.size = 100 → (right (wrap F) K).1 = 8) ∧ (F.deep ≠ 8 → F.size ≠ 100 → (right (wrap F) K).1 = 0) := by
  unfold right at h
  obtain ⟨_, h2, h3⟩ := right_none K _ _ h
  have e1 : lin (wrap F) 1 = ⟨s13, F, .nil, 1⟩ :: lin F 2 := by simp [wrap, lin]
  have e2 : rightL K (lin (wrap F) 1) 0 = rightL K (lin F 2) 1 := by
    rw [e1]
    simp only [rightL]
    rw [if_neg (by omega), if_neg (by omega), if_neg (by rw [show (Fo.nil).len = 0 from rfl, one_s13]; simp)]
  have hs : F.size ≤ 100 := by
    by_cases hl : lin F 1 = []
    · have := lin_len F 1
      rw [hl] at this
      simp at this
      omega
    · have := h2 hl
      rw [lin_len] at this
      omega
  have hd : F.deep ≤ 8 := by
    rcases Nat.eq_zero_or_pos F.deep with h0 | h0
    · omega
    · obtain ⟨l, hl, e⟩ := lin_deepest F 1 h0
      have := (h3 l hl).1
      omega
  have h1 : ∀ l ∈ lin F 2, one l.s l.B.len l.E.len K = true := fun l hl => by
    rw [show 2 = 1 + 1 from rfl, lin_shift] at hl
    obtain ⟨x, hx, rfl⟩ := List.mem_map.1 hl
    exact (h3 x hx).2
  have hr := right_only K _ 1 h1
  unfold right
  rw [e2]
  refine ⟨hs, hd, fun h8 => ?_, fun h8 h100 => ?_, fun h8 h100 => ?_⟩
  · rcases hr with hr | hr | hr
    · exfalso
      obtain ⟨_, _, h5⟩ := right_none K _ _ hr
      obtain ⟨l, hl, e⟩ := lin_deepest F 2 (by omega)
      have := (h5 l hl).1
      omega
    · exact .inr hr
    · exact .inl hr
  · have hall : ∀ l ∈ lin F 2, l.d ≤ 8 := fun l hl => by have := (lin_deep F 2 l hl).2; omega
    have key : ∀ (L : List Ln) (i : Nat), (∀ l ∈ L, l.d ≤ 8 ∧ one l.s l.B.len l.E.len K = true) → i ≤ 100 → 100 < i + L.length → (rightL K L i).1 = 8 := fun L => by
      induction L with
      | nil => intro i _ _ h; simp at h; omega
      | cons l t ih =>
        intro i hl hi hlen
        obtain ⟨q1, q2⟩ := hl l (by simp)
        simp only [List.length_cons] at hlen
        simp only [rightL]
        by_cases hi' : 100 ≤ i
        · rw [if_pos hi']
        · rw [if_neg hi', if_neg (by omega), if_neg (by rw [q2]; simp)]
          exact ih (i + 1) (fun x hx => hl x (List.mem_cons_of_mem _ hx)) (by omega) (by omega)
    exact key _ 1 (fun l hl => ⟨hall l hl, h1 l hl⟩) (by omega) (by rw [lin_len]; omega)
  · rw [right_ok K _ 1 (by rw [lin_len]; omega) fun l hl => ⟨by have := (lin_deep F 2 l hl).2; omega, h1 l hl⟩]

/-! ### collections, waiting -/
def names (s : St7) : Bool := decide (1 ≤ s.k ∧ s.k ≤ 8)
/-- Is a collection named? -/
def Named (L : List Ln) (x : Int) : Prop := ∃ l ∈ L, names l.s = true ∧ l.s.c = x
def waits (F : Fo) : Bool := (lin F 1).any fun l => decide (l.s.k = 15)
end Go.Proofs.YtpmbkeaimdeglaaDoor
