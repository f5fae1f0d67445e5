/-
  Timers in a heap: what is ahead of what; what two that change places leave; when a list is a heap but for one place, and how that place is set right upwards and downwards. Plain lemmas, of no program.
-/
namespace Go.Proofs.YtjmkfloaagppdaaDoor

/-- A timer: when, which. -/
abbrev Tm := Int × Int

def ahead (a b : Tm) : Bool := decide (a.1 < b.1) || (decide (a.1 = b.1) && decide (a.2 < b.2))

theorem ahead_iff (a b : Tm) : ahead a b = true ↔ (a.1 < b.1 ∨ (a.1 = b.1 ∧ a.2 < b.2)) := by simp [ahead]
theorem ahead_not (a b : Tm) : ahead a b = false ↔ (b.1 < a.1 ∨ (a.1 = b.1 ∧ b.2 ≤ a.2)) := by
  rw [← Bool.not_eq_true, ahead_iff]; omega

def le (a b : Tm) : Prop := ahead b a = false

theorem le_iff (a b : Tm) : le a b ↔ (a.1 < b.1 ∨ (a.1 = b.1 ∧ a.2 ≤ b.2)) := by unfold le; rw [ahead_not]; omega
theorem le.of {a b : Tm} (h : ahead a b = true) : le a b := by rw [ahead_iff] at h; rw [le_iff]; omega
theorem le.of_not {a b : Tm} (h : ahead a b = false) : le b a := h
theorem le.refl (a : Tm) : le a a := by rw [le_iff]; omega
theorem le.trans {a b c : Tm} (h : le a b) (k : le b c) : le a c := by rw [le_iff] at *; omega
theorem ahead_trans {a b c : Tm} (h : ahead a b = true) (k : ahead b c = true) : ahead a c = true := by rw [ahead_iff] at *; omega
theorem ahead_irrefl (a : Tm) : ahead a a = false := by rw [ahead_not]; omega
theorem ahead_of_le {a b : Tm} (h : le a b) (hne : a.2 ≠ b.2) : ahead a b = true := by rw [le_iff] at h; rw [ahead_iff]; omega

/-- The timer at a place. -/
def at_ (l : List Tm) (k : Nat) : Tm := l.getD k (0, 0)

theorem at_eq {l : List Tm} {k : Nat} {t : Tm} (h : l[k]? = some t) : at_ l k = t := by simp [at_, List.getD, h]
theorem at_some {l : List Tm} {k : Nat} (h : k < l.length) : l[k]? = some (at_ l k) := by simp [at_, List.getD, h]
theorem at_mem {l : List Tm} {k : Nat} (h : k < l.length) : at_ l k ∈ l := List.mem_of_getElem? (at_some h)
theorem ext_at {l m : List Tm} (hn : l.length = m.length) (h : ∀ k, k < l.length → at_ l k = at_ m k) : l = m := by
  apply List.ext_getElem? fun k => ?_
  rcases Nat.lt_or_ge k l.length with hk | hk
  · rw [at_some hk, at_some (hn ▸ hk), h k hk]
  · rw [List.getElem?_eq_none hk, List.getElem?_eq_none (hn ▸ hk)]

/-- Two timers change places. -/
def sw (l : List Tm) (i j : Nat) : List Tm := (l.set i (at_ l j)).set j (at_ l i)

theorem length_sw (l : List Tm) (i j : Nat) : (sw l i j).length = l.length := by simp [sw]

theorem at_sw {l : List Tm} {i j : Nat} (hi : i < l.length) (hj : j < l.length) (k : Nat) : at_ (sw l i j) k = if k = j then at_ l i else if k = i then at_ l j else at_ l k := by
  unfold sw
  by_cases h1 : k = j
  · subst h1
    rw [if_pos rfl]
    exact at_eq (by rw [List.getElem?_set_self (by simpa using hj)])
  · rw [if_neg h1]
    by_cases h2 : k = i
    · subst h2
      rw [if_pos rfl]
      exact at_eq (by rw [List.getElem?_set_ne (Ne.symm h1), List.getElem?_set_self hi])
    · rw [if_neg h2]
      unfold at_
      simp only [List.getD]
      rw [List.getElem?_set_ne (Ne.symm h1), List.getElem?_set_ne (Ne.symm h2)]

theorem sw_perm {l : List Tm} {i j : Nat} (hi : i < l.length) (hj : j < l.length) : (sw l i j).Perm l := by
  have h := Array.swap_perm (xs := l.toArray) (i := i) (j := j) (by simpa using hi) (by simpa using hj)
  have e : (l.toArray.swap i j (by simpa using hi) (by simpa using hj)).toList = sw l i j := by
    apply ext_at
    · simp [length_sw]
    · intro k hk
      have hk' : k < l.length := by simpa using hk
      rw [at_sw hi hj]
      refine at_eq ?_
      rw [Array.getElem?_toList, Array.getElem?_eq_getElem (by simpa using hk'), Array.getElem_swap]
      congr 1
      by_cases h1 : k = j
      · subst h1
        by_cases h2 : k = i
        · subst h2; simp [at_, hk']
        · simp [h2, at_, hi]
      · by_cases h2 : k = i
        · subst h2; simp [h1, at_, hj]
        · simp [h1, h2, at_, hk']
  have h2 := h.toList
  rw [e] at h2
  simpa using h2

/-! ### heaps -/
/-- The first n are a heap, but for what touches place i. -/
structure Part (l : List Tm) (n i : Nat) : Prop where
  edge : ∀ k, 0 < k → k < n → k ≠ i → (k - 1) / 2 ≠ i → le (at_ l ((k - 1) / 2)) (at_ l k)
  skip : ∀ k, 0 < k → k < n → (k - 1) / 2 = i → 0 < i → le (at_ l ((i - 1) / 2)) (at_ l k)

def Kids (l : List Tm) (n i : Nat) : Prop := ∀ k, 0 < k → k < n → (k - 1) / 2 = i → le (at_ l i) (at_ l k)
def Top (l : List Tm) (i : Nat) : Prop := 0 < i → le (at_ l ((i - 1) / 2)) (at_ l i)
def Heap (l : List Tm) (n : Nat) : Prop := ∀ k, 0 < k → k < n → le (at_ l ((k - 1) / 2)) (at_ l k)

theorem Part.heap {l : List Tm} {n i : Nat} (h : Part l n i) (k : Kids l n i) (t : Top l i) : Heap l n := by
  intro m h0 hn
  by_cases h1 : m = i
  · subst h1; exact t h0
  · by_cases h2 : (m - 1) / 2 = i
    · rw [h2]; exact k m h0 hn h2
    · exact h.edge m h0 hn h1 h2

theorem Heap.part {l : List Tm} {n : Nat} (h : Heap l n) (i : Nat) : Part l n i :=
  ⟨fun k h0 hn _ _ => h k h0 hn, fun k h0 hn hk hi => by
    have h1 := h k h0 hn
    rw [hk] at h1
    exact (h i hi (by omega)).trans h1⟩
theorem Heap.kids {l : List Tm} {n : Nat} (h : Heap l n) (i : Nat) : Kids l n i := fun k h0 hn hk => by have := h k h0 hn; rwa [hk] at this
theorem Heap.less {l : List Tm} {n m : Nat} (h : Heap l n) (hm : m ≤ n) : Heap l m := fun k h0 hk => h k h0 (Nat.lt_of_lt_of_le hk hm)

theorem up_step {l : List Tm} {n j : Nat} (h : Part l n j) (hk : Kids l n j) (h0 : 0 < j) (hj : j < n) (hn : n ≤ l.length) (ha : ahead (at_ l j) (at_ l ((j - 1) / 2)) = true) :
    Part (sw l ((j - 1) / 2) j) n ((j - 1) / 2) ∧ Kids (sw l ((j - 1) / 2) j) n ((j - 1) / 2) := by
  have hpl : (j - 1) / 2 < l.length := by omega
  have hjl : j < l.length := by omega
  have sa := at_sw hpl hjl
  obtain ⟨p, hp⟩ : ∃ p, (j - 1) / 2 = p := ⟨_, rfl⟩
  rw [hp] at ha sa ⊢
  refine ⟨⟨fun k k0 kn e1 e2 => ?_, fun k k0 kn e1 e2 => ?_⟩, fun k k0 kn e1 => ?_⟩
  · -- an edge that does not touch p
    rw [sa, sa]
    by_cases c1 : k = j
    · subst c1; exact absurd hp e2
    · rw [if_neg c1, if_neg e1]
      by_cases c2 : (k - 1) / 2 = j
      · rw [if_pos c2]
        have := h.skip k k0 kn c2 h0
        rwa [hp] at this
      · rw [if_neg c2, if_neg e2]
        exact h.edge k k0 kn c1 c2
  · -- past p
    have hpe : le (at_ l ((p - 1) / 2)) (at_ l p) := h.edge p e2 (by omega) (by omega) (by omega)
    rw [sa, sa, if_neg (show ¬ (p - 1) / 2 = j by omega), if_neg (show ¬ (p - 1) / 2 = p by omega)]
    by_cases c1 : k = j
    · rw [if_pos c1]; exact hpe
    · rw [if_neg c1, if_neg (by omega)]
      have h2 := h.edge k k0 kn c1 (by omega)
      rw [e1] at h2
      exact hpe.trans h2
  · rw [sa, sa, if_neg (show ¬ p = j by omega), if_pos rfl]
    by_cases c1 : k = j
    · rw [if_pos c1]; exact le.of ha
    · rw [if_neg c1, if_neg (by omega)]
      have h2 := h.edge k k0 kn c1 (by omega)
      rw [e1] at h2
      exact (le.of ha).trans h2

theorem down_step {l : List Tm} {n i c : Nat} (h : Part l n i) (h0 : 0 < c) (hc : c < n) (hn : n ≤ l.length) (hp : (c - 1) / 2 = i) (hb : ∀ k, 0 < k → k < n → (k - 1) / 2 = i → le (at_ l c) (at_ l k)) (ha : ahead (at_ l c) (at_ l i) = true) :
    Part (sw l i c) n c ∧ Top (sw l i c) c := by
  have hil : i < l.length := by omega
  have hcl : c < l.length := by omega
  have sa := at_sw hil hcl
  refine ⟨⟨fun k k0 kn e1 e2 => ?_, fun k k0 kn e1 e2 => ?_⟩, fun _ => ?_⟩
  · rw [sa, sa, if_neg e1, if_neg e2]
    by_cases c1 : k = i
    · subst c1
      rw [if_pos rfl, if_neg (by omega)]
      exact h.skip c h0 hc hp k0
    · rw [if_neg c1]
      by_cases c2 : (k - 1) / 2 = i
      · rw [if_pos c2]; exact hb k k0 kn c2
      · rw [if_neg c2]; exact h.edge k k0 kn c1 c2
  · rw [sa, sa, hp, if_neg (by omega), if_pos rfl, if_neg (by omega), if_neg (by omega)]
    have := h.edge k k0 kn (by omega) (by omega)
    rwa [e1] at this
  · rw [sa, sa, hp, if_neg (by omega), if_pos rfl, if_pos rfl]
    exact le.of ha

/-- The first of a heap is ahead of all others, if no two are the same. -/
theorem Heap.first {l : List Tm} (h : Heap l l.length) : ∀ k, k < l.length → le (at_ l 0) (at_ l k) := by
  intro k
  induction k using Nat.strongRecOn with
  | ind k ih =>
    intro hk
    rcases Nat.eq_zero_or_pos k with h0 | h0
    · subst h0; exact le.refl _
    · exact (ih ((k - 1) / 2) (by omega) (by omega)).trans (h k h0 hk)

/-- A timer laid at the end: a heap but for that place. -/
theorem Heap.push {l : List Tm} (h : Heap l l.length) (t : Tm) : Part (l ++ [t]) (l.length + 1) l.length ∧ Kids (l ++ [t]) (l.length + 1) l.length := by
  have e : ∀ k, k < l.length → at_ (l ++ [t]) k = at_ l k := fun k hk => at_eq (by rw [List.getElem?_append_left hk]; exact at_some hk)
  refine ⟨⟨fun k k0 kn e1 e2 => ?_, fun k k0 kn e1 e2 => by omega⟩, fun k k0 kn e1 => by omega⟩
  rw [e _ (by omega), e _ (by omega)]
  exact h k k0 (by omega)

/-- Without what stands behind the first n. -/
theorem Heap.cut {l m : List Tm} {n : Nat} (h : Heap l n) (hm : ∀ k, k < n → at_ m k = at_ l k) : Heap m n := fun k h0 hk => by
  rw [hm _ (by omega), hm _ hk]; exact h k h0 hk
/-- The timer at one place is another one. -/
theorem Heap.set {l m : List Tm} {n i : Nat} (h : Heap l n) (hm : ∀ k, k < n → k ≠ i → at_ m k = at_ l k) : Part m n i :=
  ⟨fun k h0 hk e1 e2 => by rw [hm _ (by omega) e2, hm _ hk e1]; exact h k h0 hk, fun k h0 hk e1 e2 => by
    rw [hm _ (by omega) (by omega), hm _ hk (by omega)]
    have h1 := h k h0 hk
    rw [e1] at h1
    exact (h i e2 (by omega)).trans h1⟩
end Go.Proofs.YtjmkfloaagppdaaDoor
