/-
  Timers in order: a list in order, a timer put to its place, one taken out, what is due; what a heap's first one is; plain lemmas, of no program.
-/
import Derived.Test.YtjmkfloaagppdaaDoorQuHeap
namespace Go.Proofs.YtjmkfloaagppdaaDoor

/-- In order. -/
def Up (l : List Tm) : Prop := l.Pairwise fun a b => ahead a b = true

theorem ahead_asymm {a b : Tm} (h : ahead a b = true) (k : ahead b a = true) : False := by
  have := ahead_trans h k
  rw [ahead_irrefl] at this
  cases this

theorem Up.unique {l m : List Tm} (hl : Up l) (hm : Up m) (h : l.Perm m) : l = m :=
  List.Perm.eq_of_pairwise (fun _ _ _ _ h1 h2 => (ahead_asymm h1 h2).elim) hl hm h

/-- A timer goes to its place. -/
def ins (t : Tm) (l : List Tm) : List Tm := l.takeWhile (fun u => ahead u t) ++ t :: l.dropWhile (fun u => ahead u t)

theorem ins_perm (t : Tm) (l : List Tm) : (ins t l).Perm (t :: l) := by
  unfold ins
  refine List.perm_middle.trans ?_
  rw [List.takeWhile_append_dropWhile]

theorem ins_cons (t u : Tm) (l : List Tm) : ins t (u :: l) = if ahead u t = true then u :: ins t l else t :: u :: l := by
  unfold ins
  by_cases h : ahead u t = true
  · simp [h]
  · simp [h]

theorem ins_mem {t u : Tm} {l : List Tm} : u ∈ ins t l ↔ u = t ∨ u ∈ l := by
  rw [(ins_perm t l).mem_iff, List.mem_cons]

theorem ins_up {t : Tm} : ∀ {l : List Tm}, Up l → (∀ u ∈ l, u.2 ≠ t.2) → Up (ins t l)
  | [], _, _ => by simp [ins, Up]
  | u :: l, h, hn => by
    have h' : (∀ x ∈ l, ahead u x = true) ∧ Up l := List.pairwise_cons.1 h
    rw [ins_cons]
    by_cases c : ahead u t = true
    · rw [if_pos c]
      refine List.pairwise_cons.2 ⟨fun x hx => ?_, ins_up h'.2 fun x hx => hn x (List.mem_cons_of_mem _ hx)⟩
      rcases ins_mem.1 hx with rfl | hx
      · exact c
      · exact h'.1 x hx
    · rw [if_neg c]
      have ht : ahead t u = true := ahead_of_le (by unfold le; simpa using c) fun e => hn u (by simp) e.symm
      refine List.pairwise_cons.2 ⟨fun x hx => ?_, h⟩
      rcases List.mem_cons.1 hx with rfl | hx
      · exact ht
      · exact ahead_trans ht (h'.1 x hx)

theorem ins_length (t : Tm) (l : List Tm) : (ins t l).length = l.length + 1 := by
  have := (ins_perm t l).length_eq
  simpa using this

/-- No two have one ID. -/
def Once (l : List Tm) : Prop := (l.map (·.2)).Nodup

theorem Once.perm {l m : List Tm} (h : Once l) (k : l.Perm m) : Once m := (k.map (fun u : Tm => u.2)).nodup h
theorem Once.eq {l : List Tm} (h : Once l) {a b : Tm} (ha : a ∈ l) (hb : b ∈ l) (e : a.2 = b.2) : a = b := by
  induction l with
  | nil => cases ha
  | cons u l ih =>
    have h' : u.2 ∉ l.map (·.2) ∧ Once l := List.nodup_cons.1 h
    rcases List.mem_cons.1 ha with ea | ha'
    · rcases List.mem_cons.1 hb with eb | hb'
      · rw [ea, eb]
      · rw [ea] at e
        exact absurd (List.mem_map.2 ⟨b, hb', e.symm⟩) h'.1
    · rcases List.mem_cons.1 hb with eb | hb'
      · rw [eb] at e
        exact absurd (List.mem_map.2 ⟨a, ha', e⟩) h'.1
      · exact ih h'.2 ha' hb'

/-- Without an ID. -/
def del (id : Int) (l : List Tm) : List Tm := l.filter fun u => u.2 != id

theorem del_none {id : Int} {l : List Tm} (h : ∀ u ∈ l, u.2 ≠ id) : del id l = l := List.filter_eq_self.2 fun u hu => by simpa using h u hu
theorem del_up {id : Int} {l : List Tm} (h : Up l) : Up (del id l) := List.Pairwise.filter _ h
theorem del_mem {id : Int} {l : List Tm} {u : Tm} : u ∈ del id l ↔ u ∈ l ∧ u.2 ≠ id := by simp [del]
theorem del_lacks {id : Int} {l : List Tm} : ∀ u ∈ del id l, u.2 ≠ id := fun _ h => (del_mem.1 h).2
theorem del_sub {id : Int} {l : List Tm} {u : Tm} (h : u ∈ del id l) : u ∈ l := (del_mem.1 h).1
theorem Once.del {l : List Tm} (h : Once l) (id : Int) : Once (del id l) := List.Nodup.sublist ((List.filter_sublist).map _) h
/-- One is taken out of a permutation. -/
theorem del_of_perm {l m : List Tm} {t : Tm} (h : Once (t :: m)) (k : (t :: m).Perm l) : m.Perm (Go.Proofs.YtjmkfloaagppdaaDoor.del t.2 l) := by
  have e : Go.Proofs.YtjmkfloaagppdaaDoor.del t.2 (t :: m) = m := by
    have h' : t.2 ∉ m.map (·.2) ∧ Once m := List.nodup_cons.1 h
    have e2 := del_none (id := t.2) (l := m) fun u hu e => h'.1 (List.mem_map.2 ⟨u, hu, e⟩)
    unfold Go.Proofs.YtjmkfloaagppdaaDoor.del at e2 ⊢
    rw [List.filter_cons_of_neg (by simp), e2]
  have := k.filter fun u => u.2 != t.2
  rw [show (t :: m).filter (fun u => u.2 != t.2) = m from e] at this
  exact this

theorem del_ins {t : Tm} {l : List Tm} (h : Up l) (hn : ∀ u ∈ l, u.2 ≠ t.2) : del t.2 (ins t l) = l := by
  refine Up.unique (del_up (ins_up h hn)) h ?_
  have e : (t :: l).filter (fun u => u.2 != t.2) = l := by
    rw [List.filter_cons_of_neg (by simp)]
    exact List.filter_eq_self.2 fun u hu => by simpa using hn u hu
  have := (ins_perm t l).filter fun u => u.2 != t.2
  rw [e] at this
  exact this

/-- The first of a heap is the first in order. -/
theorem Heap.head {l L : List Tm} (h : Heap l l.length) (k : l.Perm L) (hU : Up L) {u : Tm} {L' : List Tm} (hL : L = u :: L') : at_ l 0 = u := by
  subst hL
  have h0 : 0 < l.length := by rw [k.length_eq]; simp
  have h1 : at_ l 0 ∈ u :: L' := k.mem_iff.1 (at_mem h0)
  rcases List.mem_cons.1 h1 with e | h2
  · exact e
  · have hu : u ∈ l := k.mem_iff.2 (by simp)
    obtain ⟨i, hi, e⟩ := List.getElem_of_mem hu
    have h3 := h.first i hi
    have e' : at_ l i = u := at_eq (by rw [List.getElem?_eq_getElem hi, e])
    rw [e'] at h3
    have h4 : ahead u (at_ l 0) = true := (List.pairwise_cons.1 hU).1 _ h2
    unfold le at h3
    rw [h3] at h4
    cases h4

/-- What is due, and what is not. -/
def due (now : Int) (l : List Tm) : List Tm := l.takeWhile fun u => decide (u.1 ≤ now)
def undue (now : Int) (l : List Tm) : List Tm := l.dropWhile fun u => decide (u.1 ≤ now)

theorem due_undue (now : Int) (l : List Tm) : due now l ++ undue now l = l := List.takeWhile_append_dropWhile
theorem due_le {now : Int} : ∀ {l : List Tm}, ∀ u ∈ due now l, u.1 ≤ now
  | t :: l, u, h => by
    unfold due at h
    by_cases c : t.1 ≤ now
    · rw [List.takeWhile_cons_of_pos (by simpa using c)] at h
      rcases List.mem_cons.1 h with rfl | h
      · exact c
      · exact due_le (l := l) u h
    · rw [List.takeWhile_cons_of_neg (by simpa using c)] at h
      cases h
/-- So far they are due, and the next one is not. -/
theorem due_eq {now : Int} : ∀ {d r : List Tm}, (∀ u ∈ d, u.1 ≤ now) → (∀ u r', r = u :: r' → now < u.1) → due now (d ++ r) = d ∧ undue now (d ++ r) = r
  | [], [], _, _ => ⟨rfl, rfl⟩
  | [], u :: r, _, h => by
    have := h u r rfl
    have c : ¬ u.1 ≤ now := by omega
    simp [due, undue, c]
  | t :: d, r, h, h2 => by
    obtain ⟨e1, e2⟩ := due_eq (now := now) (d := d) (r := r) (fun u hu => h u (List.mem_cons_of_mem _ hu)) h2
    have c := h t (by simp)
    unfold due undue at *
    rw [List.cons_append, List.takeWhile_cons_of_pos (by simpa using c), List.dropWhile_cons_of_pos (by simpa using c), e1, e2]
    exact ⟨rfl, rfl⟩
theorem Up.undue {now : Int} {l : List Tm} (h : Up l) : Up (undue now l) := List.Pairwise.sublist (List.dropWhile_sublist _) h
theorem undue_gt {now : Int} : ∀ {l : List Tm}, Up l → ∀ u ∈ undue now l, now < u.1
  | t :: l, h, u, hu => by
    unfold Go.Proofs.YtjmkfloaagppdaaDoor.undue at hu
    have h' : (∀ x ∈ l, ahead t x = true) ∧ Up l := List.pairwise_cons.1 h
    by_cases c : t.1 ≤ now
    · rw [List.dropWhile_cons_of_pos (by simpa using c)] at hu
      exact undue_gt h'.2 u hu
    · rw [List.dropWhile_cons_of_neg (by simpa using c)] at hu
      rcases List.mem_cons.1 hu with rfl | hu
      · omega
      · have := h'.1 u hu
        rw [ahead_iff] at this
        omega
end Go.Proofs.YtjmkfloaagppdaaDoor
