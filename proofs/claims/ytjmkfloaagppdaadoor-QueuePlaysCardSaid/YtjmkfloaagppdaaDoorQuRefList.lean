/-
  What putting in, taking out and what is due are, told by places in the list. Plain lemmas.
-/
import Derived.Test.YtjmkfloaagppdaaDoorQuRef
namespace Go.Proofs.YtjmkfloaagppdaaDoor
open Go.RowKit

theorem while_split {p : Tm → Bool} : ∀ {d r : List Tm}, (∀ u ∈ d, p u = true) → (∀ u r', r = u :: r' → p u = false) → (d ++ r).takeWhile p = d ∧ (d ++ r).dropWhile p = r
  | [], [], _, _ => ⟨rfl, rfl⟩
  | [], u :: r, _, hr => by
    have := hr u r rfl
    simp [this]
  | u :: d, r, hd, hr => by
    have h1 := hd u (by simp)
    obtain ⟨e1, e2⟩ := while_split (d := d) (r := r) (fun v hv => hd v (List.mem_cons_of_mem _ hv)) hr
    simp only [List.cons_append, List.takeWhile_cons, List.dropWhile_cons, h1, if_true]
    exact ⟨by rw [e1], e2⟩

theorem take_all {p : Tm → Bool} {L : List Tm} {k : Nat} (hk : k ≤ L.length) (hb : ∀ j, j < k → p (at_ L j) = true) : ∀ u ∈ L.take k, p u = true := by
  intro u hu
  obtain ⟨j, hj, rfl⟩ := at_of_mem hu
  rw [List.length_take] at hj
  have e : at_ (L.take k) j = at_ L j := at_eq (by rw [List.getElem?_take_of_lt (by omega)]; exact at_some (by omega))
  rw [e]
  exact hb j (by omega)
theorem drop_head {p : Tm → Bool} {L : List Tm} {k : Nat} (hn : k < L.length → p (at_ L k) = false) : ∀ u r', L.drop k = u :: r' → p u = false := by
  intro u r' e
  have hk : k < L.length := by
    rcases Nat.lt_or_ge k L.length with h | h
    · exact h
    · rw [List.drop_of_length_le h] at e; cases e
  have : at_ L k = u := at_eq (by
    have := congrArg (fun l => l[0]?) e
    simpa using this)
  rw [← this]
  exact hn hk
/-- A timer put in at the place that a loop found. -/
theorem ins_at {L : List Tm} {t : Tm} {k : Nat} (hk : k ≤ L.length) (hb : ∀ j, j < k → ahead (at_ L j) t = true) (hn : k < L.length → ahead (at_ L k) t = false) : ([] ++ L.take k ++ [t]) ++ L.drop k = ins t L := by
  obtain ⟨e1, e2⟩ := while_split (p := fun u => ahead u t) (d := L.take k) (r := L.drop k) (take_all hk hb) (drop_head hn)
  rw [List.take_append_drop] at e1 e2
  unfold ins
  rw [e1, e2, List.nil_append, List.append_assoc]
  rfl
theorem due_at {L : List Tm} {now : Int} {k : Nat} (hk : k ≤ L.length) (hb : ∀ j, j < k → (at_ L j).1 ≤ now) (hn : k < L.length → now < (at_ L k).1) : L.take k = due now L ∧ L.drop k = undue now L := by
  obtain ⟨e1, e2⟩ := while_split (p := fun u => decide (u.1 ≤ now)) (d := L.take k) (r := L.drop k) (take_all hk fun j hj => by simpa using hb j hj) (drop_head fun h => by have := hn h; simp; omega)
  rw [List.take_append_drop] at e1 e2
  exact ⟨e1.symm, e2.symm⟩
theorem del_at {L : List Tm} (ho : Once L) {k : Nat} (hk : k < L.length) : ([] ++ L.take k) ++ L.drop (k + 1) = del (at_ L k).2 L := by
  have e2 : L = L.take k ++ at_ L k :: L.drop (k + 1) := by
    conv => lhs; rw [← List.take_append_drop k L, List.drop_eq_getElem_cons hk]
    rw [at_eq (List.getElem?_eq_getElem hk)]
  have p : (at_ L k :: (L.take k ++ L.drop (k + 1))).Perm L := by
    conv => rhs; rw [e2]
    exact List.perm_middle.symm
  have ho' : Once (at_ L k :: (L.take k ++ L.drop (k + 1))) := ho.perm p.symm
  have hl : ∀ u ∈ L.take k ++ L.drop (k + 1), u.2 ≠ (at_ L k).2 := by
    unfold Once at ho'
    rw [List.map_cons, List.nodup_cons] at ho'
    intro u hu e
    exact ho'.1 (e ▸ List.mem_map.2 ⟨u, hu, rfl⟩)
  have e3 : del (at_ L k).2 L = del (at_ L k).2 (L.take k) ++ del (at_ L k).2 (L.drop (k + 1)) := by
    conv => lhs; arg 2; rw [e2]
    unfold del
    rw [List.filter_append, List.filter_cons_of_neg (by simp)]
  rw [e3, del_none fun u hu => hl u (List.mem_append_left _ hu), del_none fun u hu => hl u (List.mem_append_right _ hu), List.nil_append]
end Go.Proofs.YtjmkfloaagppdaaDoor
