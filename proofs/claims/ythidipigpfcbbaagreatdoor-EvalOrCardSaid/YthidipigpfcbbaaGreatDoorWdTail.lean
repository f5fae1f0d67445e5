/-
  A region that draws its order and whose last operation comes up behind all others: what the loads read need hold no longer behind that one (a store into a cell that the region loads). 'AnyT': whatever order is picked, S holds behind each operation but the last. Of no program.
-/
import Derived.OrdersHeld
import Derived.Deep.RegionHeld
namespace Go.Proofs.YthidipigpfcbbaaGreatDoor

section
variable {P : Program} {ops : Array Oper} {Q : Exit → Act → World → Prop} {md : Region.Mode} {S : World → Prop}

/-- Each operation but the last is asked for by one behind it. -/
def tailB (md : Region.Mode) (ops : Array Oper) : Bool :=
  (List.range (ops.size - 1)).all fun j => (List.range ops.size).any fun k => decide (j < k) && ((ops[k]?).map fun o => o.after.any fun e => Region.binds md e && e.on == j).getD false

/-- What is asked for by one that has come up has come up. -/
def Closed (md : Region.Mode) (ops : Array Oper) (l : Array Bool) : Prop :=
  l.size = ops.size ∧ ∀ k o, ops[k]? = some o → l.getD k false = true → ∀ e ∈ o.after, Region.binds md e = true → l.getD e.on false = true

theorem Closed.none : Closed md ops (Array.replicate ops.size false) :=
  ⟨by simp, fun k o ho h => by
    have : k < ops.size := (Array.getElem?_eq_some_iff.1 ho).1
    simp [this] at h⟩

theorem Closed.step {l : Array Bool} {j : Nat} (h : Closed md ops l) (hj : j ∈ Region.ready md ops l) : Closed md ops (l.setIfInBounds j true) := by
  obtain ⟨_, oj, hoj, hall⟩ := mem_ready.1 hj
  refine ⟨by rw [Array.size_setIfInBounds]; exact h.1, fun k o ho hk e he hb => getD_set_true ?_⟩
  by_cases c : j = k
  · subst c
    rw [hoj] at ho
    cases ho
    exact hall e he hb
  · rw [getD_set_ne false c] at hk
    exact h.2 k o ho hk e he hb

theorem Closed.tail {l : Array Bool} {z : Nat} (h : Closed md ops l) (hT : tailB md ops = true) (hz : z + 1 = ops.size) (hr : z ∈ Region.ready md ops l) : ∀ j, j < z → l.getD j false = true := by
  obtain ⟨_, oz, hoz, hall⟩ := mem_ready.1 hr
  have main : ∀ m j, z - j ≤ m → j < z → l.getD j false = true := by
    intro m
    induction m with
    | zero => intro j h1 h2; omega
    | succ m ih =>
      intro j h1 h2
      unfold tailB at hT
      have hj := List.all_eq_true.1 hT j (List.mem_range.2 (by omega))
      obtain ⟨k, hk, hkj⟩ := List.any_eq_true.1 hj
      rw [Bool.and_eq_true] at hkj
      obtain ⟨h3, h4⟩ := hkj
      have h3 : j < k := by simpa using h3
      have hks : k < ops.size := List.mem_range.1 hk
      rw [Array.getElem?_eq_getElem hks, Option.map_some, Option.getD_some] at h4
      obtain ⟨x, hx, h5⟩ := Array.any_eq_true.1 h4
      rw [Bool.and_eq_true] at h5
      obtain ⟨h6, h7⟩ := h5
      have h7 : (ops[k].after[x]).on = j := by simpa using h7
      have hmem : ops[k].after[x] ∈ ops[k].after := Array.getElem_mem hx
      rw [← h7]
      rcases Nat.lt_or_ge k z with c | c
      · exact h.2 k _ (Array.getElem?_eq_getElem hks) (ih k (by omega) c) _ hmem h6
      · obtain rfl : k = z := by omega
        rw [Array.getElem?_eq_getElem hks] at hoz
        cases hoz
        exact hall _ hmem h6
  exact fun j hj => main (z - j) j (Nat.le_refl _) hj

def AnyT (P : Program) (md : Region.Mode) (ops : Array Oper) (Q : Exit → Act → World → Prop) (S : World → Prop) : Nat → Array Bool → Act → World → Prop
  | 0, l, a, w => Region.ready md ops l = [] ∧ Q .normal a w
  | n + 1, l, a, w => (Region.ready md ops l = [] → Q .normal a w) ∧ ∀ i ∈ Region.ready md ops l, wpOp P ops Q i (fun a' w' => (i + 1 < ops.size → S w') ∧ AnyT P md ops Q S n (l.setIfInBounds i true) a' w') a w

theorem AnyT.any : ∀ (n : Nat) (l : Array Bool) (a : Act) (w : World), AnyT P md ops Q S n l a w → wpAny P md ops Q n l a w
  | 0, _, _, _, h => h
  | n + 1, _, _, _, h => ⟨h.1, fun i hi => wpOp_mono (fun a' w' h' => AnyT.any n _ a' w' h'.2) (h.2 i hi)⟩

theorem AnyT.begin {id : Nat} {a : Act} {w : World} (hm : P.follows .mixedOrders = true) (hS : S w.drew) (h : S w.drew → AnyT P .any ops Q S ops.size (Array.replicate ops.size false) a w.drew) : (Code.region id ops true).wp P Q a w :=
  wp_region_any hm (AnyT.any _ _ _ _ (h hS))

theorem AnyT.first {i : Nat} {oi : Oper} {v : Value} (hi : ops[i]? = some oi) (hT : tailB md ops = true) (hz : i + 1 < ops.size) (hsel : ∀ (j : Nat) (o : Oper) cs b, ops[j]? = some o → o.op ≠ .select cs b)
    (hQ : ∀ c a w, Q (.panic c) (a.put oi.dst v) w → Q (.panic c) a w) :
    ∀ (n : Nat) (l : Array Bool) (a : Act) (w : World), Closed md ops l →
      (∀ j oj, ops[j]? = some oj → j ≠ i → l.getD j true = false → (∀ e ∈ oj.after, Region.binds md e = true → e.on ≠ i) → oi.apart ops oj = true) →
      i ∈ Region.ready md ops l → YieldsIf P ops S oi v a → S w →
      AnyT P md ops Q S n (l.setIfInBounds i true) (a.put oi.dst v) w → AnyT P md ops Q S (n + 1) l a w := by
  intro n
  induction n with
  | zero =>
    intro l a w _ _ hr hy hS H
    refine ⟨fun h => (by rw [h] at hr; cases hr), fun j hj => ?_⟩
    by_cases c : j = i
    · subst c; exact hy.wpOp hi hS ⟨fun _ => hS, H⟩
    · have := ready_mono hj c
      rw [H.1] at this
      cases this
  | succ n ih =>
    intro l a w hC hfree hr hy hS H
    refine ⟨fun h => (by rw [h] at hr; cases hr), fun j hj => ?_⟩
    by_cases c : j = i
    · subst c; exact hy.wpOp hi hS ⟨fun _ => hS, H⟩
    · obtain ⟨hjl, oj, hoj, hall⟩ := mem_ready.1 hj
      have hil : l.getD i true = false := (mem_ready.1 hr).1
      have his : i < l.size := by rw [hC.1]; omega
      have hilf : l.getD i false = false := by
        rw [Array.getD_eq_getD_getElem?, Array.getElem?_eq_getElem his] at hil ⊢
        exact hil
      have hjs : j < ops.size := (Array.getElem?_eq_some_iff.1 hoj).1
      -- the last one can't come up ahead of i
      have hjz : j + 1 < ops.size := by
        rcases Nat.lt_or_ge (j + 1) ops.size with h | h
        · exact h
        · have := hC.tail hT (show j + 1 = ops.size by omega) hj i (by omega)
          rw [hilf] at this
          cases this
      have hnot : ∀ e ∈ oj.after, Region.binds md e = true → e.on ≠ i := fun e he hb heq => by
        have := hall e he hb
        rw [heq, hilf] at this
        cases this
      have h1 := H.2 j (ready_mono hj c)
      have h2 := wpOp_putIf hoj (hfree j oj hoj c hjl hnot) (fun cs b => hsel i oi cs b hi) (fun cs b => hsel j oj cs b hoj) hQ hy h1
      have hfree' : ∀ k ok, ops[k]? = some ok → k ≠ i → (l.setIfInBounds j true).getD k true = false → (∀ e ∈ ok.after, Region.binds md e = true → e.on ≠ i) → oi.apart ops ok = true := fun k ok hk hki hun hno => by
        refine hfree k ok hk hki ?_ hno
        by_cases d : j = k
        · subst d; exact hjl
        · rw [getD_set_ne true d] at hun; exact hun
      refine wpOp_mono (fun a' w' h3 => ⟨fun _ => h3.2.1 hjz, ih (l.setIfInBounds j true) a' w' (hC.step hj) hfree' (ready_mono hr (Ne.symm c)) h3.1 (h3.2.1 hjz) ?_⟩) h2
      rw [Array.setIfInBounds_comm _ _ c]
      exact h3.2.2

/-- As a check: what has come up is closed. -/
def closedB (md : Region.Mode) (ops : Array Oper) (l : Array Bool) : Bool :=
  l.size == ops.size && (List.range ops.size).all fun k => !l.getD k false || ((ops[k]?).map fun o => o.after.all fun e => !Region.binds md e || l.getD e.on false).getD true
theorem closedB_spec {l : Array Bool} (h : closedB md ops l = true) : Closed md ops l := by
  unfold closedB at h
  rw [Bool.and_eq_true] at h
  refine ⟨by simpa using h.1, fun k o ho hk e he hb => ?_⟩
  have hks : k < ops.size := (Array.getElem?_eq_some_iff.1 ho).1
  have h1 := List.all_eq_true.1 h.2 k (List.mem_range.2 hks)
  rw [hk, ho, Option.map_some, Option.getD_some] at h1
  have h2 : (o.after.all fun e => !Region.binds md e || l.getD e.on false) = true := by simpa using h1
  have h3 := (Array.all_eq_true_iff_forall_mem.1 h2) e he
  rw [hb] at h3
  simpa using h3

theorem op_at {i : Nat} {oi : Oper} {tl : List Oper} (h : ops.toList.drop i = oi :: tl) : ops[i]? = some oi := by
  have := congrArg (fun l => l[0]?) h
  simpa using this

/-- 'hi' is shown by rfl: it writes the operation out. -/
theorem AnyT.take {i : Nat} {oi : Oper} {tl : List Oper} {v : Value} {n : Nat} {l : Array Bool} {a : Act} {w : World} (hi : ops.toList.drop i = oi :: tl)
    (hc : (tailB md ops && decide (i + 1 < ops.size) && closedB md ops l && Region.noSelect ops && Region.free md ops l i && (Region.ready md ops l).contains i) = true)
    (hQ : ∀ c a w, Q (.panic c) (a.put oi.dst v) w → Q (.panic c) a w) (hy : YieldsIf P ops S oi v a) (hS : S w)
    (h : AnyT P md ops Q S n (l.setIfInBounds i true) (a.put oi.dst v) w) : AnyT P md ops Q S (n + 1) l a w := by
  simp only [Bool.and_eq_true] at hc
  obtain ⟨⟨⟨⟨⟨h1, h2⟩, h3⟩, h4⟩, h5⟩, h6⟩ := hc
  exact AnyT.first (op_at hi) h1 (of_decide_eq_true h2) (Region.noSelect_spec h4) hQ n l a w (closedB_spec h3) (Region.free_spec (op_at hi) h5) (by simpa using h6) hy hS h

def ReadyT (P : Program) (md : Region.Mode) (ops : Array Oper) (Q : Exit → Act → World → Prop) (S : World → Prop) (n : Nat) (l : Array Bool) (a : Act) (w : World) (rs : List Nat) : Prop :=
  ∀ i ∈ rs, wpOp P ops Q i (fun a' w' => (i + 1 < ops.size → S w') ∧ AnyT P md ops Q S n (l.setIfInBounds i true) a' w') a w
theorem ReadyT.nil {n : Nat} {l : Array Bool} {a : Act} {w : World} : ReadyT P md ops Q S n l a w [] := fun _ h => by cases h
theorem ReadyT.cons {n : Nat} {l : Array Bool} {a : Act} {w : World} {i : Nat} {o : Oper} {tl : List Oper} {rs : List Nat} (ho : ops.toList.drop i = o :: tl)
    (h : ∀ K' : Act → World → Prop, Shut (∀ a w, (i + 1 < ops.size → S w) → ((i + 1 < ops.size → S w) → AnyT P md ops Q S n (l.setIfInBounds i true) a w) → K' a w) → if Region.wanted o (yielded ops a.tmps) = true then Oper.wp P o a w K' Q else K' (a.put o.dst undef) w)
    (hs : ReadyT P md ops Q S n l a w rs) : ReadyT P md ops Q S n l a w (i :: rs) := fun j hj => by
  rcases List.mem_cons.1 hj with rfl | hj
  · exact wpOp_step (op_at ho) (fun K' hK => h K' (fun a w hS hW => hK a w ⟨hS, hW hS⟩))
  · exact hs j hj
theorem AnyT.ready {rs : List Nat} {n : Nat} {l : Array Bool} {a : Act} {w : World} (hr : Region.ready md ops l = rs) (hne : rs ≠ []) (h : ReadyT P md ops Q S n l a w rs) : AnyT P md ops Q S (n + 1) l a w :=
  ⟨fun h0 => absurd (hr ▸ h0) hne, hr ▸ h⟩
theorem AnyT.done {l : Array Bool} {a : Act} {w : World} (hr : Region.ready md ops l = []) (h : Q .normal a w) : ∀ n, AnyT P md ops Q S n l a w
  | 0 => ⟨hr, h⟩
  | _ + 1 => ⟨fun _ => h, by rw [hr]; simp⟩
end
end Go.Proofs.YthidipigpfcbbaaGreatDoor
