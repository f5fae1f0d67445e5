/-
  Plain lists of keys with numbers: look, put, the place of a key; rising keys; how many entries a map has. Of no program. (For maps with keys of type int: the texts of sets have the same of their own, at uint64: a seat that needs both must let those import this.)
-/
import Derived.Test.YtpmbkeaimdeglaaDoorQuDel
namespace Go.Proofs.YtpmbkeaimdeglaaDoor
open Go.Maps Go.RowKit

/-- A map has as many entries as a list that names its keys, each once. -/
theorem HoldsM.size_eq {V : Type} {P : Program} {K : TypeId} {E : Enc V} {w : World} {b : Nat} {f : Int → Option V} {D : DataW Unit} {n : Nat} (hk : P.underlying K = some (.int .i64)) (h : w.ownsMap P K E.R b n D) (hr : Reads E D f) (l : List Int) (hn : l.Nodup) (hl : ∀ k, k ∈ l ↔ (f k).isSome = true) : Maps.size D = l.length := by
  refine Nat.le_antisymm (size_le hk h hr l fun k hk => (hl k).2 hk) ?_
  obtain ⟨es, rfl, hp, _⟩ := h.entries (int_keyed hk)
  have hn' : (l.map ik).Nodup := List.pairwise_map.2 (hn.imp fun h => ik_ne h)
  have := subset_length hn' (b := es.map (·.1)) (fun x hx => by
    obtain ⟨k, hk, rfl⟩ := List.mem_map.1 hx
    have h1 := (hr k).1
    rw [(hl k).1 hk, has_eq, List.any_eq_true] at h1
    obtain ⟨p, hp, hs⟩ := h1
    exact List.mem_map.2 ⟨p, hp, WideAt.sameKey_eq hs⟩)
  simpa [Maps.size] using this
/-- A list that names just the keys, each once. -/
def Keys {V : Type} (f : Int → Option V) (l : List Int) : Prop := l.Nodup ∧ ∀ k, k ∈ l ↔ (f k).isSome = true

theorem Keys.len {V : Type} {f : Int → Option V} {l m : List Int} (h : Keys f l) (k : Keys f m) : l.length = m.length :=
  Nat.le_antisymm (subset_length h.1 fun x hx => (k.2 x).2 ((h.2 x).1 hx)) (subset_length k.1 fun x hx => (h.2 x).2 ((k.2 x).1 hx))

/-- Rising, none twice. -/
abbrev Up (l : List Int) : Prop := l.Pairwise (· < ·)

theorem Up.nodup {l : List Int} (h : Up l) : l.Nodup := h.imp fun h => by omega

theorem Up.unique : ∀ {l m : List Int}, Up l → Up m → l.Perm m → l = m := fun {l m} hl hm hp =>
  List.Perm.eq_of_pairwise (le := fun a b : Int => a < b) (fun a b _ _ h1 h2 => by omega) hl hm hp

theorem Keys.perm {V : Type} {f : Int → Option V} {l m : List Int} (h : Keys f l) (k : Keys f m) : l.Perm m :=
  (List.perm_ext_iff_of_nodup h.1 k.1).2 fun x => by rw [h.2 x, k.2 x]

/-- A plain list of cells with numbers. -/
abbrev Tl := List (Int × Int)

def look : Tl → Int → Option Int
  | [], _ => none
  | (c, v) :: t, k => if k = c then some v else look t k

/-- The place of a cell, from 1 on; 0: none. -/
def plc : Tl → Int → Nat
  | [], _ => 0
  | (c, _) :: t, k => if k = c then 1 else if plc t k = 0 then 0 else plc t k + 1

def low (W : Tl) (c : Int) : Tl := W.filter fun p => decide (p.1 < c)
def high (W : Tl) (c : Int) : Tl := W.filter fun p => decide (c < p.1)
/-- A cell has a value now. -/
def put (W : Tl) (c v : Int) : Tl := low W c ++ (c, v) :: high W c

/-- Rising cells, none twice. -/
def UpW (W : Tl) : Prop := Up (W.map (·.1))

/-! ### look -/
theorem look_mem {W : Tl} {k : Int} : (look W k).isSome = true ↔ k ∈ W.map (·.1) := by
  induction W with
  | nil => simp [look]
  | cons p t ih =>
    obtain ⟨c, v⟩ := p
    simp only [look, List.map_cons, List.mem_cons]
    by_cases e : k = c
    · simp [e]
    · simp [e, ih]
theorem look_none {W : Tl} {k : Int} : look W k = none ↔ k ∉ W.map (·.1) := by
  rw [← look_mem]
  cases look W k <;> simp
theorem look_keys {W : Tl} (h : UpW W) : Keys (look W) (W.map (·.1)) := ⟨Up.nodup h, fun _ => look_mem.symm⟩
theorem look_app (V W : Tl) (k : Int) : look (V ++ W) k = (look V k).or (look W k) := by
  induction V with
  | nil => simp [look]
  | cons p t ih =>
    obtain ⟨c, v⟩ := p
    simp only [List.cons_append, look]
    by_cases e : k = c
    · simp [e]
    · simp [e, ih]
theorem look_filter (W : Tl) (p : Int → Bool) (k : Int) : look (W.filter fun x => p x.1) k = if p k = true then look W k else none := by
  induction W with
  | nil => simp [look]
  | cons x t ih =>
    obtain ⟨c, v⟩ := x
    by_cases hp : p c = true
    · rw [List.filter_cons_of_pos (by simpa using hp)]
      simp only [look]
      by_cases e : k = c
      · subst e; simp [hp]
      · simp [e, ih]
    · rw [List.filter_cons_of_neg (by simpa using hp), ih]
      simp only [look]
      by_cases e : k = c
      · subst e; simp [hp]
      · simp [e]
theorem look_put (W : Tl) (c v k : Int) : look (put W c v) k = if k = c then some v else look W k := by
  unfold put low high
  rw [look_app, look_filter W (fun x => decide (x < c))]
  simp only [look]
  rw [look_filter W (fun x => decide (c < x))]
  by_cases e : k = c
  · subst e; simp
  · rcases Int.lt_or_gt_of_ne e with h | h
    · have h' : ¬ c < k := by omega
      simp [e, h, h']
    · have h' : ¬ k < c := by omega
      simp [e, h, h']
theorem look_put_upd (W : Tl) (c v : Int) : look (put W c v) = upd (look W) c v := funext fun k => look_put W c v k

theorem up_put {W : Tl} (h : UpW W) (c v : Int) : UpW (put W c v) := by
  unfold UpW Up put low high
  rw [List.map_append, List.map_cons]
  have h' : W.Pairwise (fun a b => a.1 < b.1) := List.pairwise_map.1 h
  refine List.pairwise_append.2 ⟨List.pairwise_map.2 (h'.filter _), List.pairwise_cons.2 ⟨?_, List.pairwise_map.2 (h'.filter _)⟩, ?_⟩
  · intro x hx
    obtain ⟨p, hp, rfl⟩ := List.mem_map.1 hx
    simpa using (List.mem_filter.1 hp).2
  · intro a ha b hb
    obtain ⟨p, hp, rfl⟩ := List.mem_map.1 ha
    have h1 : p.1 < c := by simpa using (List.mem_filter.1 hp).2
    rcases List.mem_cons.1 hb with rfl | hb
    · exact h1
    · obtain ⟨q, hq, rfl⟩ := List.mem_map.1 hb
      have h2 : c < q.1 := by simpa using (List.mem_filter.1 hq).2
      omega

theorem len_put_there {W : Tl} (h : UpW W) {c v : Int} (hc : look W c ≠ none) : (put W c v).length = W.length := by
  have h1 := look_keys (up_put h c v)
  have h2 := look_keys h
  have h3 : Keys (look (put W c v)) (W.map (·.1)) := ⟨h2.1, fun k => by
    rw [h2.2 k, look_put]
    by_cases e : k = c
    · subst e; simp; cases h : look W k <;> simp_all
    · simp [e]⟩
  simpa using h1.len h3
theorem len_put_new {W : Tl} (h : UpW W) {c v : Int} (hc : look W c = none) : (put W c v).length = W.length + 1 := by
  have h1 := look_keys (up_put h c v)
  have h2 := look_keys h
  have h3 : Keys (look (put W c v)) (c :: W.map (·.1)) := ⟨List.nodup_cons.2 ⟨look_none.1 hc, h2.1⟩, fun k => by
    rw [List.mem_cons, h2.2 k, look_put]
    by_cases e : k = c
    · simp [e]
    · simp [e]⟩
  simpa using h1.len h3

/-- What is told by rising cells is told in one way. -/
theorem up_ext : ∀ {V W : Tl}, UpW V → UpW W → (∀ k, look V k = look W k) → V = W
  | [], [], _, _, _ => rfl
  | [], (d, u) :: s, _, _, h => by have := h d; simp [look] at this
  | (c, v) :: t, [], _, _, h => by have := h c; simp [look] at this
  | (c, v) :: t, (d, u) :: s, hV, hW, h => by
    have hV' := List.pairwise_cons.1 hV
    have hW' := List.pairwise_cons.1 hW
    have hcd : c = d := by
      have m1 : c ∈ ((d, u) :: s).map (·.1) := look_mem.1 (by rw [← h c]; simp [look])
      have m2 : d ∈ ((c, v) :: t).map (·.1) := look_mem.1 (by rw [h d]; simp [look])
      rcases List.mem_cons.1 m1 with e | m1
      · exact e
      · rcases List.mem_cons.1 m2 with e | m2
        · exact e.symm
        · have a1 := hW'.1 c m1
          have a2 := hV'.1 d m2
          simp only at a1 a2
          omega
    subst hcd
    have hvu : v = u := by have := h c; simpa [look] using this
    subst hvu
    have ht : t = s := up_ext hV'.2 hW'.2 fun k => by
      by_cases e : k = c
      · subst e
        rw [look_none.2 fun m => by have := hV'.1 k m; simp at this, look_none.2 fun m => by have := hW'.1 k m; simp at this]
      · have := h k
        simpa [look, e] using this
    rw [ht]

/-! ### places -/
theorem plc_zero {R : Tl} {k : Int} : plc R k = 0 ↔ look R k = none := by
  induction R with
  | nil => simp [plc, look]
  | cons p t ih =>
    obtain ⟨c, v⟩ := p
    simp only [plc, look]
    by_cases e : k = c
    · simp [e]
    · simp only [e, if_false]
      rw [← ih]
      by_cases h : plc t k = 0 <;> simp [h]
theorem plc_le {R : Tl} {k : Int} : plc R k ≤ R.length := by
  induction R with
  | nil => simp [plc]
  | cons p t ih =>
    obtain ⟨c, v⟩ := p
    simp only [plc, List.length_cons]
    split
    · omega
    · split <;> omega
/-- Where a cell stands. -/
theorem plc_at {R : Tl} {k : Int} (h : plc R k ≠ 0) : ∃ v, R[plc R k - 1]? = some (k, v) ∧ look R k = some v := by
  induction R with
  | nil => simp [plc] at h
  | cons p t ih =>
    obtain ⟨c, v⟩ := p
    simp only [plc, look] at h ⊢
    by_cases e : k = c
    · subst e; exact ⟨v, by simp, by simp⟩
    · simp only [e, if_false] at h ⊢
      by_cases h0 : plc t k = 0
      · simp [h0] at h
      · obtain ⟨u, h1, h2⟩ := ih h0
        refine ⟨u, ?_, h2⟩
        rw [if_neg h0]
        have : plc t k + 1 - 1 = (plc t k - 1) + 1 := by omega
        rw [this, List.getElem?_cons_succ]
        exact h1
theorem plc_snoc {R : Tl} {c v k : Int} (h : look R c = none) : plc (R ++ [(c, v)]) k = if k = c then R.length + 1 else plc R k := by
  induction R with
  | nil => simp [plc]
  | cons p t ih =>
    obtain ⟨d, u⟩ := p
    simp only [look] at h
    by_cases e : c = d
    · simp [e] at h
    · simp only [e, if_false] at h
      simp only [List.cons_append, plc, List.length_cons]
      by_cases e2 : k = d
      · subst e2
        have : ¬ k = c := fun e' => e e'.symm
        simp [this]
      · simp only [e2, if_false]
        rw [ih h]
        by_cases e3 : k = c
        · simp [e3]
        · simp [e3]

/-! ### on the way through a list -/
theorem plc_first {R : Tl} {c v : Int} {i : Nat} (h : ∀ (j : Nat) (p : Int × Int), j < i → R[j]? = some p → p.1 ≠ c) (hi : R[i]? = some (c, v)) : plc R c = i + 1 ∧ look R c = some v := by
  induction R generalizing i with
  | nil => simp at hi
  | cons q t ih =>
    obtain ⟨d, u⟩ := q
    cases i with
    | zero =>
      simp at hi
      obtain ⟨rfl, rfl⟩ := hi
      simp [plc, look]
    | succ i =>
      have hd : ¬ c = d := fun e => h 0 (d, u) (by omega) rfl e.symm
      obtain ⟨h1, h2⟩ := ih (i := i) (fun j p hj hp => h (j + 1) p (by omega) (by simpa using hp)) (by simpa using hi)
      simp only [plc, look, if_neg hd]
      refine ⟨?_, h2⟩
      rw [h1, if_neg (by omega)]
theorem plc_no {R : Tl} {c : Int} (h : ∀ (j : Nat) (p : Int × Int), R[j]? = some p → p.1 ≠ c) : plc R c = 0 ∧ look R c = none := by
  have : look R c = none := look_none.2 fun hm => by
    obtain ⟨p, hp, e⟩ := List.mem_map.1 hm
    obtain ⟨j, hj, rfl⟩ := List.getElem_of_mem hp
    exact h j _ (List.getElem?_eq_getElem hj) e
  exact ⟨plc_zero.2 this, this⟩

theorem put_all {T : Tl} {c v : Int} (h : ∀ x ∈ T, x.1 < c) : put T c v = T ++ [(c, v)] := by
  unfold put low high
  rw [List.filter_eq_self.2 (fun x hx => by simpa using h x hx), List.filter_eq_nil_iff.2 (fun x hx => by have := h x hx; simp; omega)]
theorem put_eq {T : Tl} {c u v : Int} (h : ∀ x ∈ T, x.1 < c) : put (T ++ [(c, u)]) c v = T ++ [(c, v)] := by
  unfold put low high
  rw [List.filter_append, List.filter_append, List.filter_eq_self.2 (fun x hx => by simpa using h x hx), show T.filter (fun p => decide (c < p.1)) = [] from List.filter_eq_nil_iff.2 (fun x hx => by have := h x hx; simp; omega)]
  simp
theorem put_gt {T : Tl} {c d u v : Int} (h : c < d) : put (T ++ [(d, u)]) c v = put T c v ++ [(d, u)] := by
  unfold put low high
  have h' : ¬ d < c := by omega
  simp [List.filter_append, h, h']

theorem up_at {W : Tl} (h : UpW W) {i j : Nat} {p q : Int × Int} (hp : W[i]? = some p) (hq : W[j]? = some q) (hij : i < j) : p.1 < q.1 := by
  have h' : W.Pairwise (fun a b => a.1 < b.1) := List.pairwise_map.1 h
  obtain ⟨hi, rfl⟩ := List.getElem?_eq_some_iff.1 hp
  obtain ⟨hj, rfl⟩ := List.getElem?_eq_some_iff.1 hq
  exact List.pairwise_iff_getElem.1 h' i j hi hj hij

/-- The list under way. -/
def wl (T : Tl) (c v : Int) (p : Bool) : Tl := if p = true then put T c v else T
/-- Whether the cell has been put. -/
def wp_ (T : Tl) (c : Int) (p : Bool) : Prop := (p = false → ∀ x ∈ T, x.1 < c) ∧ (p = true → ∃ x ∈ T, c ≤ x.1)

end Go.Proofs.YtpmbkeaimdeglaaDoor
