/-
  What a state of collections is, plainly: kinds, and of each collection its pairs by rising keys; the calls; what is right stays right. Of no program.
-/
import Derived.Test.YtnlogilbiifmiaaTlPlain
namespace Go.Proofs.Ytnlogilbiifmiaa

structure M8 where
  K : List Int
  L : List Tl

structure M8.Ok (A : M8) : Prop where
  len : A.K.length = A.L.length
  few : A.L.length ≤ 8
  ups : ∀ W ∈ A.L, UpW W ∧ W.length ≤ 100

/-- The place, from 1 on, of the first kind that is none; 0: all are some. -/
def firstBad : List Int → Nat
  | [] => 0
  | k :: t => if k < 1 ∨ 3 < k then 1 else if firstBad t = 0 then 0 else firstBad t + 1

def M8.made (K : List Int) : M8 := ⟨K, List.replicate K.length []⟩
/-- New: is there a state, the error's number, its place. -/
def mNew (K : List Int) : Bool × Nat × Nat :=
  if firstBad K ≠ 0 then (false, 17, firstBad K) else if 8 < K.length then (false, 8, 0) else (true, 0, 0)

def M8.there (A : M8) (c : Int) : Prop := 0 ≤ c ∧ c < (A.L.length : Int)
instance (A : M8) (c : Int) : Decidable (A.there c) := by unfold M8.there; infer_instance
def M8.col (A : M8) (c : Int) : Tl := A.L.getD c.toNat []
def M8.kind (A : M8) (c : Int) : Int := A.K.getD c.toNat 0
def M8.setC (A : M8) (c : Int) (W : Tl) : M8 := { A with L := A.L.set c.toNat W }

def del (W : Tl) (k : Int) : Tl := W.filter fun p => decide (p.1 ≠ k)
def ceil (W : Tl) (k : Int) : Option Int := (W.find? fun p => decide (k ≤ p.1)).map (·.1)
def rng (W : Tl) (a b : Int) : Nat := (W.filter fun p => decide (a ≤ p.1 ∧ p.1 ≤ b)).length

def mGet (A : M8) (c k : Int) : Int × Bool × Nat :=
  if A.there c then ((look (A.col c) k).getD 0, (look (A.col c) k).isSome, 0) else (0, false, 3)
def mVal (A : M8) (c v : Int) : Int := if A.kind c = 2 then 1 else v
def mPut (A : M8) (c k v : Int) : M8 × Nat :=
  if A.there c then
    if look (A.col c) k = none ∧ 100 ≤ (A.col c).length then (A, 8) else (A.setC c (put (A.col c) k (mVal A c v)), 0)
  else (A, 3)
def mDel (A : M8) (c k : Int) : M8 × Nat := if A.there c then (A.setC c (del (A.col c) k), 0) else (A, 3)
def mCeil (A : M8) (c k : Int) : Int × Bool × Nat :=
  if A.there c then if A.kind c = 3 then ((ceil (A.col c) k).getD 0, (ceil (A.col c) k).isSome, 0) else (0, false, 17) else (0, false, 3)
def mRange (A : M8) (c a b : Int) : Nat × Nat :=
  if A.there c then if A.kind c = 3 then (rng (A.col c) a b, 0) else (0, 17) else (0, 3)

theorem M8.col_at {A : M8} {c : Int} (h : A.there c) : A.L[c.toNat]? = some (A.col c) := by
  have : c.toNat < A.L.length := by have := h.1; have := h.2; omega
  unfold M8.col
  rw [List.getD_eq_getElem?_getD, List.getElem?_eq_getElem this]
  rfl
theorem M8.kind_at {A : M8} (ok : A.Ok) {c : Int} (h : A.there c) : A.K[c.toNat]? = some (A.kind c) := by
  have : c.toNat < A.K.length := by have := h.1; have := h.2; have := ok.len; omega
  unfold M8.kind
  rw [List.getD_eq_getElem?_getD, List.getElem?_eq_getElem this]
  rfl
theorem M8.Ok.col {A : M8} (ok : A.Ok) {c : Int} (h : A.there c) : UpW (A.col c) ∧ (A.col c).length ≤ 100 :=
  ok.ups _ (List.mem_of_getElem? (M8.col_at h))
theorem M8.Ok.setC {A : M8} (ok : A.Ok) (c : Int) {W : Tl} (hW : UpW W ∧ W.length ≤ 100) : (A.setC c W).Ok where
  len := by simp [M8.setC, ok.len]
  few := by simp [M8.setC, ok.few]
  ups := fun V hV => by
    rcases List.mem_or_eq_of_mem_set hV with h | h
    · exact ok.ups V h
    · rw [h]; exact hW

theorem look_del (W : Tl) (k j : Int) : look (del W k) j = if j = k then none else look W j := by
  unfold del
  rw [look_filter W (fun x => decide (x ≠ k))]
  by_cases e : j = k
  · simp [e]
  · simp [e]
theorem up_del {W : Tl} (h : UpW W) (k : Int) : UpW (del W k) := by
  have h' : W.Pairwise (fun a b => a.1 < b.1) := List.pairwise_map.1 h
  exact List.pairwise_map.2 (h'.filter _)
theorem del_len (W : Tl) (k : Int) : (del W k).length ≤ W.length := List.length_filter_le _ _

theorem mPut_ok {A : M8} (h : A.Ok) (c k v : Int) : (mPut A c k v).1.Ok := by
  unfold mPut
  split
  · rename_i ht
    split
    · exact h
    · rename_i hn
      obtain ⟨h1, h2⟩ := h.col ht
      refine h.setC c ⟨up_put h1 _ _, ?_⟩
      by_cases hc : look (A.col c) k = none
      · rw [len_put_new h1 hc]
        have : ¬ 100 ≤ (A.col c).length := fun h' => hn ⟨hc, h'⟩
        omega
      · rw [len_put_there h1 hc]; exact h2
  · exact h
theorem mDel_ok {A : M8} (h : A.Ok) (c k : Int) : (mDel A c k).1.Ok := by
  unfold mDel
  split
  · rename_i ht
    obtain ⟨h1, h2⟩ := h.col ht
    exact h.setC c ⟨up_del h1 _, Nat.le_trans (del_len _ _) h2⟩
  · exact h
theorem made_ok {K : List Int} (h : K.length ≤ 8) : (M8.made K).Ok where
  len := by simp [M8.made]
  few := by simpa [M8.made] using h
  ups := fun W hW => by
    obtain ⟨_, rfl⟩ := List.mem_replicate.1 hW
    exact ⟨List.Pairwise.nil, by simp⟩

/-! ### walking -/
/-- The kinds ahead of i are some. -/
theorem bad_none {K : List Int} (h : ∀ (j : Nat) (k : Int), K[j]? = some k → ¬ (k < 1 ∨ 3 < k)) : firstBad K = 0 := by
  induction K with
  | nil => rfl
  | cons k t ih =>
    unfold firstBad
    rw [if_neg (h 0 k rfl), if_pos (ih fun j x hx => h (j + 1) x (by simpa using hx))]
theorem bad_first {K : List Int} {i : Nat} {x : Int} (h : ∀ (j : Nat) (k : Int), j < i → K[j]? = some k → ¬ (k < 1 ∨ 3 < k)) (hi : K[i]? = some x) (hx : x < 1 ∨ 3 < x) : firstBad K = i + 1 := by
  induction K generalizing i with
  | nil => simp at hi
  | cons k t ih =>
    cases i with
    | zero =>
      simp at hi
      subst hi
      unfold firstBad
      rw [if_pos hx]
    | succ i =>
      unfold firstBad
      have := ih (i := i) (fun j y hj hy => h (j + 1) y (by omega) (by simpa using hy)) (by simpa using hi)
      rw [if_neg (h 0 k (by omega) rfl), if_neg (by rw [this]; omega), this]

theorem ceil_first {W : Tl} {k : Int} {i : Nat} {p : Int × Int} (h : ∀ (j : Nat) (q : Int × Int), j < i → W[j]? = some q → q.1 < k) (hi : W[i]? = some p) (hp : k ≤ p.1) : ceil W k = some p.1 := by
  unfold ceil
  induction W generalizing i with
  | nil => simp at hi
  | cons q t ih =>
    cases i with
    | zero =>
      simp at hi
      subst hi
      simp [hp]
    | succ i =>
      have h0 := h 0 q (by omega) rfl
      have h0' : ¬ k ≤ q.1 := by omega
      have := ih (i := i) (fun j y hj hy => h (j + 1) y (by omega) (by simpa using hy)) (by simpa using hi)
      simpa [List.find?_cons, h0'] using this
theorem ceil_no {W : Tl} {k : Int} (h : ∀ (j : Nat) (q : Int × Int), W[j]? = some q → q.1 < k) : ceil W k = none := by
  unfold ceil
  rw [Option.map_eq_none_iff, List.find?_eq_none]
  intro x hx
  obtain ⟨j, hj⟩ := List.getElem?_of_mem hx
  have := h j x hj
  simp; omega
theorem ceil_look {W : Tl} {k m : Int} (h : ceil W k = some m) : (look W m).isSome = true ∧ k ≤ m := by
  unfold ceil at h
  obtain ⟨p, hp, rfl⟩ := Option.map_eq_some_iff.1 h
  exact ⟨look_mem.2 (List.mem_map.2 ⟨p, List.mem_of_find?_eq_some hp, rfl⟩), by simpa using List.find?_some hp⟩

theorem rng_take {W : Tl} {a b : Int} {i : Nat} {p : Int × Int} (h : W[i]? = some p) : rng (W.take (i + 1)) a b = rng (W.take i) a b + (if a ≤ p.1 ∧ p.1 ≤ b then 1 else 0) := by
  unfold rng
  rw [List.take_add_one, h, List.filter_append]
  by_cases e : a ≤ p.1 ∧ p.1 ≤ b
  · simp [e]
  · simp [e]
theorem rng_le (W : Tl) (a b : Int) : rng W a b ≤ W.length := List.length_filter_le _ _
theorem del_take {W : Tl} {k : Int} {i : Nat} {p : Int × Int} (h : W[i]? = some p) : del (W.take (i + 1)) k = del (W.take i) k ++ (if p.1 = k then [] else [p]) := by
  unfold del
  rw [List.take_add_one, h, List.filter_append]
  by_cases e : p.1 = k
  · simp [e]
  · simp [e]
theorem take_add {W : Tl} {i : Nat} {p : Int × Int} (h : W[i]? = some p) : W.take (i + 1) = W.take i ++ [p] := by
  rw [List.take_add_one, h]; rfl
end Go.Proofs.Ytnlogilbiifmiaa
