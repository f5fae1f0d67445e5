/-
  meta, plainly: what the Ticks of several threads answer: for each thread rising, no two the same, so many as the clock shows.
  For MetaTicks: lists of lists of calls that append built; how often each number was met.
  meta, plainly: writers of one cell and readers of it, step by step: what is read is what was committed with that version, and versions don't fall.
-/
import Derived.Test.YtenhmficiegpiaaGreatDoorMtLists

namespace Go.Proofs.YtenhmficiegpiaaGreatDoor

def c2 : Cal := ⟨2, 0, 0, 0⟩
/-- The numbers that answers tell. -/
def oks : List Ans → List Nat
  | [] => []
  | a :: l => if a.err = 0 then a.n.toNat :: oks l else oks l
theorem oks_app : ∀ l m : List Ans, oks (l ++ m) = oks l ++ oks m
  | [], m => rfl
  | a :: l, m => by
    show (if a.err = 0 then a.n.toNat :: oks (l ++ m) else oks (l ++ m)) = (if a.err = 0 then a.n.toNat :: oks l else oks l) ++ oks m
    rw [oks_app l m]
    split <;> rfl
/-- Each answer is a refusal or a number. -/
def Told (l : List Ans) : Prop := ∀ a ∈ l, a = ⟨12, 0, 0⟩ ∨ ∃ v : Nat, a = ⟨0, 0, v⟩
theorem Told.add {l : List Ans} {a : Ans} (h : Told l) (ha : a = ⟨12, 0, 0⟩ ∨ ∃ v : Nat, a = ⟨0, 0, v⟩) : Told (l ++ [a]) := by
  intro x hx
  rcases List.mem_append.1 hx with hx | hx
  · exact h x hx
  · rw [List.mem_singleton.1 hx]; exact ha

/-- Ahead of a load; ahead of a CAS that expects w. -/
def tkB (r n : Nat) (acc : List Ans) : Pr (List Ans) := (tickT 1 n).bind fun a => callsT 1 3 (List.replicate r c2) (acc ++ [a])
def tkC (r n w : Nat) (acc : List Ans) : Pr (List Ans) := (Pr.acc (.cas 1 0 w ((w + 1) % 18446744073709551616)) fun f => if f.done then .ret ⟨0, 0, i64 ((w + 1) % 18446744073709551616)⟩ else tickT 1 n).bind fun a => callsT 1 3 (List.replicate r c2) (acc ++ [a])
theorem calls_tick_succ (r : Nat) (acc : List Ans) : callsT 1 3 (List.replicate (r + 1) c2) acc = tkB r 8 acc := by
  rw [List.replicate_succ, callsT_go (fun hh => absurd hh.1 (by decide))]
  rfl

theorem tkB_step (r m : Nat) (acc : List Ans) (t : T3) : (tkB r (m + 1) acc).step3 t = (tkC r m t.k acc, t) := rfl
theorem tkC_yes (r m : Nat) (acc : List Ans) (t : T3) : (tkC r m t.k acc).step3 t = (callsT 1 3 (List.replicate r c2) (acc ++ [⟨0, 0, i64 ((t.k + 1) % 18446744073709551616)⟩]), { t with k := (t.k + 1) % 18446744073709551616 }) := by
  show (Pr.bind (if (req3 t (.cas 1 0 t.k _)).1.done then _ else _) _, (req3 t (.cas 1 0 t.k _)).2) = _
  have e : ∀ x, req3 t (.cas 1 0 t.k x) = (⟨3, 1, 0, x, true, .ok⟩, { t with k := x }) := fun x => by
    show (if t.k = t.k then _ else _) = _
    rw [if_pos rfl]; rfl
  rw [e]
  rfl
theorem tkC_no (r m w : Nat) (acc : List Ans) (t : T3) (h : t.k ≠ w) : (tkC r m w acc).step3 t = (tkB r m acc, t) := by
  show (Pr.bind (if (req3 t (.cas 1 0 w _)).1.done then _ else _) _, (req3 t (.cas 1 0 w _)).2) = _
  have e : ∀ x, req3 t (.cas 1 0 w x) = (⟨3, 1, 0, x, false, .ok⟩, t) := fun x => by
    show (if t.k = w then _ else _) = _
    rw [if_neg h]
  rw [e]
  rfl
theorem tkB_zero (r : Nat) (acc : List Ans) : tkB r 0 acc = callsT 1 3 (List.replicate r c2) (acc ++ [⟨12, 0, 0⟩]) := rfl

/-- Where a thread is that has answered A. -/
def Pos (times : Nat) (p : Pr (List Ans)) (A : List Ans) : Prop :=
  (p = .ret A ∧ A.length ≤ times) ∨ (∃ r n, p = tkB r (n + 1) A ∧ A.length + r + 1 ≤ times) ∨ ∃ r n w, p = tkC r n w A ∧ A.length + r + 1 ≤ times
theorem pos_calls {times r : Nat} {A : List Ans} (h : A.length + r ≤ times) : Pos times (callsT 1 3 (List.replicate r c2) A) A := by
  cases r with
  | zero => exact .inl ⟨rfl, by omega⟩
  | succ r => exact .inr (.inl ⟨r, 7, calls_tick_succ r A, by omega⟩)

def sumN (f : Nat → Nat) : Nat → Nat
  | 0 => 0
  | n + 1 => sumN f n + f n
theorem sumN_congr {f g : Nat → Nat} : ∀ n, (∀ i, i < n → f i = g i) → sumN f n = sumN g n
  | 0, _ => rfl
  | n + 1, h => by rw [sumN, sumN, sumN_congr n fun i hi => h i (by omega), h n (by omega)]
theorem sumN_up {f g : Nat → Nat} {k d : Nat} : ∀ n, k < n → (∀ i, i < n → i ≠ k → g i = f i) → g k = f k + d → sumN g n = sumN f n + d
  | 0, h, _, _ => by omega
  | n + 1, h, h1, h2 => by
    rw [sumN, sumN]
    by_cases e : k = n
    · subst e
      rw [sumN_congr k fun i hi => h1 i (by omega) (by omega), h2]
      omega
    · rw [sumN_up n (by omega) (fun i hi he => h1 i (by omega) he) h2, h1 n (by omega) (fun h => e h.symm)]
      omega
theorem sumN_le {f : Nat → Nat} {m : Nat} : ∀ n, (∀ i, i < n → f i ≤ m) → sumN f n ≤ n * m
  | 0, _ => by rw [sumN]; omega
  | n + 1, h => by
    have := sumN_le n fun i hi => h i (by omega)
    have := h n (by omega)
    rw [sumN, Nat.succ_mul]
    omega

theorem oks_len : ∀ l : List Ans, (oks l).length ≤ l.length
  | [] => Nat.le_refl _
  | a :: l => by
    have := oks_len l
    show (if a.err = 0 then a.n.toNat :: oks l else oks l).length ≤ l.length + 1
    split
    · rw [List.length_cons]; omega
    · omega

/-- What threads have told, the clock at c. -/
structure Ticked (n times c : Nat) (A : Nat → List Ans) : Prop where
  told : ∀ i, i < n → Told (A i)
  rise : ∀ i, i < n → (oks (A i)).Pairwise (· < ·)
  fit : ∀ i, i < n → ∀ v ∈ oks (A i), 1 ≤ v ∧ v ≤ c
  apart : ∀ i j, i < n → j < n → i ≠ j → ∀ v ∈ oks (A i), v ∉ oks (A j)
  sum : sumN (fun i => (oks (A i)).length) n = c
  few : ∀ i, i < n → (A i).length ≤ times

def TkJ (n times : Nat) (t : T3) (p : Nat → Pr (List Ans)) : Prop := ∃ A, (∀ i, i < n → Pos times (p i) (A i)) ∧ Ticked n times t.k A

theorem Pos.few {times : Nat} {p : Pr (List Ans)} {A : List Ans} (h : Pos times p A) : A.length ≤ times := by
  rcases h with ⟨_, h⟩ | ⟨_, _, _, h⟩ | ⟨_, _, _, _, h⟩ <;> omega
theorem Ticked.le {n times c : Nat} {A : Nat → List Ans} (h : Ticked n times c A) : c ≤ n * times := by
  rw [← h.sum]
  exact sumN_le n fun i hi => Nat.le_trans (oks_len _) (h.few i hi)

/-- A thread told nothing, or that it was refused. -/
theorem TkJ.still {n times : Nat} {t : T3} {p : Nat → Pr (List Ans)} {A : Nat → List Ans} {k : Nat} (hP : ∀ i, i < n → Pos times (p i) (A i)) (hT : Ticked n times t.k A) {p' : Pr (List Ans)} {A' : List Ans} (ho : oks A' = oks (A k)) (ht : k < n → Told A') (hp : Pos times p' A') : TkJ n times t (setAt p k p') := by
  have e : ∀ i, oks (setAt A k A' i) = oks (A i) := fun i => by
    by_cases he : i = k
    · subst he; rw [setAt_same, ho]
    · rw [setAt_ne _ _ he]
  refine ⟨setAt A k A', fun i hi => ?_, ⟨fun i hi => ?_, fun i hi => ?_, fun i hi => ?_, fun i j hi hj => ?_, ?_, fun i hi => ?_⟩⟩
  · by_cases he : i = k
    · subst he; rw [setAt_same, setAt_same]; exact hp
    · rw [setAt_ne _ _ he, setAt_ne _ _ he]; exact hP i hi
  · by_cases he : i = k
    · subst he; rw [setAt_same]; exact ht hi
    · rw [setAt_ne _ _ he]; exact hT.told i hi
  · rw [e]; exact hT.rise i hi
  · rw [e]; exact hT.fit i hi
  · rw [e, e]; exact hT.apart i j hi hj
  · rw [sumN_congr n fun i _ => by rw [e]]; exact hT.sum
  · by_cases he : i = k
    · subst he; rw [setAt_same]; exact hp.few
    · rw [setAt_ne _ _ he]; exact hT.few i hi

/-- A thread told the clock's next number. -/
theorem TkJ.told {n times : Nat} {t : T3} {p : Nat → Pr (List Ans)} {A : Nat → List Ans} {k : Nat} (hk : k < n) (hP : ∀ i, i < n → Pos times (p i) (A i)) (hT : Ticked n times t.k A) {p' : Pr (List Ans)} (hp : Pos times p' (A k ++ [⟨0, 0, ((t.k + 1 : Nat) : Int)⟩])) : TkJ n times { t with k := t.k + 1 } (setAt p k p') := by
  have e1 : oks (A k ++ [⟨0, 0, ((t.k + 1 : Nat) : Int)⟩]) = oks (A k) ++ [t.k + 1] := by rw [oks_app]; rfl
  have hnew : ∀ i, i < n → t.k + 1 ∉ oks (A i) := fun i hi h => by have := (hT.fit i hi _ h).2; omega
  refine ⟨setAt A k (A k ++ [⟨0, 0, ((t.k + 1 : Nat) : Int)⟩]), fun i hi => ?_, ⟨fun i hi => ?_, fun i hi => ?_, fun i hi v hv => ?_, fun i j hi hj hij v hv => ?_, ?_, fun i hi => ?_⟩⟩
  · by_cases he : i = k
    · subst he; rw [setAt_same, setAt_same]; exact hp
    · rw [setAt_ne _ _ he, setAt_ne _ _ he]; exact hP i hi
  · by_cases he : i = k
    · subst he; rw [setAt_same]; exact (hT.told i hi).add (.inr ⟨_, rfl⟩)
    · rw [setAt_ne _ _ he]; exact hT.told i hi
  · by_cases he : i = k
    · subst he
      rw [setAt_same, e1, List.pairwise_append]
      refine ⟨hT.rise i hi, List.pairwise_singleton _ _, fun a ha b hb => ?_⟩
      rw [List.mem_singleton.1 hb]
      have := (hT.fit i hi a ha).2
      omega
    · rw [setAt_ne _ _ he]; exact hT.rise i hi
  · show 1 ≤ v ∧ v ≤ t.k + 1
    by_cases he : i = k
    · subst he
      rw [setAt_same, e1] at hv
      rcases List.mem_append.1 hv with hv | hv
      · have := hT.fit i hi v hv; omega
      · rw [List.mem_singleton.1 hv]; omega
    · rw [setAt_ne _ _ he] at hv
      have := hT.fit i hi v hv; omega
  · by_cases he : i = k
    · subst he
      rw [setAt_same, e1] at hv
      rw [setAt_ne _ _ (fun h => hij h.symm)]
      rcases List.mem_append.1 hv with hv | hv
      · exact hT.apart i j hi hj hij v hv
      · rw [List.mem_singleton.1 hv]; exact hnew j hj
    · rw [setAt_ne _ _ he] at hv
      by_cases hf : j = k
      · subst hf
        rw [setAt_same, e1]
        intro h
        rcases List.mem_append.1 h with h | h
        · exact hT.apart i j hi hj hij v hv h
        · rw [List.mem_singleton.1 h] at hv; exact hnew i hi hv
      · rw [setAt_ne _ _ hf]; exact hT.apart i j hi hj hij v hv
  · rw [sumN_up (f := fun i => (oks (A i)).length) (k := k) (d := 1) n hk (fun i hi he => by simp only [setAt_ne _ _ he]) (by simp only [setAt_same, e1, List.length_append, List.length_singleton])]
    show _ = t.k + 1
    rw [hT.sum]
  · by_cases he : i = k
    · subst he; rw [setAt_same]; exact hp.few
    · rw [setAt_ne _ _ he]; exact hT.few i hi

theorem tkJ_step {n times : Nat} (hb : n * times ≤ 1000) (t : T3) (p : Nat → Pr (List Ans)) (k : Nat) (h : TkJ n times t p) (hk : k < n) : TkJ n times ((p k).step3 t).2 (setAt p k ((p k).step3 t).1) := by
  obtain ⟨A, hP, hT⟩ := h
  rcases hP k hk with ⟨e, hl⟩ | ⟨r, m, e, hl⟩ | ⟨r, m, w, e, hl⟩
  · rw [show (p k).step3 t = (p k, t) by rw [e]; rfl, setAt_self]
    exact ⟨A, hP, hT⟩
  · rw [e, tkB_step]
    exact TkJ.still hP hT rfl (fun h => hT.told k h) (.inr (.inr ⟨r, m, _, rfl, hl⟩))
  · by_cases hw : t.k = w
    · subst hw
      have hc := hT.le
      have e1 : (t.k + 1) % 18446744073709551616 = t.k + 1 := by omega
      have e2 : i64 (t.k + 1) = ((t.k + 1 : Nat) : Int) := by unfold i64; rw [if_pos (by omega)]
      rw [e, tkC_yes, e1, e2]
      exact TkJ.told hk hP hT (pos_calls (by rw [List.length_append, List.length_singleton]; omega))
    · rw [e, tkC_no _ _ _ _ _ hw]
      cases m with
      | zero =>
        rw [tkB_zero]
        exact TkJ.still hP hT (by rw [oks_app]; simp [oks]) (fun h => (hT.told k h).add (.inl rfl)) (pos_calls (by rw [List.length_append, List.length_singleton]; omega))
      | succ m => exact TkJ.still hP hT rfl (fun h => hT.told k h) (.inr (.inl ⟨r, m, rfl, hl⟩))

/-- The lists of calls. -/
def tickLs (n times : Nat) : List (List Cal) := List.replicate n (List.replicate times c2)

/-- At the end. -/
theorem ticks_end {n times : Nat} (hb : n * times ≤ 1000) {m : Mm} (hm : (view m).k = 0) (hinv : PInv n (S0of m (tickLs n times))) {Sf : PS} (hS : ∀ I, Stays n I → I (S0of m (tickLs n times)) → I Sf) {L : Nat → List Ans} (hL : ∀ i, i < n → Sf.p i = .ret (L i)) :
    PInv n Sf ∧ Ticked n times (view Sf.m).k L := by
  obtain ⟨h1, A, h2, h3⟩ := hS _ (lift3 (TkJ n times) fun t p k h hk => tkJ_step hb t p k h hk) ⟨hinv, fun _ => [], fun i hi => by
      show Pos times (callsT 1 3 ((tickLs n times).getD i []) []) []
      rw [show (tickLs n times).getD i [] = List.replicate times c2 by simp [tickLs, hi]]
      exact pos_calls (by simp),
    ⟨fun i _ x hx => (by cases hx), fun i _ => List.Pairwise.nil, fun i _ v hv => (by cases hv), fun i j _ _ _ v hv => (by cases hv), by
      show sumN (fun _ => 0) n = (view m).k
      rw [hm]
      have := sumN_le (f := fun _ => 0) (m := 0) n fun _ _ => Nat.le_refl _
      omega, fun i _ => Nat.zero_le _⟩⟩
  refine ⟨h1, ?_⟩
  have e : ∀ i, i < n → L i = A i := fun i hi => by
    rcases h2 i hi with ⟨h, _⟩ | ⟨r, k, h, _⟩ | ⟨r, k, w, h, _⟩
    · have := (hL i hi).symm.trans h
      injection this
    · have := (hL i hi).symm.trans h
      cases this
    · have := (hL i hi).symm.trans h
      cases this
  exact ⟨fun i hi => by rw [e i hi]; exact h3.told i hi, fun i hi => by rw [e i hi]; exact h3.rise i hi, fun i hi => by rw [e i hi]; exact h3.fit i hi, fun i j hi hj => by rw [e i hi, e j hj]; exact h3.apart i j hi hj, by rw [← h3.sum]; exact sumN_congr n fun i hi => by rw [e i hi], fun i hi => by rw [e i hi]; exact h3.few i hi⟩

/-! ### as the law goes through them -/
/-- The numbers of the threads ahead of i. -/
def pre (L : Nat → List Ans) : Nat → List Nat
  | 0 => []
  | i + 1 => pre L i ++ oks (L i)
theorem mem_pre {L : Nat → List Ans} {v : Nat} : ∀ i, v ∈ pre L i → ∃ j, j < i ∧ v ∈ oks (L j)
  | 0, h => by cases h
  | i + 1, h => by
    rcases List.mem_append.1 h with h | h
    · obtain ⟨j, h1, h2⟩ := mem_pre i h
      exact ⟨j, by omega, h2⟩
    · exact ⟨i, by omega, h⟩
theorem pre_len (L : Nat → List Ans) : ∀ i, (pre L i).length = sumN (fun i => (oks (L i)).length) i
  | 0 => rfl
  | i + 1 => by rw [pre, List.length_append, pre_len L i]; rfl

/-- The answer at k of a list, and what is told by so many. -/
theorem oks_at {l : List Ans} (h : Told l) (hr : (oks l).Pairwise (· < ·)) {k : Nat} (hk : k < l.length) :
    (l.getD k ⟨0, 0, 0⟩ = ⟨12, 0, 0⟩ ∧ oks (l.take (k + 1)) = oks (l.take k)) ∨
    ∃ v : Nat, l.getD k ⟨0, 0, 0⟩ = ⟨0, 0, v⟩ ∧ oks (l.take (k + 1)) = oks (l.take k) ++ [v] ∧ v ∈ oks l ∧ ∀ x ∈ oks (l.take k), x < v := by
  have e : l.take (k + 1) = l.take k ++ [l.getD k ⟨0, 0, 0⟩] := by
    rw [List.take_add_one]
    simp [List.getD, List.getElem?_eq_getElem hk]
  have hm : l.getD k ⟨0, 0, 0⟩ ∈ l := by simp [List.getD, List.getElem?_eq_getElem hk]
  have e3 : oks l = oks (l.take (k + 1)) ++ oks (l.drop (k + 1)) := by rw [← oks_app, List.take_append_drop]
  rcases h _ hm with h1 | ⟨v, h1⟩
  · refine .inl ⟨h1, ?_⟩
    rw [e, h1, oks_app]
    simp [oks]
  · have e2 : oks (l.take (k + 1)) = oks (l.take k) ++ [v] := by
      rw [e, h1, oks_app]
      simp [oks]
    refine .inr ⟨v, h1, e2, by rw [e3, e2]; simp, fun x hx => ?_⟩
    rw [e3, e2, List.append_assoc, List.pairwise_append] at hr
    exact hr.2.2 x hx v (by simp)

/-- Behind it, alone. -/
theorem ticks_after {t : T3} (h : t.k ≤ 1000) : ∃ t', (callsT 1 3 [⟨1, 0, 0, 0⟩] []).solo t = ([⟨0, 0, (t.k : Int)⟩], t') := by
  refine ⟨t, ?_⟩
  have e : i64 t.k = (t.k : Int) := by unfold i64; rw [if_pos (by omega)]
  show (([⟨0, 0, i64 t.k⟩] : List Ans), t) = _
  rw [e]
end Go.Proofs.YtenhmficiegpiaaGreatDoor

namespace Go.Proofs.YtenhmficiegpiaaGreatDoor
open Go.RowKit Go.Extern.Stop Go.Stop Go.Extern

structure LR2 (w0 w : World) (v : Value) (ls : List (List Cal)) (xs : List Value) : Prop where
  row : w.ownsRow 0 32 1 v ls.length xs
  len : xs.length = ls.length
  lits : ∀ j, j < ls.length → ∃ u, xs[j]? = some u ∧ CRow w u (ls.getD j []) ∧ ∀ g, u.ownBlock = some g → w0.heap.size ≤ g ∧ g < w.heap.size ∧ v.ownBlock ≠ some g
  far : ∀ g, v.ownBlock = some g → w0.heap.size ≤ g
  k : Keeps (fun _ => False) w0 w

theorem LR2.nil (w0 : World) : LR2 w0 w0 (.slice none 0 0) [] [] := ⟨World.ownsRow_nil _ _ _ _, rfl, fun j hj => absurd hj (Nat.not_lt_zero _), fun g hg => (by cases hg), Keeps.refl _ _⟩

theorem LR2.next {w0 wo w V : World} {v u : Value} {ls : List (List Cal)} {xs : List Value} {l : List Cal} {o2 : Obj} {g' cap n : Nat} (h : LR2 w0 wo v ls xs) (hn : ls.length = n) (k : Keeps (fun _ => False) wo w) (hu : CalRow w u l) (hf : ∀ g, u.ownBlock = some g → wo.heap.size ≤ g)
    (hO : V.ownsRow 0 32 1 (.slice (some ⟨g', 0, none⟩) (n + 1) cap) (n + 1) (xs ++ [u])) (hG : (w.alloc o2).grownBy V v.ownBlock) (hl : v.ownBlock = some g' ∨ g' = (w.alloc o2).heap.size) :
    LR2 w0 V (.slice (some ⟨g', 0, none⟩) (n + 1) cap) (ls ++ [l]) (xs ++ [u]) := by
  subst hn
  have k1 : Keeps (fun _ => False) w (w.alloc o2) := (Keeps.refl _ w).alloc _
  have k3 := keeps_row hG
  have s0 := h.k.size
  have s1 := k.size
  have s2 := k1.size
  have s3 := k3.size
  have sz : (w.alloc o2).heap.size = w.heap.size + 1 := World.size_alloc _ _
  have vlt : ∀ g, v.ownBlock = some g → g < wo.heap.size := fun g hg => (World.ownsRow.lt h.row g hg).2
  have own' : ∀ g, (Value.slice (some ⟨g', 0, none⟩) (ls.length + 1) cap).ownBlock = some g → g = g' := fun g hg => by
    have : g' = g := by simpa [Value.ownBlock] using hg
    exact this.symm
  refine ⟨by rw [List.length_append]; exact hO, by simp [h.len], fun j hj => ?_, fun g hg => ?_, (((h.k.trans_ k).trans_ k1).trans k3 fun x hx he => by have := h.far x he; omega)⟩
  · rw [List.length_append, List.length_singleton] at hj
    by_cases e : j = ls.length
    · subst e
      have e1 : (ls ++ [l]).getD ls.length [] = l := by simp
      rw [e1]
      refine ⟨u, by rw [List.getElem?_append_right (by rw [h.len]; omega), h.len, Nat.sub_self]; rfl, ?_, fun g hg => ?_⟩
      · exact (hu.crow.keeps k1 fun _ _ => id).keeps k3 fun g hg he => by
          have := hf g hg
          have := vlt g he
          omega
      · have a1 := hf g hg
        have a2 := (World.ownsRow.lt hu g hg).2
        refine ⟨by omega, by omega, fun he => ?_⟩
        have e2 := own' g he
        rcases hl with hl | hl
        · have := vlt _ hl; omega
        · omega
    · have hj' : j < ls.length := by omega
      have e1 : (ls ++ [l]).getD j [] = ls.getD j [] := by simp [List.getD, List.getElem?_append_left hj']
      rw [e1]
      obtain ⟨x, h1, h2, h3⟩ := h.lits j hj'
      refine ⟨x, by rw [List.getElem?_append_left (by rw [h.len]; omega)]; exact h1, ((h2.keeps k fun _ _ => id).keeps k1 fun _ _ => id).keeps k3 fun g hg he => (h3 g hg).2.2 he, fun g hg => ?_⟩
      obtain ⟨b1, b2, b3⟩ := h3 g hg
      refine ⟨b1, by omega, fun he => ?_⟩
      have e2 := own' g he
      subst e2
      rcases hl with hl | hl
      · exact b3 hl
      · omega
  · have e2 := own' g hg
    subst e2
    rcases hl with hl | hl
    · exact h.far _ hl
    · omega

theorem LR2.rows {w0 w : World} {lg c : Nat} {ls : List (List Cal)} {xs : List Value} {n : Nat} (h : LR2 w0 w (.slice (some ⟨lg, 0, none⟩) n c) ls xs) {X : Nat → Prop} (hX : ∀ x, X x → x < w0.heap.size) : LRow w X lg ls := by
  intro i hi
  obtain ⟨u, h1, h2, h3⟩ := h.lits i hi
  have hn : n = ls.length := by
    rcases h.row.2 with ⟨hv, _⟩ | ⟨_, _, _, hv, _⟩
    · cases hv
    · injection hv
  subst hn
  refine ⟨u, ((h.row.cellAt i (by omega)).trans h1), h2, fun g hg => ?_⟩
  obtain ⟨b1, b2, _⟩ := h3 g hg
  exact ⟨fun hx => by have := hX _ hx; omega, b2⟩
theorem LR2.head {w0 w : World} {v : Value} {ls : List (List Cal)} {xs : List Value} (h : LR2 w0 w v ls xs) : ∃ o c, v = .slice o ls.length c ∧ (0 < ls.length → ∃ g, o = some ⟨g, 0, none⟩) := by
  rcases h.row.2 with ⟨hv, hn⟩ | ⟨g, cap, cur, hv, _⟩
  · exact ⟨_, _, by rw [hn]; exact hv, fun h => by omega⟩
  · exact ⟨_, _, hv, fun _ => ⟨g, rfl⟩⟩

/-- How often each number was met. -/
def metC (N : Nat) (P : List Nat) : Array Value := ((List.range N).map fun i => Value.int .i64 (if i ∈ P then 1 else 0)).toArray
theorem metC_at {N v : Nat} (P : List Nat) (h : v < N) : (metC N P)[v]? = some (.int .i64 (if v ∈ P then 1 else 0)) := by
  simp [metC, h]
theorem metC_set {N v : Nat} {P : List Nat} : (metC N P).setIfInBounds v (.int .i64 1) = metC N (P ++ [v]) := by
  apply Array.ext_getElem?
  intro i
  rw [Array.getElem?_setIfInBounds]
  by_cases hi : i < N
  · by_cases e : v = i
    · subst e
      rw [if_pos rfl, metC_at _ hi]
      simp [metC, hi]
    · have e' : ¬ i = v := fun h => e h.symm
      rw [if_neg e, metC_at _ hi, metC_at _ hi]
      simp [e']
  · have hs : (metC N P).size = N := by simp [metC]
    by_cases e : v = i
    · subst e
      rw [if_pos rfl, if_neg (by omega)]
      simp [metC, hi]
    · rw [if_neg e]
      simp [metC, hi]

theorem info_int6 : (Tryz.prog.info? 3).map (fun i => (i.zero, i.size, i.bytes)) = some (some (.int .i64 0), 1, 8) := by kernel_rfl
theorem madeInts (n : Nat) : madeCells (Value.int .i64 0).cells (n * 1) = metC n [] := by
  have h := toList_madeCells_one (Value.int .i64 0) n
  rw [Nat.mul_one]
  apply Array.toList_inj.1
  rw [show (Value.int .i64 0).cells = #[Value.int .i64 0] from rfl, h]
  simp [metC, List.map_const']
theorem run_makeInts (n : Nat) (hn : n ≤ 16384) (w : World) :
    (Instr.makeSlice 22 (.int .i64 (n : Int)) (.int .i64 (n : Int))).run Tryz.prog w = .ok (.slice (some ⟨w.heap.size, 0, none⟩) n n) (w.alloc (.cells (metC n []) 3)) := by
  obtain ⟨i, hi, hz, hs, hb⟩ := info_parts info_int6
  have hr := run_make (P := Tryz.prog) w 22 3 i (.int .i64 0) Tryz.underlying22 hi hz .i64 .i64 n n (by omega) (Int.le_refl _) (by rw [hb]; omega) (by omega)
  simp only [Int.toNat_natCast, hs, madeInts] at hr
  exact hr

theorem c2_ok : CalOk c2 := ⟨by decide, by decide, by decide, by decide⟩
theorem tickLs_ok {n m : Nat} (hm : m ≤ 6) : ∀ l ∈ tickLs n m, (∀ x ∈ l, CalOk x) ∧ l.length ≤ 10 := by
  intro l hl
  rw [(List.mem_replicate.1 hl).2]
  refine ⟨fun x hx => ?_, by rw [List.length_replicate]; omega⟩
  rw [(List.mem_replicate.1 hx).2]
  exact c2_ok
theorem tickLs_len (n m : Nat) : (tickLs n m).length = n := by simp [tickLs]
theorem tickLs_succ (n m : Nat) : tickLs (n + 1) m = tickLs n m ++ [List.replicate m c2] := by unfold tickLs; exact List.replicate_succ'
end Go.Proofs.YtenhmficiegpiaaGreatDoor

namespace Go.Proofs.YtenhmficiegpiaaGreatDoor

/-- The cell's word behind so many turns: even: not locked, at that version; odd: the next writer has locked it. -/
def wd (o : Nat) : Nat := if o % 2 = 0 then packN (o / 2) 0 false false else packN (o / 2) (o / 2 + 1) true false
def val (v : Nat) : Nat := if v = 0 then 10 else 100 * v
theorem wd_even {o : Nat} (h : o ≤ 8) (e : o % 2 = 0) : verN (wd o) = o / 2 ∧ chg (wd o) = false ∧ wai (wd o) = false := by
  obtain ⟨h1, _, h3, h4⟩ := meta_n (v := o / 2) (o := 0) (c := false) (b := false) (by omega) (by omega)
  unfold wd
  rw [if_pos e]
  exact ⟨h1, h3, h4⟩
theorem wd_odd {o : Nat} (h : o ≤ 8) (e : o % 2 = 1) : verN (wd o) = o / 2 ∧ chg (wd o) = true ∧ wai (wd o) = false := by
  obtain ⟨h1, _, h3, h4⟩ := meta_n (v := o / 2) (o := o / 2 + 1) (c := true) (b := false) (by omega) (by omega)
  unfold wd
  rw [if_neg (by omega)]
  exact ⟨h1, h3, h4⟩
theorem wd_inj {o u : Nat} (ho : o ≤ 8) (hu : u ≤ 8) (h : wd o = wd u) : o = u := by
  rcases Nat.mod_two_eq_zero_or_one o with e1 | e1 <;> rcases Nat.mod_two_eq_zero_or_one u with e2 | e2
  · have a := wd_even ho e1; have b := wd_even hu e2; rw [h] at a; have := a.1.symm.trans b.1; omega
  · have a := wd_even ho e1; have b := wd_odd hu e2; rw [h] at a; have := a.2.1.symm.trans b.2.1; cases this
  · have a := wd_odd ho e1; have b := wd_even hu e2; rw [h] at a; have := a.2.1.symm.trans b.2.1; cases this
  · have a := wd_odd ho e1; have b := wd_odd hu e2; rw [h] at a; have := a.1.symm.trans b.1; omega
theorem wd_lock {i : Nat} (h : i ≤ 3) : packN (verN (wd (2 * i))) (i + 1) true (wai (wd (2 * i))) = wd (2 * i + 1) := by
  obtain ⟨h1, _, h3⟩ := wd_even (o := 2 * i) (by omega) (by omega)
  rw [h1, h3]
  unfold wd
  rw [if_neg (by omega), show 2 * i / 2 = i by omega, show (2 * i + 1) / 2 = i by omega]
theorem wd_commit {i : Nat} : packN (i + 1) 0 false false = wd (2 * i + 2) := by
  unfold wd
  rw [if_pos (by omega), show (2 * i + 2) / 2 = i + 1 by omega]

/-! ### a writer -/
def c9 : Cal := ⟨9, 0, 0, 0⟩
def c6 (i : Nat) : Cal := ⟨6, i + 1, 0, 100 * (i + 1)⟩
def wcal (i : Nat) : List Cal := [⟨5, i, i + 1, 0⟩, c9, c6 i]
def wr0 (i k : Nat) : Pr (List Ans) := (turnT 3 i (lockG (i + 1)) k).bind fun a => callsT 1 3 [c9, c6 i] [a]
def wr1 (i k w x : Nat) : Pr (List Ans) := (Pr.acc (.cas 3 0 w x) fun f => if f.done then .ret ⟨0, 0, 0⟩ else turnT 3 i (lockG (i + 1)) k).bind fun a => callsT 1 3 [c9, c6 i] [a]
def wr3 (i : Nat) : Pr (List Ans) := (commitT 3 (100 * (i + 1)) (i + 1)).bind fun a => .ret [⟨0, 0, 0⟩, ⟨0, 0, 0⟩, a]
def wr4 (i : Nat) (a : Ans) : Pr (List Ans) := .acc (.store 3 1 (100 * (i + 1))) fun _ => .acc (.store 3 0 (packN (i + 1) 0 false false)) fun _ => .ret [⟨0, 0, 0⟩, ⟨0, 0, 0⟩, a]
def wr5 (i : Nat) (a : Ans) : Pr (List Ans) := .acc (.store 3 0 (packN (i + 1) 0 false false)) fun _ => .ret [⟨0, 0, 0⟩, ⟨0, 0, 0⟩, a]

theorem wcal_calls (i : Nat) : callsT 1 3 (wcal i) [] = wr0 i 8 := rfl
theorem wr0_zero (i : Nat) : wr0 i 0 = .ret [⟨12, 0, 0⟩] := rfl
theorem wr0_step (i k : Nat) (t : T3) : (wr0 i (k + 1)).step3 t = (if chg t.w = true ∨ verN t.w ≠ i then .ret [⟨12, 0, 0⟩] else wr1 i k t.w (packN (verN t.w) (i + 1) true (wai t.w)), t) := by
  show (Pr.bind (if chg t.w = true ∨ verN t.w ≠ i then _ else _) _, t) = _
  split <;> rfl
theorem wr1_yes (i k x : Nat) (t : T3) : (wr1 i k t.w x).step3 t = (wr3 i, { t with w := x }) := by
  show (Pr.bind (if (req3 t (.cas 3 0 t.w x)).1.done then _ else _) _, (req3 t (.cas 3 0 t.w x)).2) = _
  have e : req3 t (.cas 3 0 t.w x) = (⟨3, 3, 0, x, true, .ok⟩, { t with w := x }) := by
    show (if t.w = t.w then _ else _) = _
    rw [if_pos rfl]; rfl
  rw [e]
  rfl
theorem wr1_no (i k w x : Nat) (t : T3) (h : t.w ≠ w) : (wr1 i k w x).step3 t = (wr0 i k, t) := by
  show (Pr.bind (if (req3 t (.cas 3 0 w x)).1.done then _ else _) _, (req3 t (.cas 3 0 w x)).2) = _
  have e : req3 t (.cas 3 0 w x) = (⟨3, 3, 0, x, false, .ok⟩, t) := by
    show (if t.w = w then _ else _) = _
    rw [if_neg h]
  rw [e]
  rfl
theorem wr3_step (i : Nat) (t : T3) (h : chg t.w = true) : ∃ a, (wr3 i).step3 t = (wr4 i a, t) := by
  refine ⟨⟨0, 0, if wai t.w then 1 else 0⟩, ?_⟩
  show (Pr.bind (if chg t.w then _ else _) _, t) = _
  rw [if_pos h]
  rfl
theorem wr4_step (i : Nat) (a : Ans) (t : T3) : (wr4 i a).step3 t = (wr5 i a, { t with v := 100 * (i + 1) }) := rfl
theorem wr5_step (i : Nat) (a : Ans) (t : T3) : (wr5 i a).step3 t = (.ret [⟨0, 0, 0⟩, ⟨0, 0, 0⟩, a], { t with w := packN (i + 1) 0 false false }) := rfl

/-! ### a reader -/
def c3 : Cal := ⟨3, 0, 0, 0⟩
def rdK (r : Nat) (A : List Ans) : Ans → Pr (List Ans) := fun a => callsT 1 3 (List.replicate r c3) (A ++ [a])
def rdB (r : Nat) (A : List Ans) : Pr (List Ans) := (readT 3).bind (rdK r A)
def rdL (r n w : Nat) (A : List Ans) : Pr (List Ans) := (readL 3 n w).bind (rdK r A)
def rd1 (r n w : Nat) (A : List Ans) : Pr (List Ans) := (Pr.acc (.load 3 1) fun e => .acc (.load 3 0) fun f => if f.word = w then .ret ⟨0, e.word, verN w⟩ else readL 3 n f.word).bind (rdK r A)
def rd2 (r n w e : Nat) (A : List Ans) : Pr (List Ans) := (Pr.acc (.load 3 0) fun f => if f.word = w then .ret ⟨0, e, verN w⟩ else readL 3 n f.word).bind (rdK r A)
theorem calls_read_succ (r : Nat) (A : List Ans) : callsT 1 3 (List.replicate (r + 1) c3) A = rdB r A := by
  rw [List.replicate_succ, callsT_go (fun hh => absurd hh.1 (by decide))]
  rfl
theorem rdB_step (r : Nat) (A : List Ans) (t : T3) : (rdB r A).step3 t = (rdL r 8 t.w A, t) := rfl
theorem rdL_zero (r w : Nat) (A : List Ans) : rdL r 0 w A = rdK r A ⟨12, 0, 0⟩ := rfl
theorem rdL_yes (r n w : Nat) (A : List Ans) (h : chg w = true) : rdL r n w A = rdK r A ⟨12, 0, 0⟩ := by
  cases n with
  | zero => rfl
  | succ n =>
    show Pr.bind (if chg w then _ else _) _ = _
    rw [if_pos h]
    rfl
theorem rdL_no (r n w : Nat) (A : List Ans) (h : chg w = false) : rdL r (n + 1) w A = rd1 r n w A := by
  show Pr.bind (if chg w then _ else _) _ = _
  rw [if_neg (by rw [h]; decide)]
  rfl
theorem rd1_step (r n w : Nat) (A : List Ans) (t : T3) : (rd1 r n w A).step3 t = (rd2 r n w t.v A, t) := rfl
theorem rd2_step (r n w e : Nat) (A : List Ans) (t : T3) : (rd2 r n w e A).step3 t = (if t.w = w then rdK r A ⟨0, e, verN w⟩ else rdL r n t.w A, t) := by
  show (Pr.bind (if t.w = w then _ else _) _, t) = _
  split <;> rfl

/-- What a reader has been told. -/
def RTold (l : List Ans) : Prop := ∀ a ∈ l, a = ⟨12, 0, 0⟩ ∨ ∃ v : Nat, a = ⟨0, val v, v⟩
structure RTo (o : Nat) (A : List Ans) : Prop where
  told : RTold A
  rise : (oks A).Pairwise (· ≤ ·)
  top : ∀ u ∈ oks A, 2 * u ≤ o
theorem RTo.le {o o' : Nat} {A : List Ans} (h : RTo o A) (ho : o ≤ o') : RTo o' A := ⟨h.told, h.rise, fun u hu => by have := h.top u hu; omega⟩
theorem RTo.no {o : Nat} {A : List Ans} (h : RTo o A) : RTo o (A ++ [⟨12, 0, 0⟩]) := by
  have e : oks (A ++ [⟨12, 0, 0⟩]) = oks A := by rw [oks_app]; simp [oks]
  refine ⟨fun a ha => ?_, by rw [e]; exact h.rise, by rw [e]; exact h.top⟩
  rcases List.mem_append.1 ha with ha | ha
  · exact h.told a ha
  · rw [List.mem_singleton.1 ha]; exact .inl rfl
theorem RTo.yes {o v : Nat} {A : List Ans} (h : RTo o A) (hv : 2 * v ≤ o) (hu : ∀ u ∈ oks A, u ≤ v) : RTo o (A ++ [⟨0, val v, (v : Int)⟩]) := by
  have e : oks (A ++ [⟨0, val v, (v : Int)⟩]) = oks A ++ [v] := by rw [oks_app]; rfl
  refine ⟨fun a ha => ?_, ?_, ?_⟩
  · rcases List.mem_append.1 ha with ha | ha
    · exact h.told a ha
    · rw [List.mem_singleton.1 ha]; exact .inr ⟨v, rfl⟩
  · rw [e, List.pairwise_append]
    exact ⟨h.rise, List.pairwise_singleton _ _, fun a ha b hb => by rw [List.mem_singleton.1 hb]; exact hu a ha⟩
  · rw [e]
    intro u hm
    rcases List.mem_append.1 hm with hm | hm
    · exact h.top u hm
    · rw [List.mem_singleton.1 hm]; exact hv

def RAt (o : Nat) (p : Pr (List Ans)) (A : List Ans) : Prop :=
  p = .ret A ∨ (∃ r, p = rdB r A) ∨ (∃ r n v, p = rd1 r n (wd (2 * v)) A ∧ 2 * v ≤ o ∧ ∀ u ∈ oks A, u ≤ v) ∨ ∃ r n v e, p = rd2 r n (wd (2 * v)) e A ∧ 2 * v ≤ o ∧ (∀ u ∈ oks A, u ≤ v) ∧ (2 * v = o → e = val v)
theorem RAt.up {o : Nat} {p : Pr (List Ans)} {A : List Ans} (h : RAt o p A) : RAt (o + 1) p A := by
  rcases h with h | h | ⟨r, n, v, h1, h2, h3⟩ | ⟨r, n, v, e, h1, h2, h3, h4⟩
  · exact .inl h
  · exact .inr (.inl h)
  · exact .inr (.inr (.inl ⟨r, n, v, h1, by omega, h3⟩))
  · exact .inr (.inr (.inr ⟨r, n, v, e, h1, by omega, h3, fun h => by omega⟩))
theorem rat_calls (o r : Nat) (A : List Ans) : RAt o (callsT 1 3 (List.replicate r c3) A) A := by
  cases r with
  | zero => exact .inl rfl
  | succ r => exact .inr (.inl ⟨r, calls_read_succ r A⟩)
theorem rat_L {o : Nat} (ho : o ≤ 8) (r n : Nat) {A : List Ans} (h : RTo o A) : ∃ A', RAt o (rdL r n (wd o) A) A' ∧ RTo o A' := by
  rcases Nat.mod_two_eq_zero_or_one o with e | e
  · cases n with
    | zero => exact ⟨_, rat_calls o r _, h.no⟩
    | succ n =>
      rw [rdL_no _ _ _ _ (wd_even ho e).2.1]
      exact ⟨A, .inr (.inr (.inl ⟨r, n, o / 2, by rw [show 2 * (o / 2) = o by omega], by omega, fun u hu => by have := h.top u hu; omega⟩)), h⟩
  · rw [rdL_yes _ _ _ _ (wd_odd ho e).2.1]
    exact ⟨_, rat_calls o r _, h.no⟩

/-- A reader's step. -/
theorem rat_step {o : Nat} (ho : o ≤ 8) {t : T3} (hw : t.w = wd o) (hv : o % 2 = 0 → t.v = val (o / 2)) {p : Pr (List Ans)} {A : List Ans} (h : RAt o p A) (hA : RTo o A) : (p.step3 t).2 = t ∧ ∃ A', RAt o (p.step3 t).1 A' ∧ RTo o A' := by
  rcases h with h | ⟨r, h⟩ | ⟨r, n, v, h, h2, h3⟩ | ⟨r, n, v, e, h, h2, h3, h4⟩
  · subst h; exact ⟨rfl, A, .inl rfl, hA⟩
  · subst h
    rw [rdB_step, hw]
    exact ⟨rfl, rat_L ho r 8 hA⟩
  · subst h
    rw [rd1_step]
    exact ⟨rfl, A, .inr (.inr (.inr ⟨r, n, v, t.v, rfl, h2, h3, fun h => by rw [hv (by omega), show o / 2 = v by omega]⟩)), hA⟩
  · subst h
    rw [rd2_step]
    refine ⟨rfl, ?_⟩
    by_cases he : t.w = wd (2 * v)
    · have e2 : o = 2 * v := wd_inj ho (by omega) (hw.symm.trans he)
      show ∃ A', RAt o (if t.w = wd (2 * v) then _ else _) A' ∧ _
      rw [if_pos he, h4 e2.symm, (wd_even (o := 2 * v) (by omega) (by omega)).1, show 2 * v / 2 = v by omega]
      exact ⟨_, rat_calls o r _, hA.yes h2 h3⟩
    · show ∃ A', RAt o (if t.w = wd (2 * v) then _ else _) A' ∧ _
      rw [if_neg he, hw]
      exact rat_L ho r n hA

/-! ### all of them -/
def WAt (o x i : Nat) (p : Pr (List Ans)) : Prop :=
  (o = 2 * i + 1 ∧ (p = wr3 i ∨ (∃ a, p = wr4 i a) ∨ ∃ a, p = wr5 i a ∧ x = val (i + 1))) ∨
  (o ≠ 2 * i + 1 ∧ ((∃ L, p = .ret L) ∨ (∃ k, p = wr0 i (k + 1)) ∨ ∃ k, p = wr1 i k (wd (2 * i)) (wd (2 * i + 1))))
theorem WAt.other {o o' x x' i : Nat} {p : Pr (List Ans)} (h : WAt o x i p) (h1 : o ≠ 2 * i + 1) (h2 : o' ≠ 2 * i + 1) : WAt o' x' i p := by
  rcases h with h | h
  · exact absurd h.1 h1
  · exact .inr ⟨h2, h.2⟩

structure WJ (W n o : Nat) (A : Nat → List Ans) (t : T3) (p : Nat → Pr (List Ans)) : Prop where
  top : o ≤ 2 * W
  w : t.w = wd o
  v : o % 2 = 0 → t.v = val (o / 2)
  ws : ∀ i, i < W → WAt o t.v i (p i)
  rs : ∀ j, W ≤ j → j < n → RAt o (p j) (A j) ∧ RTo o (A j)
def WholeJ (W n : Nat) (t : T3) (p : Nat → Pr (List Ans)) : Prop := ∃ o A, WJ W n o A t p

/-- A writer's step that leaves o. -/
theorem WJ.still {W n o : Nat} {A : Nat → List Ans} {t t' : T3} {p : Nat → Pr (List Ans)} {k : Nat} {p' : Pr (List Ans)} (h : WJ W n o A t p) (hk : k < W) (hw : t'.w = t.w) (hv : t'.v = t.v ∨ o = 2 * k + 1) (hp : WAt o t'.v k p') : WholeJ W n t' (setAt p k p') := by
  refine ⟨o, A, h.top, hw.trans h.w, fun e => ?_, fun i hi => ?_, fun j h1 h2 => ?_⟩
  · rcases hv with hv | hv
    · rw [hv]; exact h.v e
    · omega
  · by_cases he : i = k
    · subst he; rw [setAt_same]; exact hp
    · rw [setAt_ne _ _ he]
      rcases hv with hv | hv
      · rw [hv]; exact h.ws i hi
      · exact (h.ws i hi).other (by omega) (by omega)
  · rw [setAt_ne _ _ (by omega)]; exact h.rs j h1 h2
/-- .. that goes on. -/
theorem WJ.on {W n o : Nat} {A : Nat → List Ans} {t t' : T3} {p : Nat → Pr (List Ans)} {k : Nat} {p' : Pr (List Ans)} (h : WJ W n o A t p) (hk : k < W) (ho : o = 2 * k ∨ o = 2 * k + 1) (hw : t'.w = wd (o + 1)) (hv : (o + 1) % 2 = 0 → t'.v = val ((o + 1) / 2)) (hp : WAt (o + 1) t'.v k p') : WholeJ W n t' (setAt p k p') := by
  refine ⟨o + 1, A, by omega, hw, hv, fun i hi => ?_, fun j h1 h2 => ?_⟩
  · by_cases he : i = k
    · subst he; rw [setAt_same]; exact hp
    · rw [setAt_ne _ _ he]
      exact (h.ws i hi).other (by omega) (by omega)
  · rw [setAt_ne _ _ (by omega)]
    obtain ⟨a, b⟩ := h.rs j h1 h2
    exact ⟨a.up, b.le (by omega)⟩

theorem wholeJ_step {W n : Nat} (hW : W ≤ 3) (t : T3) (p : Nat → Pr (List Ans)) (k : Nat) (h : WholeJ W n t p) (hk : k < n) : WholeJ W n ((p k).step3 t).2 (setAt p k ((p k).step3 t).1) := by
  obtain ⟨o, A, h⟩ := h
  have ho : o ≤ 8 := by have := h.top; omega
  rcases Nat.lt_or_ge k W with hkW | hkW
  · rcases h.ws k hkW with ⟨e, hp | ⟨a, hp⟩ | ⟨a, hp, hx⟩⟩ | ⟨e, ⟨L, hp⟩ | ⟨m, hp⟩ | ⟨m, hp⟩⟩
    · obtain ⟨a, ha⟩ := wr3_step k t (by rw [h.w]; exact (wd_odd ho (by omega)).2.1)
      rw [hp, ha]
      exact h.still hkW rfl (.inl rfl) (.inl ⟨e, .inr (.inl ⟨a, rfl⟩)⟩)
    · rw [hp, wr4_step]
      exact h.still hkW rfl (.inr e) (.inl ⟨e, .inr (.inr ⟨a, rfl, by show 100 * (k + 1) = val (k + 1); unfold val; rw [if_neg (by omega)]⟩)⟩)
    · rw [hp, wr5_step]
      refine h.on hkW (.inr e) ?_ (fun _ => ?_) (.inr ⟨by omega, .inl ⟨_, rfl⟩⟩)
      · show packN (k + 1) 0 false false = _
        rw [wd_commit, e]
      · show t.v = _
        rw [hx, e, show (2 * k + 1 + 1) / 2 = k + 1 by omega]
    · rw [show (p k).step3 t = (p k, t) by rw [hp]; rfl, setAt_self]
      exact ⟨o, A, h⟩
    · rw [hp, wr0_step]
      by_cases ho2 : o = 2 * k
      · have hm := wd_even ho (by omega)
        have hc : ¬ (chg t.w = true ∨ verN t.w ≠ k) := by
          rw [h.w, hm.1, hm.2.1]
          intro hh
          rcases hh with hh | hh
          · cases hh
          · omega
        rw [if_neg hc, h.w, ho2, wd_lock (by omega)]
        exact h.still hkW rfl (.inl rfl) (.inr ⟨e, .inr (.inr ⟨m, rfl⟩)⟩)
      · have hc : chg t.w = true ∨ verN t.w ≠ k := by
          rw [h.w]
          rcases Nat.mod_two_eq_zero_or_one o with e1 | e1
          · right; rw [(wd_even ho e1).1]; omega
          · left; exact (wd_odd ho e1).2.1
        rw [if_pos hc]
        exact h.still hkW rfl (.inl rfl) (.inr ⟨e, .inl ⟨_, rfl⟩⟩)
    · by_cases ho2 : o = 2 * k
      · have e1 : t.w = wd (2 * k) := by rw [h.w, ho2]
        rw [hp, ← e1, wr1_yes]
        refine h.on hkW (.inl ho2) ?_ (fun hh => by omega) (.inl ⟨by omega, .inl rfl⟩)
        show wd (2 * k + 1) = _
        rw [ho2]
      · rw [hp, wr1_no _ _ _ _ _ (by rw [h.w]; exact fun hh => ho2 (wd_inj ho (by omega) hh))]
        cases m with
        | zero => rw [wr0_zero]; exact h.still hkW rfl (.inl rfl) (.inr ⟨e, .inl ⟨_, rfl⟩⟩)
        | succ m => exact h.still hkW rfl (.inl rfl) (.inr ⟨e, .inr (.inl ⟨m, rfl⟩)⟩)
  · obtain ⟨hr, hA⟩ := h.rs k hkW hk
    obtain ⟨e, A', h1, h2⟩ := rat_step ho h.w h.v hr hA
    rw [e]
    refine ⟨o, setAt A k A', h.top, h.w, h.v, fun i hi => ?_, fun j h3 h4 => ?_⟩
    · rw [setAt_ne _ _ (by omega)]; exact h.ws i hi
    · by_cases he : j = k
      · subst he; rw [setAt_same, setAt_same]; exact ⟨h1, h2⟩
      · rw [setAt_ne _ _ he, setAt_ne _ _ he]; exact h.rs j h3 h4

/-- The lists of calls. -/
def writeLs (W : Nat) : List (List Cal) := (List.range W).map wcal
def wholeLs (W R : Nat) : List (List Cal) := writeLs W ++ List.replicate R (List.replicate 3 c3)
theorem wholeLs_len (W R : Nat) : (wholeLs W R).length = W + R := by simp [wholeLs, writeLs]
theorem wholeLs_w {W R i : Nat} (h : i < W) : (wholeLs W R).getD i [] = wcal i := by
  simp [wholeLs, writeLs, List.getD, h, List.getElem?_append_left]
theorem wholeLs_r {W R i : Nat} (h : W ≤ i) (h2 : i < W + R) : (wholeLs W R).getD i [] = List.replicate 3 c3 := by
  have h3 : i - W < R := by omega
  simp [wholeLs, writeLs, List.getD, List.getElem?_append_right, h, h3]

/-- At the end. -/
theorem whole_end {W R : Nat} (hW : W ≤ 3) {m : Mm} (hm : view m = ⟨0, 0, 10⟩) (hinv : PInv (W + R) (S0of m (wholeLs W R))) {Sf : PS} (hS : ∀ I, Stays (W + R) I → I (S0of m (wholeLs W R)) → I Sf) {L : Nat → List Ans} (hL : ∀ i, i < W + R → Sf.p i = .ret (L i)) :
    ∀ j, W ≤ j → j < W + R → RTold (L j) ∧ (oks (L j)).Pairwise (· ≤ ·) ∧ ∀ u ∈ oks (L j), u ≤ 3 := by
  obtain ⟨_, o, A, h⟩ := hS _ (lift3 (WholeJ W (W + R)) fun t p k h hk => wholeJ_step hW t p k h hk) ⟨hinv, 0, fun _ => [], Nat.zero_le _, by show (view m).w = _; rw [hm]; rfl, fun _ => by show (view m).v = _; rw [hm]; rfl, fun i hi => .inr ⟨by omega, .inr (.inl ⟨7, by show callsT 1 3 ((wholeLs W R).getD i []) [] = _; rw [wholeLs_w hi, wcal_calls]⟩)⟩, fun j h1 h2 => ⟨by
      show RAt 0 (callsT 1 3 ((wholeLs W R).getD j []) []) []
      rw [wholeLs_r h1 h2]
      exact rat_calls 0 3 [], fun x hx => (by cases hx), List.Pairwise.nil, fun u hu => (by cases hu)⟩⟩
  intro j h1 h2
  obtain ⟨ha, hb⟩ := h.rs j h1 h2
  have e : L j = A j := by
    have hj := hL j h2
    rcases ha with ha | ⟨r, ha⟩ | ⟨r, n, v, ha, _⟩ | ⟨r, n, v, e, ha, _⟩
    · have := hj.symm.trans ha
      injection this
    · have := hj.symm.trans ha
      cases this
    · have := hj.symm.trans ha
      cases this
    · have := hj.symm.trans ha
      cases this
  rw [e]
  exact ⟨hb.told, hb.rise, fun u hu => by have := hb.top u hu; have := h.top; omega⟩

/-- The answer at k of a list. -/
theorem told_at {l : List Ans} (h : RTold l) (hr : (oks l).Pairwise (· ≤ ·)) {k : Nat} (hk : k < l.length) :
    (l.getD k ⟨0, 0, 0⟩ = ⟨12, 0, 0⟩ ∧ oks (l.take (k + 1)) = oks (l.take k)) ∨
    ∃ v : Nat, l.getD k ⟨0, 0, 0⟩ = ⟨0, val v, v⟩ ∧ oks (l.take (k + 1)) = oks (l.take k) ++ [v] ∧ v ∈ oks l ∧ ∀ x ∈ oks (l.take k), x ≤ v := by
  have e : l.take (k + 1) = l.take k ++ [l.getD k ⟨0, 0, 0⟩] := by
    rw [List.take_add_one]
    simp [List.getD, List.getElem?_eq_getElem hk]
  have hm : l.getD k ⟨0, 0, 0⟩ ∈ l := by simp [List.getD, List.getElem?_eq_getElem hk]
  have e3 : oks l = oks (l.take (k + 1)) ++ oks (l.drop (k + 1)) := by rw [← oks_app, List.take_append_drop]
  rcases h _ hm with h1 | ⟨v, h1⟩
  · refine .inl ⟨h1, ?_⟩
    rw [e, h1, oks_app]
    simp [oks]
  · have e2 : oks (l.take (k + 1)) = oks (l.take k) ++ [v] := by
      rw [e, h1, oks_app]
      simp [oks]
    refine .inr ⟨v, h1, e2, by rw [e3, e2]; simp, fun x hx => ?_⟩
    rw [e3, e2, List.append_assoc, List.pairwise_append] at hr
    exact hr.2.2 x hx v (by simp)
end Go.Proofs.YtenhmficiegpiaaGreatDoor
