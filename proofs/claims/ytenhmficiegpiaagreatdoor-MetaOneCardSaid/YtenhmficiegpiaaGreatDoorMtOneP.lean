/-
  meta, plainly: of several threads that lock one cell with one version just one does.
-/
import Derived.Test.YtenhmficiegpiaaGreatDoorMtLists
namespace Go.Proofs.YtenhmficiegpiaaGreatDoor

/-- The word of the cell that thread i has locked. -/
def lw (i : Nat) : Nat := packN 0 (i + 1) true false
def fin1 : Ans → Pr (List Ans) := fun a => .ret [a]
/-- A thread ahead of its CAS, that expects 0. -/
def casP (i k : Nat) : Pr (List Ans) := (Pr.acc (.cas 3 0 0 (lw i)) fun f => if f.done then .ret ⟨0, 0, 0⟩ else turnT 3 0 (lockG (i + 1)) k).bind fin1
def ldP (i k : Nat) : Pr (List Ans) := (turnT 3 0 (lockG (i + 1)) (k + 1)).bind fin1

theorem calls_one (i : Nat) : callsT 1 3 [⟨5, 0, i + 1, 0⟩] [] = ldP i 7 := rfl

theorem lw_meta (i : Nat) (hi : i < 4) : chg (lw i) = true ∧ lw i ≠ 0 ∧ verN (lw i) = 0 := by
  have := meta_n (v := 0) (o := i + 1) (c := true) (b := false) (by omega) (by omega)
  refine ⟨this.2.2.1, ?_, this.1⟩
  unfold lw packN
  omega
theorem zero_meta : chg 0 = false ∧ verN 0 = 0 := ⟨rfl, rfl⟩

theorem ld_step (i k : Nat) (t : T3) : (ldP i k).step3 t = (if chg t.w = true ∨ verN t.w ≠ 0 then .ret [⟨12, 0, 0⟩] else (Pr.acc (.cas 3 0 t.w (packN (verN t.w) (i + 1) true (wai t.w))) fun f => if f.done then .ret ⟨0, 0, 0⟩ else turnT 3 0 (lockG (i + 1)) k).bind fin1, t) := by
  show (Pr.bind (if chg t.w = true ∨ verN t.w ≠ 0 then _ else _) fin1, t) = _
  split
  · rfl
  · rfl
theorem cas_step (i k : Nat) (t : T3) : (casP i k).step3 t = if t.w = 0 then (.ret [⟨0, 0, 0⟩], { t with w := lw i }) else ((turnT 3 0 (lockG (i + 1)) k).bind fin1, t) := by
  show (Pr.bind (if (req3 t (.cas 3 0 0 (lw i))).1.done then _ else _) fin1, (req3 t (.cas 3 0 0 (lw i))).2) = _
  by_cases h : t.w = 0
  · rw [if_pos h]
    have e : req3 t (.cas 3 0 0 (lw i)) = (⟨3, 3, 0, lw i, true, .ok⟩, { t with w := lw i }) := by
      show (if t.w = 0 then _ else _) = _
      rw [if_pos h]; rfl
    rw [e]; rfl
  · rw [if_neg h]
    have e : req3 t (.cas 3 0 0 (lw i)) = (⟨3, 3, 0, lw i, false, .ok⟩, t) := by
      show (if t.w = 0 then _ else _) = _
      rw [if_neg h]
    rw [e]; rfl
theorem turn_zero (i : Nat) : (turnT 3 0 (lockG (i + 1)) 0).bind fin1 = .ret [⟨12, 0, 0⟩] := rfl
theorem turn_succ (i k : Nat) : (turnT 3 0 (lockG (i + 1)) (k + 1)).bind fin1 = ldP i k := rfl

/-- A thread that has not locked, and may yet. -/
def Open (i : Nat) (p : Pr (List Ans)) : Prop := (∃ k, p = ldP i k) ∨ ∃ k, p = casP i k
/-- The invariant: nobody has locked, or thread j. -/
def OneJ (n : Nat) (t : T3) (p : Nat → Pr (List Ans)) : Prop :=
  (t.w = 0 ∧ ∀ i, i < n → Open i (p i)) ∨ ∃ j, j < n ∧ t.w = lw j ∧ p j = .ret [⟨0, 0, 0⟩] ∧ ∀ i, i < n → i ≠ j → Open i (p i) ∨ p i = .ret [⟨12, 0, 0⟩]

theorem oneJ_step {n : Nat} (hn : n ≤ 4) (t : T3) (p : Nat → Pr (List Ans)) (k : Nat) (h : OneJ n t p) (hk : k < n) : OneJ n ((p k).step3 t).2 (setAt p k ((p k).step3 t).1) := by
  rcases h with ⟨hw, ho⟩ | ⟨j, hj, hw, hp, ho⟩
  · rcases ho k hk with ⟨c, e⟩ | ⟨c, e⟩
    · have e2 : (p k).step3 t = (casP k c, t) := by
        rw [e, ld_step, hw, if_neg (by rw [zero_meta.1, zero_meta.2]; simp)]
        rfl
      rw [e2]
      refine .inl ⟨hw, fun i hi => ?_⟩
      by_cases he : i = k
      · subst he; rw [setAt_same]; exact .inr ⟨c, rfl⟩
      · rw [setAt_ne _ _ he]; exact ho i hi
    · have e2 : (p k).step3 t = (.ret [⟨0, 0, 0⟩], { t with w := lw k }) := by rw [e, cas_step, if_pos hw]
      rw [e2]
      refine .inr ⟨k, hk, rfl, setAt_same _ _ _, fun i hi he => ?_⟩
      rw [setAt_ne _ _ he]
      exact .inl (ho i hi)
  · obtain ⟨m1, m2, m3⟩ := lw_meta j (by omega)
    by_cases hkj : k = j
    · subst hkj
      have e2 : (p k).step3 t = (.ret [⟨0, 0, 0⟩], t) := by rw [hp]; rfl
      rw [e2]
      refine .inr ⟨k, hk, hw, setAt_same _ _ _, fun i hi he => ?_⟩
      rw [setAt_ne _ _ he]
      exact ho i hi he
    · have key : ((p k).step3 t).2 = t ∧ (Open k ((p k).step3 t).1 ∨ ((p k).step3 t).1 = .ret [⟨12, 0, 0⟩]) := by
        rcases ho k hk hkj with (⟨c, e⟩ | ⟨c, e⟩) | e
        · rw [e, ld_step, hw, if_pos (.inl m1)]
          exact ⟨rfl, .inr rfl⟩
        · rw [e, cas_step, if_neg (by rw [hw]; exact m2)]
          refine ⟨rfl, ?_⟩
          cases c with
          | zero => exact .inr (turn_zero k)
          | succ c => exact .inl (.inl ⟨c, turn_succ k c⟩)
        · rw [e]; exact ⟨rfl, .inr rfl⟩
      rw [key.1]
      refine .inr ⟨j, hj, hw, by rw [setAt_ne _ _ (fun h => hkj h.symm)]; exact hp, fun i hi he => ?_⟩
      by_cases hik : i = k
      · subst hik; rw [setAt_same]; exact key.2
      · rw [setAt_ne _ _ hik]; exact ho i hi he

theorem open_not_ret {i : Nat} {p : Pr (List Ans)} (h : Open i p) (L : List Ans) : p ≠ .ret L := by
  rcases h with ⟨k, rfl⟩ | ⟨k, rfl⟩
  · intro e; cases e
  · intro e; cases e

/-- The lists of calls. -/
def oneLs (n : Nat) : List (List Cal) := (List.range n).map fun i => [⟨5, 0, i + 1, 0⟩]
theorem oneLs_len (n : Nat) : (oneLs n).length = n := by simp [oneLs]
theorem oneLs_at {n i : Nat} (h : i < n) : (oneLs n).getD i [] = [⟨5, 0, i + 1, 0⟩] := by simp [oneLs, h]

/-- At the end: one has locked, the others not. -/
theorem one_end {n : Nat} (hn1 : 1 ≤ n) (hn : n ≤ 4) {m : Mm} (hm : view m = ⟨0, 0, 10⟩) (hinv : PInv n (S0of m (oneLs n))) {Sf : PS} (hS : ∀ I, Stays n I → I (S0of m (oneLs n)) → I Sf) {L : Nat → List Ans} (hL : ∀ i, i < n → Sf.p i = .ret (L i)) :
    PInv n Sf ∧ ∃ j, j < n ∧ (view Sf.m).w = lw j ∧ L j = [⟨0, 0, 0⟩] ∧ ∀ i, i < n → i ≠ j → L i = [⟨12, 0, 0⟩] := by
  obtain ⟨h1, h2⟩ := hS _ (lift3 (OneJ n) fun t p k h hk => oneJ_step hn t p k h hk) ⟨hinv, .inl ⟨by show (view m).w = 0; rw [hm], fun i hi => .inl ⟨7, by show callsT 1 3 ((oneLs n).getD i []) [] = _; rw [oneLs_at hi, calls_one]⟩⟩⟩
  refine ⟨h1, ?_⟩
  rcases h2 with ⟨_, ho⟩ | ⟨j, hj, hw, hp, ho⟩
  · exact absurd (hL 0 (by omega)) (open_not_ret (ho 0 (by omega)) _)
  · have inj : ∀ {a b : List Ans}, (Pr.ret a : Pr (List Ans)) = .ret b → a = b := fun h => by injection h
    refine ⟨j, hj, hw, inj ((hL j hj).symm.trans hp), fun i hi he => ?_⟩
    rcases ho i hi he with h | h
    · exact absurd (hL i hi) (open_not_ret h _)
    · exact inj ((hL i hi).symm.trans h)

theorem lw_pack (j : Nat) : lw j = packN 0 (j + 1) true false := rfl
/-- Behind it, alone. -/
theorem one_after {j k v : Nat} (hj : j < 4) : ∃ t, (callsT 1 3 [⟨7, 0, 0, 0⟩, ⟨5, 0, 0, 0⟩, ⟨6, 4, 0, 1⟩, ⟨5, 0, 0, 0⟩, ⟨7, 0, 0, 0⟩] []).solo ⟨k, lw j, v⟩ = ([⟨0, 0, 0⟩, ⟨0, 0, 0⟩, ⟨0, 0, 0⟩, ⟨12, 0, 0⟩, ⟨2, 0, 0⟩], t) := by
  have hj' : j + 1 ≤ 255 := by omega
  rw [lw_pack]
  simp [solo_calls, solo_nil, callT, solo_lock, solo_commit, solo_release, solo_release_no, solo_lock_no, hj']
end Go.Proofs.YtenhmficiegpiaaGreatDoor
