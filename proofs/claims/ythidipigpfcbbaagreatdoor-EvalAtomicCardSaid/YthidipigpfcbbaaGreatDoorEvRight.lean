/-
  What transactions do, plainly: with steps that are bounded (evF), without a bound (evU), how the two agree; what follows of atomic, or, loops. Of no program.
  A state that is laid anew, pair by pair, is the state (concordlaw11.Both, plainly). Of no program.
  A transaction that is right, statement by statement; what is done of it, item by item; how many numbers it is told. Of no program.
-/
import Derived.Test.YthidipigpfcbbaaGreatDoorPgPlain
import Derived.Test.YthidipigpfcbbaaGreatDoorBkArgs

namespace Go.Proofs.YthidipigpfcbbaaGreatDoor
open Go.RowKit

/-- The collections, the registers, what was told. -/
structure RS where
  A : M8
  R : List Int
  T : List Int
def argv (R : List Int) (r n : Int) : Int := if r = 0 then n else IntKind.i64.wrap (R.getD r.toNat 0 + n)
def RS.tell (r : RS) (g n : Int) : RS := { r with R := r.R.set g.toNat n, T := r.T ++ [n] }
def RS.put_ (r : RS) (g n : Int) : RS := { r with R := r.R.set g.toNat n }
/-- A statement that asks, or turns, a collection: the number says whether it went well (0) or not (5). -/
def ask (s : St7) (r : RS) : RS × Nat :=
  let a := argv r.R s.ar s.an % 64
  let b := argv r.R s.br s.bn % 64
  if s.k = 1 then (r.tell s.r (if (mGet r.A s.c a).2.1 = true then (mGet r.A s.c a).1 else -1), 0)
  else if s.k = 4 then (r.tell s.r (if (mGet r.A s.c a).2.1 = true then 1 else 0), 0)
  else if s.k = 2 then (if (mPut r.A s.c a (argv r.R s.br s.bn % 1000)).2 = 0 then ({ r with A := (mPut r.A s.c a (argv r.R s.br s.bn % 1000)).1 }, 0) else (r, 5))
  else if s.k = 3 then ({ r with A := (mDel r.A s.c a).1 }, 0)
  else if s.k = 5 then (r.tell s.r ((r.A.col s.c).length : Nat), 0)
  else if s.k = 6 then (r.tell s.r (if (mCeil r.A s.c a).2.1 = true then (mCeil r.A s.c a).1 else -1), 0)
  else if s.k = 7 then (r.tell s.r ((mRange r.A s.c a b).1 : Nat), 0)
  else if s.k = 8 then ({ r with T := r.T ++ ((r.A.col s.c).length : Int) :: (r.A.col s.c).flatMap fun p => [p.1, p.2] }, 0)
  else (r, 0)
/-- A statement without blocks: its end is 0 (on), 2 (abort), 3 (retry), 5 (a put that is not done). -/
def plainS (s : St7) (r : RS) : RS × Nat :=
  if s.k = 9 then (r.put_ s.r (argv r.R s.ar s.an % 1000), 0)
  else if s.k = 10 then (r.put_ s.r (IntKind.i64.wrap (argv r.R s.ar s.an + argv r.R s.br s.bn) % 1000), 0)
  else if s.k = 15 then (r, 3)
  else if s.k = 16 then (r, 2)
  else ask s r
def isLess (s : St7) (r : RS) : Bool := decide (argv r.R s.ar s.an % 1000 < argv r.R s.br s.bn % 1000)

/-! ### without a bound: the state, the end, how many statements were begun -/
def timesU (f : RS → RS × Nat × Nat) : Nat → RS → RS × Nat × Nat
  | 0, r => (r, 0, 0)
  | n + 1, r => if (f r).2.1 = 0 then ((timesU f n (f r).1).1, (timesU f n (f r).1).2.1, (f r).2.2 + (timesU f n (f r).1).2.2) else f r
/-- A statement, whose blocks do this. -/
def stU (s : St7) (b e : RS → RS × Nat × Nat) (r : RS) : RS × Nat × Nat :=
  if s.k = 11 then (if isLess s r = true then b r else e r)
  else if s.k = 12 then timesU b s.an.toNat r
  else if s.k = 13 then (if (b r).2.1 = 2 then ({ (b r).1 with A := r.A }, 0, (b r).2.2) else b r)
  else if s.k = 14 then (if (b r).2.1 = 3 then ((e r).1, (e r).2.1, (b r).2.2 + (e r).2.2) else b r)
  else ((plainS s r).1, (plainS s r).2, 0)
def evU : Fo → RS → RS × Nat × Nat
  | .nil, r => (r, 0, 0)
  | .cons s B E F, r =>
    if (stU s (evU B) (evU E) r).2.1 = 0 then ((evU F (stU s (evU B) (evU E) r).1).1, (evU F (stU s (evU B) (evU E) r).1).2.1, 1 + (stU s (evU B) (evU E) r).2.2 + (evU F (stU s (evU B) (evU E) r).1).2.2)
    else ((stU s (evU B) (evU E) r).1, (stU s (evU B) (evU E) r).2.1, 1 + (stU s (evU B) (evU E) r).2.2)

/-! ### with a bound: n statements have begun -/
def timesF (f : RS → Nat → RS × Nat × Nat) : Nat → RS → Nat → RS × Nat × Nat
  | 0, r, n => (r, 0, n)
  | m + 1, r, n => if (f r n).2.1 = 0 then timesF f m (f r n).1 (f r n).2.2 else f r n
def stF (s : St7) (b e : RS → Nat → RS × Nat × Nat) (r : RS) (n : Nat) : RS × Nat × Nat :=
  if s.k = 11 then (if isLess s r = true then b r n else e r n)
  else if s.k = 12 then timesF b s.an.toNat r n
  else if s.k = 13 then (if (b r n).2.1 = 2 then ({ (b r n).1 with A := r.A }, 0, (b r n).2.2) else b r n)
  else if s.k = 14 then (if (b r n).2.1 = 3 then e r (b r n).2.2 else b r n)
  else ((plainS s r).1, (plainS s r).2, n)
def evF : Fo → RS → Nat → RS × Nat × Nat
  | .nil, r, n => (r, 0, n)
  | .cons s B E F, r, n =>
    if n = 1000 then (r, 4, n)
    else if (stF s (evF B) (evF E) r (n + 1)).2.1 = 0 then evF F (stF s (evF B) (evF E) r (n + 1)).1 (stF s (evF B) (evF E) r (n + 1)).2.2
    else stF s (evF B) (evF E) r (n + 1)

/-! ### how they agree -/
/-- f with the bound is g without one, as long as the bound is kept; else it ends with 4. -/
def Agree (f : RS → Nat → RS × Nat × Nat) (g : RS → RS × Nat × Nat) : Prop :=
  ∀ r n, n ≤ 1000 → (n + (g r).2.2 ≤ 1000 → f r n = ((g r).1, (g r).2.1, n + (g r).2.2)) ∧ (1000 < n + (g r).2.2 → (f r n).2.1 = 4)
def NoCap (g : RS → RS × Nat × Nat) : Prop := ∀ r, (g r).2.1 ≠ 4
theorem ask_end (s : St7) (r : RS) : (ask s r).2 = 0 ∨ (ask s r).2 = 5 := by
  unfold ask
  simp only
  repeat' split
  all_goals first | exact .inl rfl | exact .inr rfl
theorem plain_end (s : St7) (r : RS) : (plainS s r).2 ≠ 4 ∧ (plainS s r).2 ≠ 1 := by
  unfold plainS
  repeat' split
  all_goals first | (constructor <;> simp; done) | (rcases ask_end s r with h | h <;> simp [h])
theorem times_agree {f : RS → Nat → RS × Nat × Nat} {g : RS → RS × Nat × Nat} (h : Agree f g) : ∀ m, Agree (timesF f m) (timesU g m)
  | 0, r, n, hn => ⟨fun _ => rfl, fun h => by simp [timesU] at h; omega⟩
  | m + 1, r, n, hn => by
    obtain ⟨h1, h2⟩ := h r n hn
    simp only [timesF, timesU]
    by_cases e0 : (g r).2.1 = 0
    · rw [if_pos e0]
      simp only
      by_cases hb : n + (g r).2.2 ≤ 1000
      · have h3 := h1 hb
        rw [h3]
        simp only [e0, if_true]
        obtain ⟨i1, i2⟩ := times_agree h m (g r).1 (n + (g r).2.2) hb
        exact ⟨fun q => by rw [i1 (by omega), Nat.add_assoc], fun q => i2 (by omega)⟩
      · have h3 := h2 (by omega)
        rw [h3, if_neg (by decide)]
        exact ⟨fun q => absurd q (by omega), fun _ => h3⟩
    · rw [if_neg e0]
      by_cases hb : n + (g r).2.2 ≤ 1000
      · have h3 := h1 hb
        rw [h3]
        simp only
        rw [if_neg e0]
        exact ⟨fun _ => rfl, fun q => absurd hb (by omega)⟩
      · have h3 := h2 (by omega)
        rw [h3, if_neg (by decide)]
        exact ⟨fun q => absurd q (by omega), fun _ => h3⟩
theorem st_agree {s : St7} {b e : RS → Nat → RS × Nat × Nat} {b' e' : RS → RS × Nat × Nat} (hb : Agree b b') (he : Agree e e') : Agree (stF s b e) (stU s b' e') := fun r n hn => by
  unfold stF stU
  by_cases k1 : s.k = 11
  · rw [if_pos k1, if_pos k1]
    split
    · exact hb r n hn
    · exact he r n hn
  · rw [if_neg k1, if_neg k1]
    by_cases k2 : s.k = 12
    · rw [if_pos k2, if_pos k2]
      exact times_agree hb _ r n hn
    · rw [if_neg k2, if_neg k2]
      obtain ⟨h1, h2⟩ := hb r n hn
      by_cases k3 : s.k = 13
      · rw [if_pos k3, if_pos k3]
        by_cases q : n + (b' r).2.2 ≤ 1000
        · rw [h1 q]
          simp only
          split
          · exact ⟨fun _ => rfl, fun q' => absurd q (by simp only at q'; omega)⟩
          · exact ⟨fun _ => rfl, fun q' => absurd q (by omega)⟩
        · have h3 := h2 (by omega)
          rw [if_neg (show ¬ (b r n).2.1 = 2 by rw [h3]; decide)]
          split
          · exact ⟨fun q' => absurd q' (by simp only; omega), fun _ => h3⟩
          · exact ⟨fun q' => absurd q' (by omega), fun _ => h3⟩
      · rw [if_neg k3, if_neg k3]
        by_cases k4 : s.k = 14
        · rw [if_pos k4, if_pos k4]
          by_cases q : n + (b' r).2.2 ≤ 1000
          · rw [h1 q]
            simp only
            split
            · obtain ⟨i1, i2⟩ := he r (n + (b' r).2.2) q
              simp only
              exact ⟨fun q' => by rw [i1 (by omega), Nat.add_assoc], fun q' => i2 (by omega)⟩
            · exact ⟨fun _ => rfl, fun q' => absurd q (by omega)⟩
          · have h3 := h2 (by omega)
            rw [if_neg (show ¬ (b r n).2.1 = 3 by rw [h3]; decide)]
            split
            · exact ⟨fun q' => absurd q' (by simp only; omega), fun _ => h3⟩
            · exact ⟨fun q' => absurd q' (by omega), fun _ => h3⟩
        · rw [if_neg k4, if_neg k4]
          exact ⟨fun _ => rfl, fun q' => absurd q' (by simp only; omega)⟩
theorem ev_agree : ∀ F : Fo, Agree (evF F) (evU F)
  | .nil => fun r n hn => ⟨fun _ => rfl, fun q => by simp [evU] at q; omega⟩
  | .cons s B E F => fun r n hn => by
    have hS : Agree (stF s (evF B) (evF E)) (stU s (evU B) (evU E)) := st_agree (ev_agree B) (ev_agree E)
    simp only [evF, evU]
    generalize stF s (evF B) (evF E) = sf at *
    generalize stU s (evU B) (evU E) = su at *
    by_cases h0 : n = 1000
    · rw [if_pos h0]
      split
      · exact ⟨fun q => absurd q (by simp only; omega), fun _ => rfl⟩
      · exact ⟨fun q => absurd q (by simp only; omega), fun _ => rfl⟩
    · rw [if_neg h0]
      obtain ⟨h1, h2⟩ := hS r (n + 1) (by omega)
      by_cases q : n + 1 + (su r).2.2 ≤ 1000
      · rw [h1 q]
        simp only
        split
        · obtain ⟨i1, i2⟩ := ev_agree F (su r).1 (n + 1 + (su r).2.2) q
          simp only
          exact ⟨fun q' => by rw [i1 (by omega)]; simp only [Nat.add_assoc], fun q' => i2 (by omega)⟩
        · exact ⟨fun _ => by simp only [Nat.add_assoc], fun q' => absurd q (by simp only at q'; omega)⟩
      · have h3 := h2 (by omega)
        rw [if_neg (show ¬ (sf r (n + 1)).2.1 = 0 by rw [h3]; decide)]
        split
        · exact ⟨fun q' => absurd q' (by simp only; omega), fun _ => h3⟩
        · exact ⟨fun q' => absurd q' (by simp only; omega), fun _ => h3⟩
theorem times_end {g : RS → RS × Nat × Nat} (h : NoCap g) : ∀ m, NoCap (timesU g m)
  | 0, r => by simp [timesU]
  | m + 1, r => by
    simp only [timesU]
    split
    · exact times_end h m _
    · exact h r
theorem ev_end : ∀ F : Fo, NoCap (evU F)
  | .nil => fun r => by simp [evU]
  | .cons s B E F => fun r => by
    have hS : NoCap (stU s (evU B) (evU E)) := fun r => by
      unfold stU
      split
      · split
        · exact ev_end B r
        · exact ev_end E r
      · split
        · exact times_end (ev_end B) _ r
        · split
          · split
            · simp
            · exact ev_end B r
          · split
            · split
              · exact ev_end E r
              · exact ev_end B r
            · exact (plain_end s r).1
    simp only [evU]
    split
    · exact ev_end F _
    · exact hS r
/-- What did not need all steps is what is done without a bound. -/
theorem ev_free {F : Fo} {r : RS} (h : (evF F r 0).2.1 ≠ 4) : evF F r 0 = evU F r := by
  obtain ⟨h1, h2⟩ := ev_agree F r 0 (by omega)
  by_cases q : 0 + (evU F r).2.2 ≤ 1000
  · rw [h1 q, Nat.zero_add]
  · exact absurd (h2 (by omega)) h

/-! ### what follows -/
theorem ev_app : ∀ (F G : Fo) (r : RS), (evU (F.app G) r).1 = (if (evU F r).2.1 = 0 then (evU G (evU F r).1).1 else (evU F r).1) ∧ (evU (F.app G) r).2.1 = (if (evU F r).2.1 = 0 then (evU G (evU F r).1).2.1 else (evU F r).2.1)
  | .nil, G, r => by simp [Fo.app, evU]
  | .cons s B E F, G, r => by
    simp only [Fo.app, evU]
    by_cases h : (stU s (evU B) (evU E) r).2.1 = 0
    · simp only [if_pos h]
      exact ev_app F G _
    · simp only [if_neg h]
      exact ⟨trivial, trivial⟩
theorem ev_one (s : St7) (B E : Fo) (r : RS) : (evU (.cons s B E .nil) r).1 = (stU s (evU B) (evU E) r).1 ∧ (evU (.cons s B E .nil) r).2.1 = (stU s (evU B) (evU E) r).2.1 := by
  simp only [evU]
  split
  · rename_i h
    exact ⟨rfl, h.symm⟩
  · exact ⟨rfl, rfl⟩
theorem atomic_law (F : Fo) (r : RS) (s : St7) (hs : s.k = 13) :
    (evU (.cons s F .nil .nil) r).1 = (if (evU F r).2.1 = 2 then { (evU F r).1 with A := r.A } else (evU F r).1) ∧
    (evU (.cons s F .nil .nil) r).2.1 = (if (evU F r).2.1 = 2 then 0 else (evU F r).2.1) := by
  obtain ⟨h1, h2⟩ := ev_one s F .nil r
  rw [h1, h2]
  unfold stU
  rw [hs, if_neg (by decide), if_neg (by decide), if_pos rfl]
  split <;> exact ⟨rfl, rfl⟩
theorem or_law (F G : Fo) (r : RS) (s : St7) (hs : s.k = 14) :
    (evU (.cons s F G .nil) r).1 = (if (evU F r).2.1 = 3 then (evU G r).1 else (evU F r).1) ∧
    (evU (.cons s F G .nil) r).2.1 = (if (evU F r).2.1 = 3 then (evU G r).2.1 else (evU F r).2.1) := by
  obtain ⟨h1, h2⟩ := ev_one s F G r
  rw [h1, h2]
  unfold stU
  rw [hs, if_neg (by decide), if_neg (by decide), if_neg (by decide), if_pos rfl]
  split <;> exact ⟨rfl, rfl⟩
/-- A retry behind it. -/
theorem retry_law (F : Fo) (r : RS) (s : St7) (hs : s.k = 15) :
    (evU (F.app (.cons s .nil .nil .nil)) r).2.1 = (if (evU F r).2.1 = 0 then 3 else (evU F r).2.1) := by
  rw [(ev_app F _ r).2]
  split
  · rw [(ev_one s .nil .nil _).2]
    unfold stU plainS
    rw [hs]
    rfl
  · rfl
/-- So often, one behind the other. -/
def Fo.many (F : Fo) : Nat → Fo
  | 0 => .nil
  | n + 1 => F.app (F.many n)
theorem many_law (F : Fo) : ∀ (n : Nat) (r : RS), (timesU (evU F) n r).1 = (evU (F.many n) r).1 ∧ (timesU (evU F) n r).2.1 = (evU (F.many n) r).2.1
  | 0, r => ⟨rfl, rfl⟩
  | n + 1, r => by
    simp only [timesU, Fo.many]
    obtain ⟨h1, h2⟩ := ev_app F (F.many n) r
    rw [h1, h2]
    by_cases h : (evU F r).2.1 = 0
    · rw [if_pos h, if_pos h, if_pos h]
      exact many_law F n _
    · rw [if_neg h, if_neg h, if_neg h]
      exact ⟨rfl, rfl⟩
theorem loop_law (F : Fo) (r : RS) (s : St7) (hs : s.k = 12) :
    (evU (.cons s F .nil .nil) r).1 = (evU (F.many s.an.toNat) r).1 ∧ (evU (.cons s F .nil .nil) r).2.1 = (evU (F.many s.an.toNat) r).2.1 := by
  obtain ⟨h1, h2⟩ := ev_one s F .nil r
  rw [h1, h2]
  unfold stU
  rw [hs, if_neg (by decide), if_pos rfl]
  exact many_law F _ r
/-- A retry at a Body's beginning. -/
theorem retry_first (F G : Fo) (r : RS) (s t : St7) (hs : s.k = 14) (ht : t.k = 15) :
    (evU (.cons s (.cons t .nil .nil F) G .nil) r).1 = (evU G r).1 ∧ (evU (.cons s (.cons t .nil .nil F) G .nil) r).2.1 = (evU G r).2.1 := by
  have e : (evU (.cons t .nil .nil F) r).2.1 = 3 := by
    have q : (stU t (evU .nil) (evU .nil) r).2.1 = 3 := by
      unfold stU plainS
      rw [ht]
      rfl
    unfold evU
    rw [if_neg (show ¬ (stU t (evU .nil) (evU .nil) r).2.1 = 0 by rw [q]; decide)]
    exact q
  obtain ⟨h1, h2⟩ := or_law (.cons t .nil .nil F) G r s hs
  rw [h1, h2, if_pos e, if_pos e]
  exact ⟨rfl, rfl⟩
end Go.Proofs.YthidipigpfcbbaaGreatDoor

namespace Go.Proofs.YthidipigpfcbbaaGreatDoor

/-- A set's values are 1. -/
def Ones (A : M8) : Prop := ∀ c : Int, A.kind c = 2 → ∀ p ∈ A.col c, p.2 = 1
theorem made_ones (K : List Int) : Ones (M8.made K) := fun c _ p hp => by
  unfold M8.col M8.made at hp
  rw [List.getD_eq_getElem?_getD, List.getElem?_replicate] at hp
  split at hp <;> cases hp
theorem col_setC {A : M8} {c : Int} (h : A.there c) (W : Tl) (d : Int) (hd : 0 ≤ d) : (A.setC c W).col d = if d = c then W else A.col d := by
  unfold M8.col M8.setC
  obtain ⟨h1, h2⟩ := h
  simp only [List.getD_eq_getElem?_getD, List.getElem?_set]
  by_cases e : d = c
  · subst e
    rw [if_pos rfl, if_pos rfl, if_pos (by omega)]
    rfl
  · rw [if_neg (by omega), if_neg e]
theorem Ones.setC {A : M8} (h : Ones A) {c : Int} (hc : A.there c) {W : Tl} (hW : A.kind c = 2 → ∀ p ∈ W, p.2 = 1) : Ones (A.setC c W) := fun d hd p hp => by
  have hk : (A.setC c W).kind d = A.kind d := rfl
  rw [hk] at hd
  by_cases h0 : 0 ≤ d
  · rw [col_setC hc W d h0] at hp
    by_cases e : d = c
    · subst e
      rw [if_pos rfl] at hp
      exact hW hd p hp
    · rw [if_neg e] at hp
      exact h d hd p hp
  · have e : d.toNat = (0 : Int).toNat := by omega
    have hd' : A.kind 0 = 2 := by unfold M8.kind at hd ⊢; rw [e] at hd; exact hd
    have hp' : p ∈ (A.setC c W).col 0 := by unfold M8.col at hp ⊢; rw [e] at hp; exact hp
    rw [col_setC hc W 0 (Int.le_refl _)] at hp'
    by_cases e2 : (0 : Int) = c
    · subst e2
      rw [if_pos rfl] at hp'
      exact hW hd' p hp'
    · rw [if_neg e2] at hp'
      exact h 0 hd' p hp'
theorem mPut_ones {A : M8} (h : Ones A) (c k v : Int) : Ones (mPut A c k v).1 := by
  unfold mPut
  split
  · rename_i ht
    split
    · exact h
    · refine h.setC ht fun hk p hp => ?_
      unfold put low high at hp
      rcases List.mem_append.1 hp with g | g
      · exact h c hk p (List.mem_filter.1 g).1
      · rcases List.mem_cons.1 g with g | g
        · rw [g]; unfold mVal; rw [if_pos hk]
        · exact h c hk p (List.mem_filter.1 g).1
  · exact h
theorem mDel_ones {A : M8} (h : Ones A) (c k : Int) : Ones (mDel A c k).1 := by
  unfold mDel
  split
  · rename_i ht
    exact h.setC ht fun hk p hp => h c hk p (List.mem_filter.1 hp).1
  · exact h

/-- What is laid when i pairs of collection c are. -/
def M8.part (A : M8) (c i : Nat) : M8 := ⟨A.K, (List.range A.L.length).map fun j => if j < c then A.L.getD j [] else if j = c then (A.L.getD c []).take i else []⟩
theorem part_zero {A : M8} (h : A.Ok) : A.part 0 0 = M8.made A.K := by
  unfold M8.part M8.made
  rw [h.len]
  congr 1
  apply List.ext_getElem?
  intro j
  by_cases hj : j < A.L.length
  · simp [hj]
  · simp [hj]
theorem part_end (A : M8) : A.part A.L.length 0 = A := by
  unfold M8.part
  have e : ((List.range A.L.length).map fun j => if j < A.L.length then A.L.getD j [] else if j = A.L.length then (A.L.getD A.L.length []).take 0 else []) = A.L := by
    apply List.ext_getElem?
    intro j
    by_cases hj : j < A.L.length
    · simp [hj]
    · rw [List.getElem?_eq_none (by simp; omega), List.getElem?_eq_none (by omega)]
  rw [e]
theorem part_next (A : M8) (c : Nat) : A.part c (A.L.getD c []).length = A.part (c + 1) 0 := by
  unfold M8.part
  congr 1
  apply List.map_congr_left
  intro j _
  by_cases h1 : j < c
  · rw [if_pos h1, if_pos (by omega)]
  · rw [if_neg h1]
    by_cases h2 : j = c
    · subst h2
      rw [if_pos rfl, if_pos (by omega), List.take_length]
    · rw [if_neg h2, if_neg (by omega)]
      by_cases h3 : j = c + 1
      · rw [if_pos h3, List.take_zero]
      · rw [if_neg h3]
theorem part_col {A : M8} {c i : Nat} (hc : c < A.L.length) : (A.part c i).col (c : Int) = (A.L.getD c []).take i := by
  unfold M8.col M8.part
  simp [List.getD_eq_getElem?_getD, hc]
theorem part_there {A : M8} {c i : Nat} (hc : c < A.L.length) : (A.part c i).there (c : Int) := ⟨by omega, by unfold M8.part; simp; omega⟩
theorem look_none_low : ∀ {W : Tl} {k : Int}, (∀ p ∈ W, p.1 < k) → look W k = none
  | [], _, _ => rfl
  | (c, v) :: t, k, h => by
    have h1 := h (c, v) List.mem_cons_self
    simp only [look]
    rw [if_neg (by simp only at h1; omega)]
    exact look_none_low fun p hp => h p (List.mem_cons_of_mem _ hp)
theorem put_last {W : Tl} {k v : Int} (h : ∀ p ∈ W, p.1 < k) : put W k v = W ++ [(k, v)] := by
  unfold put low high
  rw [List.filter_eq_self.2 (fun p hp => decide_eq_true (h p hp)), List.filter_eq_nil_iff.2 (fun p hp => by have := h p hp; simp; omega)]
theorem part_step {A : M8} (h : A.Ok) (ho : Ones A) {c i : Nat} (hc : c < A.L.length) {p : Int × Int} (hp : (A.L.getD c [])[i]? = some p) :
    mPut (A.part c i) c p.1 p.2 = (A.part c (i + 1), 0) := by
  have hcol : A.col (c : Int) = A.L.getD c [] := by unfold M8.col; rw [Int.toNat_natCast]
  have ht : A.there (c : Int) := ⟨by omega, by omega⟩
  obtain ⟨u1, u2⟩ := h.col ht
  rw [hcol] at u1 u2
  have hlow : ∀ q ∈ (A.L.getD c []).take i, q.1 < p.1 := fun q hq => by
    obtain ⟨j, hj⟩ := List.mem_iff_getElem?.1 hq
    have hji : j < i := by
      have := (List.getElem?_eq_some_iff.1 hj).1
      rw [List.length_take] at this
      omega
    rw [List.getElem?_take, if_pos hji] at hj
    exact up_at u1 hj hp hji
  have hi : i < (A.L.getD c []).length := (List.getElem?_eq_some_iff.1 hp).1
  have hv : mVal (A.part c i) c p.2 = p.2 := by
    unfold mVal
    split
    · rename_i hk
      have hk' : A.kind (c : Int) = 2 := hk
      exact (ho c hk' p (by rw [hcol]; exact List.mem_of_getElem? hp)).symm
    · rfl
  unfold mPut
  rw [if_pos (part_there hc), part_col hc, hv]
  rw [if_neg (fun q => by have := q.2; rw [List.length_take] at this; omega)]
  rw [put_last hlow]
  congr 1
  unfold M8.setC M8.part
  simp only [Int.toNat_natCast]
  congr 1
  apply List.ext_getElem?
  intro j
  rw [List.getElem?_set]
  by_cases e : c = j
  · subst e
    rw [if_pos rfl, if_pos (by simp; exact hc)]
    simp only [List.getElem?_map, List.getElem?_range hc, Option.map_some, Nat.lt_irrefl, if_false, if_true]
    rw [List.take_add_one, hp]
    rfl
  · rw [if_neg e]
    by_cases hj : j < A.L.length
    · simp only [List.getElem?_map, List.getElem?_range hj, Option.map_some]
      by_cases h1 : j < c
      · rw [if_pos h1, if_pos h1]
      · rw [if_neg h1, if_neg h1, if_neg (fun q => e q.symm), if_neg (fun q => e q.symm)]
    · rw [List.getElem?_eq_none (by simp; omega), List.getElem?_eq_none (by simp; omega)]
end Go.Proofs.YthidipigpfcbbaaGreatDoor

namespace Go.Proofs.YthidipigpfcbbaaGreatDoor
open Go.RowKit

/-- Each statement is right. -/
def RightF (K : List Int) : Fo → Prop
  | .nil => True
  | .cons s B E F => one s B.len E.len K = true ∧ RightF K B ∧ RightF K E ∧ RightF K F
theorem right_lin (K : List Int) : ∀ (F : Fo) (d : Nat), (∀ l ∈ lin F d, one l.s l.B.len l.E.len K = true) → RightF K F
  | .nil, _, _ => trivial
  | .cons s B E F, d, h => by
    simp only [lin, List.mem_cons, List.mem_append] at h
    exact ⟨h ⟨s, B, E, d⟩ (.inl rfl), right_lin K B (d + 1) fun l hl => h l (.inr (.inl hl)), right_lin K E (d + 1) fun l hl => h l (.inr (.inr (.inl hl))), right_lin K F d fun l hl => h l (.inr (.inr (.inr hl)))⟩
theorem right_f {K : List Int} {F : Fo} (h : (right F K).1 = 0) : RightF K F :=
  right_lin K F 1 fun l hl => ((right_none K (lin F 1) 0 h).2.2 l hl).2
theorem RightF.item {K : List Int} : ∀ {F : Fo} {i : Nat} {s : St7} {B E : Fo}, RightF K F → F.items[i]? = some (s, B, E) → one s B.len E.len K = true ∧ RightF K B ∧ RightF K E
  | .nil, i, s, B, E, _, h => by simp [Fo.items] at h
  | .cons t C D F, 0, s, B, E, h, e => by
    simp [Fo.items] at e
    obtain ⟨rfl, rfl, rfl⟩ := e
    exact ⟨h.1, h.2.1, h.2.2.1⟩
  | .cons t C D F, i + 1, s, B, E, h, e => RightF.item (F := F) h.2.2.2 (by simpa [Fo.items] using e)

/-- The statements from number i on. -/
def Fo.from_ (F : Fo) (i : Nat) : Fo := Fo.ofItems (F.items.drop i)
theorem from_zero (F : Fo) : F.from_ 0 = F := by simp [Fo.from_, Fo.of_items]
theorem from_end {F : Fo} {i : Nat} (h : F.len ≤ i) : F.from_ i = .nil := by
  unfold Fo.from_
  rw [List.drop_eq_nil_of_le h]
  rfl
theorem from_item {F : Fo} {i : Nat} {s : St7} {B E : Fo} (h : F.items[i]? = some (s, B, E)) : F.from_ i = .cons s B E (F.from_ (i + 1)) := by
  unfold Fo.from_
  obtain ⟨hi, e⟩ := List.getElem?_eq_some_iff.1 h
  rw [List.drop_eq_getElem_cons hi, e]
  rfl
theorem item_at {F : Fo} {i : Nat} (h : i < F.len) : ∃ s B E, F.items[i]? = some (s, B, E) :=
  ⟨_, _, _, List.getElem?_eq_getElem h⟩

/-! ### how many numbers are told; registers; collections -/
/-- What stays so: nine registers, collections that may be, sets' values, a bound of what was told. -/
structure RS.Fine (r : RS) (K : List Int) (n : Nat) : Prop where
  regs : r.R.length = 9
  ok : r.A.Ok
  kinds : r.A.K = K
  told : r.T.length ≤ 201 * n
theorem RS.Fine.more {r : RS} {K : List Int} {n m : Nat} (h : r.Fine K n) (hm : n ≤ m) : r.Fine K m := ⟨h.regs, h.ok, h.kinds, Nat.le_trans h.told (Nat.mul_le_mul_left _ hm)⟩
theorem mPut_K (A : M8) (c k v : Int) : (mPut A c k v).1.K = A.K := by
  unfold mPut
  repeat' split
  all_goals rfl
theorem mDel_K (A : M8) (c k : Int) : (mDel A c k).1.K = A.K := by
  unfold mDel
  repeat' split
  all_goals rfl
theorem pairs_len (W : Tl) : (W.flatMap fun p => [p.1, p.2]).length = 2 * W.length := by
  induction W with
  | nil => rfl
  | cons p t ih => simp only [List.flatMap_cons, List.length_append, ih, List.length_cons, List.length_nil]; omega
theorem col_few {A : M8} (h : A.Ok) (c : Int) : (A.col c).length ≤ 100 := by
  unfold M8.col
  rw [List.getD_eq_getElem?_getD]
  cases e : A.L[c.toNat]? with
  | none => simp
  | some W => exact (h.ups W (List.mem_of_getElem? e)).2
theorem tell_fine {r : RS} {K : List Int} {n : Nat} (h : r.Fine K n) (g x : Int) : (r.tell g x).Fine K (n + 1) :=
  ⟨by simp [RS.tell, h.regs], h.ok, h.kinds, by have := h.told; simp [RS.tell]; omega⟩
theorem put_fine {r : RS} {K : List Int} {n : Nat} (h : r.Fine K n) (g x : Int) : (r.put_ g x).Fine K (n + 1) :=
  ⟨by simp [RS.put_, h.regs], h.ok, h.kinds, by have := h.told; simp [RS.put_]; omega⟩
theorem ask_fine {s : St7} {r : RS} {K : List Int} {n : Nat} (h : r.Fine K n) : (ask s r).1.Fine K (n + 1) := by
  have h1 := h.more (Nat.le_succ n)
  unfold ask
  simp only
  repeat' split
  all_goals first
    | exact tell_fine h _ _
    | exact h1
    | exact ⟨h.regs, mPut_ok h.ok _ _ _, (mPut_K _ _ _ _).trans h.kinds, h1.told⟩
    | exact ⟨h.regs, mDel_ok h.ok _ _, (mDel_K _ _ _).trans h.kinds, h1.told⟩
    | (refine ⟨h.regs, h.ok, h.kinds, ?_⟩
       have := h.told
       have := col_few h.ok s.c
       simp only [List.length_append, List.length_cons, pairs_len]
       omega)
theorem plain_fine {s : St7} {r : RS} {K : List Int} {n : Nat} (h : r.Fine K n) : (plainS s r).1.Fine K (n + 1) := by
  have h1 := h.more (Nat.le_succ n)
  unfold plainS
  repeat' split
  all_goals first
    | exact put_fine h _ _
    | exact h1
    | exact ask_fine h
/-- What f does stays fine; its number of statements only rises, and not beyond 1000. -/
def FineF (K : List Int) (f : RS → Nat → RS × Nat × Nat) : Prop := ∀ r n, r.Fine K n → n ≤ 1000 → (f r n).1.Fine K (f r n).2.2 ∧ n ≤ (f r n).2.2 ∧ (f r n).2.2 ≤ 1000
theorem times_fine {K : List Int} {f : RS → Nat → RS × Nat × Nat} (h : FineF K f) : ∀ m, FineF K (timesF f m)
  | 0, r, n, hr, hn => ⟨hr, Nat.le_refl _, hn⟩
  | m + 1, r, n, hr, hn => by
    obtain ⟨h1, h2, h3⟩ := h r n hr hn
    simp only [timesF]
    split
    · obtain ⟨i1, i2, i3⟩ := times_fine h m _ _ h1 h3
      exact ⟨i1, by omega, i3⟩
    · exact ⟨h1, h2, h3⟩
/-- A statement that has begun: n counts it, what was told does not yet. -/
theorem st_fine {K : List Int} {s : St7} {b e : RS → Nat → RS × Nat × Nat} (hb : FineF K b) (he : FineF K e) (r : RS) (n : Nat) (hr : r.Fine K n) (hn : n + 1 ≤ 1000) :
    (stF s b e r (n + 1)).1.Fine K (stF s b e r (n + 1)).2.2 ∧ n + 1 ≤ (stF s b e r (n + 1)).2.2 ∧ (stF s b e r (n + 1)).2.2 ≤ 1000 := by
  have hr' := hr.more (Nat.le_succ n)
  unfold stF
  split
  · split
    · exact hb r _ hr' hn
    · exact he r _ hr' hn
  · split
    · exact times_fine hb _ r _ hr' hn
    · split
      · obtain ⟨h1, h2, h3⟩ := hb r _ hr' hn
        split
        · exact ⟨⟨h1.regs, hr.ok, hr.kinds, h1.told⟩, h2, h3⟩
        · exact ⟨h1, h2, h3⟩
      · split
        · obtain ⟨h1, h2, h3⟩ := hb r _ hr' hn
          split
          · obtain ⟨i1, i2, i3⟩ := he r _ (hr'.more h2) h3
            exact ⟨i1, Nat.le_trans h2 i2, i3⟩
          · exact ⟨h1, h2, h3⟩
        · exact ⟨plain_fine hr, Nat.le_refl _, hn⟩
theorem ev_fine (K : List Int) : ∀ F : Fo, FineF K (evF F)
  | .nil => fun r n hr hn => ⟨hr, Nat.le_refl _, hn⟩
  | .cons s B E F => fun r n hr hn => by
    simp only [evF]
    split
    · exact ⟨hr, Nat.le_refl _, hn⟩
    · obtain ⟨h1, h2, h3⟩ := st_fine (ev_fine K B) (ev_fine K E) (s := s) r n hr (by omega)
      split
      · obtain ⟨i1, i2, i3⟩ := ev_fine K F _ _ h1 h3
        exact ⟨i1, by omega, i3⟩
      · exact ⟨h1, by omega, h3⟩
theorem ev_cons (s : St7) (B E F : Fo) (r : RS) (n : Nat) : evF (.cons s B E F) r n = if n = 1000 then (r, 4, n) else if (stF s (evF B) (evF E) r (n + 1)).2.1 = 0 then evF F (stF s (evF B) (evF E) r (n + 1)).1 (stF s (evF B) (evF E) r (n + 1)).2.2 else stF s (evF B) (evF E) r (n + 1) := rfl
end Go.Proofs.YthidipigpfcbbaaGreatDoor
