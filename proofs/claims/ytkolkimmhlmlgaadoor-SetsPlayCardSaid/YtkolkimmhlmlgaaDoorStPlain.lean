/-
  What sets are, plainly: what was read, what is written (by rising cells), what was written at each mark; the calls; undo logs and what they lead back to. Of no program.
-/
import Derived.Test.YtkolkimmhlmlgaaDoorStSorted
namespace Go.Proofs.YtkolkimmhlmlgaaDoor

/-- A plain list of cells with numbers. -/
abbrev Tl := List (Int × Int)

def look : Tl → Int → Option Int
  | [], _ => none
  | (c, v) :: t, k => if k = c then some v else look t k

/-- The place of a cell, from 1 on; 0: none. -/
def plc : Tl → Int → Nat
  | [], _ => 0
  | (c, _) :: t, k => if k = c then 1 else if plc t k = 0 then 0 else plc t k + 1

def low (W : Tl) (c : Int) : Tl := W.filter fun p => decide (p.1 < c)
def high (W : Tl) (c : Int) : Tl := W.filter fun p => decide (c < p.1)
/-- A cell has a value now. -/
def put (W : Tl) (c v : Int) : Tl := low W c ++ (c, v) :: high W c

/-- Rising cells, none twice. -/
def UpW (W : Tl) : Prop := Up (W.map (·.1))

structure AS where
  R : Tl
  W : Tl
  M : List Tl

structure AS.Ok (A : AS) : Prop where
  once : (A.R.map (·.1)).Nodup
  rfew : A.R.length ≤ 500
  up : UpW A.W
  wfew : A.W.length ≤ 500
  ups : ∀ m ∈ A.M, UpW m ∧ m.length ≤ 500
  mfew : A.M.length ≤ 20

def AS.none : AS := ⟨[], [], []⟩

/-- Read: the state behind it, the error's number, its place. -/
def aRead (A : AS) (c v : Int) : AS × Nat × Nat :=
  match look A.R c with
  | some u => if u = v then (A, 0, 0) else (A, 12, plc A.R c)
  | none => if 500 ≤ A.R.length then (A, 8, 0) else ({ A with R := A.R ++ [(c, v)] }, 0, 0)
def aWrite (A : AS) (c v : Int) : AS × Nat :=
  if look A.W c = none ∧ 500 ≤ A.W.length then (A, 8) else ({ A with W := put A.W c v }, 0)
/-- Mark: the state, the number, the error's. -/
def aMark (A : AS) : AS × Nat × Nat :=
  if 20 ≤ A.M.length then (A, 0, 10) else ({ A with M := A.M ++ [A.W] }, A.M.length + 1, 0)
def aKeep (A : AS) (m : Int) : AS × Nat :=
  if m < 1 ∨ (A.M.length : Int) < m then (A, 6) else ({ A with M := A.M.take (m.toNat - 1) }, 0)
def aBack (A : AS) (m : Int) : AS × Nat :=
  if m < 1 ∨ (A.M.length : Int) < m then (A, 6) else ({ A with W := A.M.getD (m.toNat - 1) [], M := A.M.take (m.toNat - 1) }, 0)

/-! ### look -/
theorem look_mem {W : Tl} {k : Int} : (look W k).isSome = true ↔ k ∈ W.map (·.1) := by
  induction W with
  | nil => simp [look]
  | cons p t ih =>
    obtain ⟨c, v⟩ := p
    simp only [look, List.map_cons, List.mem_cons]
    by_cases e : k = c
    · simp [e]
    · simp [e, ih]
theorem look_none {W : Tl} {k : Int} : look W k = none ↔ k ∉ W.map (·.1) := by
  rw [← look_mem]
  cases look W k <;> simp
theorem look_keys {W : Tl} (h : UpW W) : Keys (look W) (W.map (·.1)) := ⟨Up.nodup h, fun _ => look_mem.symm⟩
theorem look_app (V W : Tl) (k : Int) : look (V ++ W) k = (look V k).or (look W k) := by
  induction V with
  | nil => simp [look]
  | cons p t ih =>
    obtain ⟨c, v⟩ := p
    simp only [List.cons_append, look]
    by_cases e : k = c
    · simp [e]
    · simp [e, ih]
theorem look_filter (W : Tl) (p : Int → Bool) (k : Int) : look (W.filter fun x => p x.1) k = if p k = true then look W k else none := by
  induction W with
  | nil => simp [look]
  | cons x t ih =>
    obtain ⟨c, v⟩ := x
    by_cases hp : p c = true
    · rw [List.filter_cons_of_pos (by simpa using hp)]
      simp only [look]
      by_cases e : k = c
      · subst e; simp [hp]
      · simp [e, ih]
    · rw [List.filter_cons_of_neg (by simpa using hp), ih]
      simp only [look]
      by_cases e : k = c
      · subst e; simp [hp]
      · simp [e]
theorem look_put (W : Tl) (c v k : Int) : look (put W c v) k = if k = c then some v else look W k := by
  unfold put low high
  rw [look_app, look_filter W (fun x => decide (x < c))]
  simp only [look]
  rw [look_filter W (fun x => decide (c < x))]
  by_cases e : k = c
  · subst e; simp
  · rcases Int.lt_or_gt_of_ne e with h | h
    · have h' : ¬ c < k := by omega
      simp [e, h, h']
    · have h' : ¬ k < c := by omega
      simp [e, h, h']
theorem look_put_upd (W : Tl) (c v : Int) : look (put W c v) = upd (look W) c v := funext fun k => look_put W c v k

theorem up_put {W : Tl} (h : UpW W) (c v : Int) : UpW (put W c v) := by
  unfold UpW Up put low high
  rw [List.map_append, List.map_cons]
  have h' : W.Pairwise (fun a b => a.1 < b.1) := List.pairwise_map.1 h
  refine List.pairwise_append.2 ⟨List.pairwise_map.2 (h'.filter _), List.pairwise_cons.2 ⟨?_, List.pairwise_map.2 (h'.filter _)⟩, ?_⟩
  · intro x hx
    obtain ⟨p, hp, rfl⟩ := List.mem_map.1 hx
    simpa using (List.mem_filter.1 hp).2
  · intro a ha b hb
    obtain ⟨p, hp, rfl⟩ := List.mem_map.1 ha
    have h1 : p.1 < c := by simpa using (List.mem_filter.1 hp).2
    rcases List.mem_cons.1 hb with rfl | hb
    · exact h1
    · obtain ⟨q, hq, rfl⟩ := List.mem_map.1 hb
      have h2 : c < q.1 := by simpa using (List.mem_filter.1 hq).2
      omega

theorem len_put_there {W : Tl} (h : UpW W) {c v : Int} (hc : look W c ≠ none) : (put W c v).length = W.length := by
  have h1 := look_keys (up_put h c v)
  have h2 := look_keys h
  have h3 : Keys (look (put W c v)) (W.map (·.1)) := ⟨h2.1, fun k => by
    rw [h2.2 k, look_put]
    by_cases e : k = c
    · subst e; simp; cases h : look W k <;> simp_all
    · simp [e]⟩
  simpa using h1.len h3
theorem len_put_new {W : Tl} (h : UpW W) {c v : Int} (hc : look W c = none) : (put W c v).length = W.length + 1 := by
  have h1 := look_keys (up_put h c v)
  have h2 := look_keys h
  have h3 : Keys (look (put W c v)) (c :: W.map (·.1)) := ⟨List.nodup_cons.2 ⟨look_none.1 hc, h2.1⟩, fun k => by
    rw [List.mem_cons, h2.2 k, look_put]
    by_cases e : k = c
    · simp [e]
    · simp [e]⟩
  simpa using h1.len h3

/-- What is told by rising cells is told in one way. -/
theorem up_ext : ∀ {V W : Tl}, UpW V → UpW W → (∀ k, look V k = look W k) → V = W
  | [], [], _, _, _ => rfl
  | [], (d, u) :: s, _, _, h => by have := h d; simp [look] at this
  | (c, v) :: t, [], _, _, h => by have := h c; simp [look] at this
  | (c, v) :: t, (d, u) :: s, hV, hW, h => by
    have hV' := List.pairwise_cons.1 hV
    have hW' := List.pairwise_cons.1 hW
    have hcd : c = d := by
      have m1 : c ∈ ((d, u) :: s).map (·.1) := look_mem.1 (by rw [← h c]; simp [look])
      have m2 : d ∈ ((c, v) :: t).map (·.1) := look_mem.1 (by rw [h d]; simp [look])
      rcases List.mem_cons.1 m1 with e | m1
      · exact e
      · rcases List.mem_cons.1 m2 with e | m2
        · exact e.symm
        · have a1 := hW'.1 c m1
          have a2 := hV'.1 d m2
          simp only at a1 a2
          omega
    subst hcd
    have hvu : v = u := by have := h c; simpa [look] using this
    subst hvu
    have ht : t = s := up_ext hV'.2 hW'.2 fun k => by
      by_cases e : k = c
      · subst e
        rw [look_none.2 fun m => by have := hV'.1 k m; simp at this, look_none.2 fun m => by have := hW'.1 k m; simp at this]
      · have := h k
        simpa [look, e] using this
    rw [ht]

/-! ### places -/
theorem plc_zero {R : Tl} {k : Int} : plc R k = 0 ↔ look R k = none := by
  induction R with
  | nil => simp [plc, look]
  | cons p t ih =>
    obtain ⟨c, v⟩ := p
    simp only [plc, look]
    by_cases e : k = c
    · simp [e]
    · simp only [e, if_false]
      rw [← ih]
      by_cases h : plc t k = 0 <;> simp [h]
theorem plc_le {R : Tl} {k : Int} : plc R k ≤ R.length := by
  induction R with
  | nil => simp [plc]
  | cons p t ih =>
    obtain ⟨c, v⟩ := p
    simp only [plc, List.length_cons]
    split
    · omega
    · split <;> omega
/-- Where a cell stands. -/
theorem plc_at {R : Tl} {k : Int} (h : plc R k ≠ 0) : ∃ v, R[plc R k - 1]? = some (k, v) ∧ look R k = some v := by
  induction R with
  | nil => simp [plc] at h
  | cons p t ih =>
    obtain ⟨c, v⟩ := p
    simp only [plc, look] at h ⊢
    by_cases e : k = c
    · subst e; exact ⟨v, by simp, by simp⟩
    · simp only [e, if_false] at h ⊢
      by_cases h0 : plc t k = 0
      · simp [h0] at h
      · obtain ⟨u, h1, h2⟩ := ih h0
        refine ⟨u, ?_, h2⟩
        rw [if_neg h0]
        have : plc t k + 1 - 1 = (plc t k - 1) + 1 := by omega
        rw [this, List.getElem?_cons_succ]
        exact h1
theorem plc_snoc {R : Tl} {c v k : Int} (h : look R c = none) : plc (R ++ [(c, v)]) k = if k = c then R.length + 1 else plc R k := by
  induction R with
  | nil => simp [plc]
  | cons p t ih =>
    obtain ⟨d, u⟩ := p
    simp only [look] at h
    by_cases e : c = d
    · simp [e] at h
    · simp only [e, if_false] at h
      simp only [List.cons_append, plc, List.length_cons]
      by_cases e2 : k = d
      · subst e2
        have : ¬ k = c := fun e' => e e'.symm
        simp [this]
      · simp only [e2, if_false]
        rw [ih h]
        by_cases e3 : k = c
        · simp [e3]
        · simp [e3]

/-! ### the calls keep what is right -/
theorem aRead_ok {A : AS} (h : A.Ok) (c v : Int) : (aRead A c v).1.Ok := by
  unfold aRead
  split
  · split <;> exact h
  · rename_i hl
    split
    · exact h
    · exact { h with
        once := by
          rw [List.map_append]
          refine List.nodup_append.2 ⟨h.once, by simp, fun a ha b hb e => ?_⟩
          simp at hb
          subst hb
          subst e
          exact look_none.1 hl ha
        rfew := by simp; omega }
theorem aWrite_ok {A : AS} (h : A.Ok) (c v : Int) : (aWrite A c v).1.Ok := by
  unfold aWrite
  split
  · exact h
  · rename_i hn
    refine { h with up := up_put h.up c v, wfew := ?_ }
    show (put A.W c v).length ≤ 500
    by_cases hc : look A.W c = none
    · rw [len_put_new h.up hc]
      have : ¬ 500 ≤ A.W.length := fun h' => hn ⟨hc, h'⟩
      omega
    · rw [len_put_there h.up hc]; exact h.wfew
theorem aMark_ok {A : AS} (h : A.Ok) : (aMark A).1.Ok := by
  unfold aMark
  split
  · exact h
  · exact { h with
      ups := fun m hm => by
        rcases List.mem_append.1 hm with hm | hm
        · exact h.ups m hm
        · simp at hm; subst hm; exact ⟨h.up, h.wfew⟩
      mfew := by simp; omega }
theorem aKeep_ok {A : AS} (h : A.Ok) (m : Int) : (aKeep A m).1.Ok := by
  unfold aKeep
  split
  · exact h
  · exact { h with ups := fun m hm => h.ups m (List.mem_of_mem_take hm), mfew := by have := h.mfew; simp; omega }
theorem aBack_ok {A : AS} (h : A.Ok) (m : Int) : (aBack A m).1.Ok := by
  unfold aBack
  split
  · exact h
  · rename_i hm
    have hlt : m.toNat - 1 < A.M.length := by omega
    have hg : A.M.getD (m.toNat - 1) [] ∈ A.M := by
      rw [List.getD_eq_getElem?_getD, List.getElem?_eq_getElem hlt]
      exact List.getElem_mem hlt
    exact { h with up := (h.ups _ hg).1, wfew := (h.ups _ hg).2, ups := fun m hm => h.ups m (List.mem_of_mem_take hm), mfew := by have := h.mfew; simp; omega }
theorem none_ok : AS.none.Ok := ⟨by simp [AS.none], by simp [AS.none], by simp [AS.none, UpW, Up], by simp [AS.none], by simp [AS.none], by simp [AS.none]⟩

/-! ### undo logs -/
/-- What a cell had: a value, and whether it was written. -/
structure Bef where
  fst : Int
  snd : Bool
abbrev Lg := Int → Option Bef

/-- Back by one log. -/
def un (u : Lg) (f : Int → Option Int) : Int → Option Int := fun k => match u k with
  | some x => if x.2 then some x.1 else none
  | none => f k
def base (f : Int → Option Int) : List Lg → Int → Option Int
  | [] => f
  | u :: us => un u (base f us)
/-- What is noted of a cell. -/
def tell (f : Int → Option Int) (c : Int) : Bef := ⟨(f c).getD 0, (f c).isSome⟩
def note (u : Lg) (c : Int) (x : Bef) : Lg := if (u c).isSome then u else upd u c x
def merge (u v : Lg) : Lg := fun k => match u k with
  | some x => some x
  | none => v k

theorem un_tell (f : Int → Option Int) (c : Int) : (if (tell f c).2 = true then some (tell f c).1 else none) = f c := by
  unfold tell
  cases f c <;> simp

/-- The logs f's marks have, and what they lead back to. -/
def Backs (f : Int → Option Int) : List Lg → List Tl → Prop
  | [], [] => True
  | u :: us, m :: ms => (∀ k, un u (base f us) k = look m k) ∧ (∀ k, (u k).isSome = true → (base f us k).isSome = true) ∧ Backs f us ms
  | _, _ => False

theorem Backs.len {f : Int → Option Int} : ∀ {us : List Lg} {ms : List Tl}, Backs f us ms → us.length = ms.length
  | [], [], _ => rfl
  | _ :: _, _ :: _, h => by simp only [List.length_cons]; rw [h.2.2.len]
  | [], _ :: _, h => h.elim
  | _ :: _, [], h => h.elim

theorem note_un {u : Lg} {f : Int → Option Int} (c v : Int) (k : Int) : un (note u c (tell f c)) (upd f c v) k = un u f k := by
  unfold note
  by_cases h : (u c).isSome = true
  · rw [if_pos h]
    unfold un upd
    by_cases e : k = c
    · subst e
      cases hu : u k with
      | none => rw [hu] at h; cases h
      | some x => rfl
    · simp [e]
  · rw [if_neg h]
    have hn : u c = none := by cases hu : u c with
      | none => rfl
      | some x => rw [hu] at h; exact absurd rfl h
    unfold un upd
    by_cases e : k = c
    · subst e
      simp only [if_true, hn]
      exact un_tell f k
    · simp [e]

theorem Backs.write {f : Int → Option Int} (c v : Int) : ∀ {us : List Lg} {u : Lg} {ms : List Tl}, Backs f (us ++ [u]) ms → Backs (upd f c v) (us ++ [note u c (tell f c)]) ms ∧ ∀ k, base (upd f c v) (us ++ [note u c (tell f c)]) k = base f (us ++ [u]) k
  | [], u, [m], h => by
    refine ⟨⟨fun k => (note_un c v k).trans (h.1 k), fun k hk => ?_, trivial⟩, fun k => note_un c v k⟩
    show (upd f c v k).isSome = true
    unfold upd
    by_cases e : k = c
    · simp [e]
    · rw [if_neg e]
      refine h.2.1 k ?_
      unfold note at hk
      split at hk
      · exact hk
      · unfold upd at hk; rw [if_neg e] at hk; exact hk
  | [], u, [], h => h.elim
  | [], u, m :: m' :: ms, h => h.2.2.elim
  | w :: us, u, m :: ms, h => by
    obtain ⟨h1, h2⟩ := Backs.write (us := us) c v h.2.2
    have hb : base (upd f c v) (us ++ [note u c (tell f c)]) = base f (us ++ [u]) := funext h2
    refine ⟨⟨fun k => ?_, fun k hk => ?_, h1⟩, fun k => ?_⟩
    · show un w (base (upd f c v) (us ++ [note u c (tell f c)])) k = look m k
      rw [hb]; exact h.1 k
    · show (base (upd f c v) (us ++ [note u c (tell f c)]) k).isSome = true
      rw [hb]; exact h.2.1 k hk
    · show un w (base (upd f c v) (us ++ [note u c (tell f c)])) k = un w (base f (us ++ [u])) k
      rw [hb]
  | _ :: _, _, [], h => h.elim

theorem Backs.write0 {f : Int → Option Int} {ms : List Tl} (c v : Int) (h : Backs f [] ms) : Backs (upd f c v) [] ms := by
  cases ms with
  | nil => trivial
  | cons m ms => exact h.elim

/-- A new mark. -/
theorem Backs.mark {W : Tl} : ∀ {us : List Lg} {ms : List Tl}, Backs (look W) us ms → Backs (look W) (us ++ [fun _ => none]) (ms ++ [W]) ∧ base (look W) (us ++ [fun _ => none]) = base (look W) us
  | [], [], _ => ⟨⟨fun _ => rfl, fun _ h => (by cases h), trivial⟩, rfl⟩
  | u :: us, m :: ms, h => by
    obtain ⟨h1, h2⟩ := Backs.mark h.2.2
    refine ⟨⟨fun k => ?_, fun k hk => ?_, h1⟩, ?_⟩
    · show un u (base (look W) (us ++ [fun _ => none])) k = look m k
      rw [h2]; exact h.1 k
    · show (base (look W) (us ++ [fun _ => none]) k).isSome = true
      rw [h2]; exact h.2.1 k hk
    · show un u (base (look W) (us ++ [fun _ => none])) = un u (base (look W) us)
      rw [h2]
  | [], _ :: _, h => h.elim
  | _ :: _, [], h => h.elim

theorem base_app (f : Int → Option Int) : ∀ (us vs : List Lg), base f (us ++ vs) = base (base f vs) us
  | [], _ => rfl
  | u :: us, vs => by show un u (base f (us ++ vs)) = un u (base (base f vs) us); rw [base_app f us vs]

/-- The first logs, from what the later ones lead back to. -/
theorem Backs.take {f : Int → Option Int} : ∀ (n : Nat) {us : List Lg} {ms : List Tl}, Backs f us ms → n ≤ us.length → Backs (base f (us.drop n)) (us.take n) (ms.take n)
  | 0, _, _, _, _ => trivial
  | n + 1, u :: us, m :: ms, h, hn => by
    have ih := Backs.take n h.2.2 (by simpa using hn)
    have e : base (base f (us.drop n)) (us.take n) = base f us := by rw [← base_app, List.take_append_drop]
    refine ⟨fun k => ?_, fun k hk => ?_, ih⟩
    · show un u (base (base f (us.drop n)) (us.take n)) k = look m k
      rw [e]; exact h.1 k
    · show (base (base f (us.drop n)) (us.take n) k).isSome = true
      rw [e]; exact h.2.1 k hk
  | n + 1, [], _, _, hn => by simp at hn
  | n + 1, _ :: _, [], h, _ => h.elim

theorem Backs.drop {f : Int → Option Int} : ∀ (n : Nat) {us : List Lg} {ms : List Tl}, Backs f us ms → Backs f (us.drop n) (ms.drop n)
  | 0, _, _, h => h
  | n + 1, _ :: _, _ :: _, h => Backs.drop n h.2.2
  | _ + 1, [], [], _ => trivial
  | _ + 1, [], _ :: _, h => h.elim
  | _ + 1, _ :: _, [], h => h.elim

/-- What a mark leads back to. -/
theorem Backs.at_ {f : Int → Option Int} {us : List Lg} {ms : List Tl} (h : Backs f us ms) {n : Nat} (hn : n < us.length) : base f (us.drop n) = look (ms.getD n []) := by
  have h1 := h.drop n
  have hl := h.len
  have e1 : us.drop n = us[n] :: us.drop (n + 1) := (List.getElem_cons_drop hn).symm
  have hm : n < ms.length := by omega
  have e2 : ms.drop n = ms[n] :: ms.drop (n + 1) := (List.getElem_cons_drop hm).symm
  rw [e1, e2] at h1
  have e3 : ms.getD n [] = ms[n] := by rw [List.getD_eq_getElem?_getD, List.getElem?_eq_getElem hm]; rfl
  rw [e1, e3]
  exact funext h1.1

theorem un_merge (u v : Lg) (f : Int → Option Int) : un (merge u v) f = un u (un v f) := funext fun k => by
  unfold un merge
  cases u k <;> simp

/-- All of several logs in the first one. -/
def mrg (u : Lg) (us : List Lg) : Lg := us.foldl merge u

theorem Backs.all {f : Int → Option Int} : ∀ {us : List Lg} {u : Lg} {ms : List Tl}, Backs f (u :: us) ms → base f (u :: us) = un (mrg u us) f ∧ ∀ k, (mrg u us k).isSome = true → (f k).isSome = true
  | [], u, [m], h => ⟨rfl, fun k hk => h.2.1 k hk⟩
  | v :: vs, u, m :: m' :: ms, h => by
    have e : un (merge u v) (base f vs) = un u (un v (base f vs)) := un_merge u v _
    have h' : Backs f (merge u v :: vs) (m :: ms) := by
      refine ⟨fun k => ?_, fun k hk => ?_, h.2.2.2.2⟩
      · rw [e]; exact h.1 k
      · have hv := h.2.2.2.1 k
        have hu := h.2.1 k
        unfold merge at hk
        cases huk : u k with
        | none => rw [huk] at hk; exact hv hk
        | some x =>
          have : (un v (base f vs) k).isSome = true := hu (by rw [huk]; rfl)
          unfold un at this
          cases hvk : v k with
          | none => rw [hvk] at this; exact this
          | some y => exact hv (by rw [hvk]; rfl)
    obtain ⟨h1, h2⟩ := Backs.all h'
    exact ⟨by show un u (un v (base f vs)) = _; rw [← e]; exact h1, h2⟩
  | [], _, [], h => h.elim
  | [], _, _ :: _ :: _, h => h.2.2.elim
  | _ :: _, _, [], h => h.elim
  | _ :: _, _, [_], h => h.2.2.elim

/-- A mark is kept: its log, with all behind it, goes into the one ahead. -/
theorem Backs.keep {f : Int → Option Int} {us vs : List Lg} {u v : Lg} {ms : List Tl} (h : Backs f (us ++ u :: v :: vs) ms) : Backs f (us ++ [merge u (mrg v vs)]) (ms.take (us.length + 1)) := by
  have h1 : Backs f (u :: v :: vs) (ms.drop us.length) := by
    have := h.drop us.length
    simpa using this
  obtain ⟨m, ms', hm⟩ : ∃ m ms', ms.drop us.length = m :: ms' := by
    cases hd : ms.drop us.length with
    | nil => rw [hd] at h1; exact h1.elim
    | cons m ms' => exact ⟨m, ms', rfl⟩
  rw [hm] at h1
  obtain ⟨a1, a2⟩ := Backs.all h1.2.2
  have e1 : base f (u :: v :: vs) = base f [merge u (mrg v vs)] := by
    show un u (base f (v :: vs)) = un (merge u (mrg v vs)) f
    rw [a1, un_merge]
  have h2 := h.take us.length (by simp)
  have e2 : (us ++ u :: v :: vs).drop us.length = u :: v :: vs := by simp
  have e3 : (us ++ u :: v :: vs).take us.length = us := by simp
  rw [e2, e3, e1] at h2
  have e4 : ms.take (us.length + 1) = ms.take us.length ++ [m] := by
    have hl : us.length < ms.length := by
      rcases Nat.lt_or_ge us.length ms.length with hlt | hge
      · exact hlt
      · rw [List.drop_eq_nil_of_le hge] at hm; cases hm
    rw [List.take_add_one, List.getElem?_eq_getElem hl]
    have h5 : ms[us.length] :: ms.drop (us.length + 1) = m :: ms' := (List.getElem_cons_drop hl).trans hm
    injection h5 with h6 h7
    rw [h6]
    rfl
  rw [e4]
  have last : Backs f [merge u (mrg v vs)] [m] := by
    refine ⟨fun k => ?_, fun k hk => ?_, trivial⟩
    · have := h1.1 k
      rw [show base f (v :: vs) = un (mrg v vs) f from a1] at this
      rw [show un (merge u (mrg v vs)) (base f []) k = un u (un (mrg v vs) f) k from by rw [un_merge]; rfl]
      exact this
    · unfold merge at hk
      cases huk : u k with
      | none => rw [huk] at hk; exact a2 k hk
      | some x =>
        have := h1.2.1 k (by rw [huk]; rfl)
        rw [show base f (v :: vs) = un (mrg v vs) f from a1] at this
        unfold un at this
        cases hv : mrg v vs k with
        | none => rw [hv] at this; exact this
        | some y => exact a2 k (by rw [hv]; rfl)
  have glue : ∀ (us : List Lg) (ms : List Tl) (g : Int → Option Int) (vs : List Lg) (ns : List Tl), g = base f vs → Backs g us ms → Backs f vs ns → Backs f (us ++ vs) (ms ++ ns) := by
    intro us
    induction us with
    | nil => intro ms g vs ns hg hA hB; cases ms with
      | nil => exact hB
      | cons _ _ => exact hA.elim
    | cons w us ih =>
      intro ms g vs ns hg hA hB
      cases ms with
      | nil => exact hA.elim
      | cons m ms =>
        have e : base f (us ++ vs) = base g us := by rw [base_app, hg]
        refine ⟨fun k => ?_, fun k hk => ?_, ih ms g vs ns hg hA.2.2 hB⟩
        · show un w (base f (us ++ vs)) k = look m k
          rw [e]; exact hA.1 k
        · show (base f (us ++ vs) k).isSome = true
          rw [e]; exact hA.2.1 k hk
  exact glue us _ _ _ _ rfl h2 last

/-- A log names few cells. -/
def Few (n : Nat) (u : Lg) : Prop := ∃ l : List Int, l.length ≤ n ∧ ∀ k, (u k).isSome = true → k ∈ l

theorem Few.mono {n m : Nat} {u : Lg} (h : Few n u) (hn : n ≤ m) : Few m u := by obtain ⟨l, h1, h2⟩ := h; exact ⟨l, by omega, h2⟩
theorem Few.merge {n m : Nat} {u v : Lg} (h : Few n u) (k : Few m v) : Few (n + m) (merge u v) := by
  obtain ⟨l, h1, h2⟩ := h
  obtain ⟨l', k1, k2⟩ := k
  refine ⟨l ++ l', by simp; omega, fun c hc => List.mem_append.2 ?_⟩
  unfold Go.Proofs.YtkolkimmhlmlgaaDoor.merge at hc
  cases hu : u c with
  | some x => exact .inl (h2 c (by rw [hu]; rfl))
  | none => rw [hu] at hc; exact .inr (k2 c hc)

theorem few_look {W : Tl} {u : Lg} (hW : W.length ≤ 500) (h : ∀ k, (u k).isSome = true → (look W k).isSome = true) : Few 500 u :=
  ⟨W.map (·.1), by simpa using hW, fun k hk => look_mem.1 (h k hk)⟩

/-- Each log names at most as many cells as may be written. -/
theorem Backs.few {W : Tl} (hW : W.length ≤ 500) : ∀ {us : List Lg} {ms : List Tl}, Backs (look W) us ms → (∀ m ∈ ms, UpW m ∧ m.length ≤ 500) → ∀ u ∈ us, Few 500 u
  | [], _, _, _, u, hu => by cases hu
  | v :: us, m :: ms, h, hm, u, hu => by
    rcases List.mem_cons.1 hu with rfl | hu
    · cases us with
      | nil => exact few_look hW h.2.1
      | cons w us =>
        cases ms with
        | nil => exact h.2.2.elim
        | cons m' ms => exact few_look (hm m' (by simp)).2 fun k hk => by rw [← h.2.2.1 k]; exact h.2.1 k hk
    · exact Backs.few hW h.2.2 (fun m hm' => hm m (List.mem_cons_of_mem _ hm')) u hu
  | _ :: _, [], h, _, _, _ => h.elim
end Go.Proofs.YtkolkimmhlmlgaaDoor
