/-
  Put of the program's states by contract.
  Ceil, Range of the program's states by contract.
-/
import Derived.Test.YthidipigpfcbbaaGreatDoorMdOps

namespace Go.Proofs.YthidipigpfcbbaaGreatDoor
open Go.RowKit Go.Maps Go.Extern.Stop Go.Stop Go.Extern

section
variable {w : World} {s : Nat} {A : M8} {X : Nat → Prop}

/-- Put of a key that may be there now: what is left of it, by what the collection's kind is. -/
theorem put_kind {vK : Value} {gC cap : Nat} {bs : List Nat} (h : PMt w s vK gC cap bs A X) {c : Int} (hc : A.there c) {k v : Int} (hk : wfI k) (hn : ¬ (look (A.col c) k = none ∧ 100 ≤ (A.col c).length)) :
    Calls Tryz.prog 57 #[.pointer (some ⟨s, 0, none⟩), .int .i64 c, .int .i64 k, .int .i64 v] w fun e w' => e = .returned .nilIface ∧ PMt w' s vK gC cap bs (A.setC c (put (A.col c) k (mVal A c v))) X ∧ Keeps X w w' := by
  obtain ⟨b, hb, -, hM, hlt⟩ := h.there hc
  have hkc := h.kind hc
  have kin := h.kinds_in (A.kind c) (List.mem_of_getElem? (M8.kind_at h.ok hc))
  obtain ⟨g, ck, rfl, hkc⟩ := hkc
  have c0 : w.cell? ⟨s, 0, none⟩ = some (.slice (some ⟨g, 0, none⟩) bs.length ck) := h.blk.at_ 0
  have cf := Lib.hid (h.found hc hb)
  have hl := hM.len (h.ok.col hc).1
  have hU := (h.ok.col hc).1
  have h100 := (h.ok.col hc).2
  have hX := h.inX.2.2.2 b (List.mem_of_getElem? hb)
  have fin := Lib.hid (fun V (h1 : MH V b (upd (look (A.col c)) k (mVal A c v))) (h2 : Keeps (fun x => x = b) w V) => h.becomes hc hb ⟨up_put hU k (mVal A c v), by
    by_cases hc' : look (A.col c) k = none
    · rw [len_put_new hU hc']
      have : ¬ 100 ≤ (A.col c).length := fun h' => hn ⟨hc', h'⟩
      omega
    · rw [len_put_there hU hc']; exact h100⟩ (by rw [look_put_upd]; exact h1) h2)
  obtain ⟨i, rfl⟩ : ∃ i : Nat, c = (i : Int) := ⟨c.toNat, by have := hc.1; omega⟩
  simp only [Int.toNat_natCast] at hkc hlt
  have hi : (i : Int) < (bs.length : Int) := by omega
  have HM := Lib.hid hM
  have HU := Lib.hid hU
  obtain ⟨W, hW⟩ : ∃ W, A.col (i : Int) = W := ⟨_, rfl⟩
  obtain ⟨kd, hkd⟩ : ∃ kd, A.kind (i : Int) = kd := ⟨_, rfl⟩
  obtain ⟨n, hbn⟩ : ∃ n, bs.length = n := ⟨_, rfl⟩
  have hv : mVal A (i : Int) v = if kd = 2 then 1 else v := by unfold mVal; rw [hkd]
  have hv' := Lib.hid hv
  obtain ⟨u, hu⟩ : ∃ u, mVal A (i : Int) v = u := ⟨_, rfl⟩
  rw [hu] at fin hv' ⊢
  rw [hW] at hl hn fin HM HU h100 ⊢
  rw [hkd] at hkc kin
  rw [hbn] at c0 hi
  have few := Lib.hid (show (W.map (·.1)).length < maxLen by rw [List.length_map]; unfold maxLen; omega)
  have lens := Lib.hid (look_keys HU.out).2
  have hn' := Lib.hid hn
  obtain ⟨x, hx⟩ : ∃ x, (look W k).getD 0 = x := ⟨_, rfl⟩
  have hx' := Lib.hid hx
  have fin' := Lib.hid (fun V (M2 : MH V b (upd (look W) k u)) (K2 : Keeps (fun x => x = b) w V) => (⟨rfl, fin.out V M2 K2, K2.mono fun y _ e => (by rw [e]; exact hX : X y)⟩ : Ending.returned Value.nilIface = Ending.returned Value.nilIface ∧ _ ∧ Keeps X w V))
  clear h hU hM hb hc hW hkd hbn hv hu hn hx hX fin
  obtain ⟨m, hm⟩ : ∃ m, W.length = m := ⟨_, rfl⟩
  rw [hm] at hl h100
  have hm' := Lib.hid hm
  clear hm
  obtain ⟨y, hy⟩ : ∃ y, (look W k).isSome = y := ⟨_, rfl⟩
  have hy' := Lib.hid hy
  have small : Hid (y = false → (m : Int) < 100) := Lib.hid fun e => by
    subst e
    have h1 : look W k = none := by cases hl : look W k <;> simp_all
    have h2 : ¬ 100 ≤ W.length := fun h => hn'.out ⟨h1, h⟩
    have := hm'.out
    omega
  clear hy
  have done : ∀ kv : Int, (if kd = 2 then 1 else v) = kv → u = kv := fun kv e => hv'.out.trans e
  have done' := Lib.hid done
  clear done
  by_cases k2 : kd = 2
  · subst k2
    obtain rfl : u = 1 := done'.out 1 rfl
    cases y with
    | true =>
      go_enter Tryz.func57, Tryz.ntmps57
      go_wp2_with (first
        | (go_at_call 37; refine cf.out.mono ?_; rintro e w' ⟨rfl, rfl⟩)
        | (at_lookup; refine wpList_look_ok _ rfl _ _ _ rfl 3 3 iE Tryz.underlying3 Tryz.underlying83 0 (zero_i _) b (look W) rfl HM.out k rfl hk (.int .i64 x) true (by rw [hx'.out]; rfl) hy'.out ?_)
        | (at_mapUpdate; refine wpList_upd _ rfl _ _ _ _ rfl 3 3 iE Tryz.underlying3 Tryz.underlying83 b (look W) rfl HM.out (W.map (·.1)) (fun j hj => (lens.out j).2 hj) few.out k rfl hk 1 rfl ?_; intro w2 hM2 hg2; have M2 := Lib.hid hM2; have K2 := Lib.hid (Keeps.of_grown hg2); clear hM2 hg2))
      go_ret
      exact ⟨rfl, (fin'.out _ M2.out K2.out).2⟩
    | false =>
      have sm := small.out rfl
      go_enter Tryz.func57, Tryz.ntmps57
      go_wp2_with (first
        | (go_at_call 37; refine cf.out.mono ?_; rintro e w' ⟨rfl, rfl⟩)
        | (at_lookup; refine wpList_look_ok _ rfl _ _ _ rfl 3 3 iE Tryz.underlying3 Tryz.underlying83 0 (zero_i _) b (look W) rfl HM.out k rfl hk (.int .i64 x) false (by rw [hx'.out]; rfl) hy'.out ?_)
        | (at_mapUpdate; refine wpList_upd _ rfl _ _ _ _ rfl 3 3 iE Tryz.underlying3 Tryz.underlying83 b (look W) rfl HM.out (W.map (·.1)) (fun j hj => (lens.out j).2 hj) few.out k rfl hk 1 rfl ?_; intro w2 hM2 hg2; have M2 := Lib.hid hM2; have K2 := Lib.hid (Keeps.of_grown hg2); clear hM2 hg2))
      go_ret
      exact ⟨rfl, (fin'.out _ M2.out K2.out).2⟩
  · obtain rfl : u = v := done'.out v (if_neg k2)
    have kk : kd = 1 ∨ kd = 3 := by omega
    clear kin
    rcases kk with rfl | rfl
    · cases y with
      | true =>
        go_enter Tryz.func57, Tryz.ntmps57
        go_wp2_with (first
          | (go_at_call 37; refine cf.out.mono ?_; rintro e w' ⟨rfl, rfl⟩)
          | (at_lookup; refine wpList_look_ok _ rfl _ _ _ rfl 3 3 iE Tryz.underlying3 Tryz.underlying83 0 (zero_i _) b (look W) rfl HM.out k rfl hk (.int .i64 x) true (by rw [hx'.out]; rfl) hy'.out ?_)
          | (at_mapUpdate; refine wpList_upd _ rfl _ _ _ _ rfl 3 3 iE Tryz.underlying3 Tryz.underlying83 b (look W) rfl HM.out (W.map (·.1)) (fun j hj => (lens.out j).2 hj) few.out k rfl hk u rfl ?_; intro w2 hM2 hg2; have M2 := Lib.hid hM2; have K2 := Lib.hid (Keeps.of_grown hg2); clear hM2 hg2))
        go_ret
        exact ⟨rfl, (fin'.out _ M2.out K2.out).2⟩
      | false =>
        have sm := small.out rfl
        go_enter Tryz.func57, Tryz.ntmps57
        go_wp2_with (first
          | (go_at_call 37; refine cf.out.mono ?_; rintro e w' ⟨rfl, rfl⟩)
          | (at_lookup; refine wpList_look_ok _ rfl _ _ _ rfl 3 3 iE Tryz.underlying3 Tryz.underlying83 0 (zero_i _) b (look W) rfl HM.out k rfl hk (.int .i64 x) false (by rw [hx'.out]; rfl) hy'.out ?_)
          | (at_mapUpdate; refine wpList_upd _ rfl _ _ _ _ rfl 3 3 iE Tryz.underlying3 Tryz.underlying83 b (look W) rfl HM.out (W.map (·.1)) (fun j hj => (lens.out j).2 hj) few.out k rfl hk u rfl ?_; intro w2 hM2 hg2; have M2 := Lib.hid hM2; have K2 := Lib.hid (Keeps.of_grown hg2); clear hM2 hg2))
        go_ret
        exact ⟨rfl, (fin'.out _ M2.out K2.out).2⟩
    · cases y with
      | true =>
        go_enter Tryz.func57, Tryz.ntmps57
        go_wp2_with (first
          | (go_at_call 37; refine cf.out.mono ?_; rintro e w' ⟨rfl, rfl⟩)
          | (at_lookup; refine wpList_look_ok _ rfl _ _ _ rfl 3 3 iE Tryz.underlying3 Tryz.underlying83 0 (zero_i _) b (look W) rfl HM.out k rfl hk (.int .i64 x) true (by rw [hx'.out]; rfl) hy'.out ?_)
          | (at_mapUpdate; refine wpList_upd _ rfl _ _ _ _ rfl 3 3 iE Tryz.underlying3 Tryz.underlying83 b (look W) rfl HM.out (W.map (·.1)) (fun j hj => (lens.out j).2 hj) few.out k rfl hk u rfl ?_; intro w2 hM2 hg2; have M2 := Lib.hid hM2; have K2 := Lib.hid (Keeps.of_grown hg2); clear hM2 hg2))
        go_ret
        exact ⟨rfl, (fin'.out _ M2.out K2.out).2⟩
      | false =>
        have sm := small.out rfl
        go_enter Tryz.func57, Tryz.ntmps57
        go_wp2_with (first
          | (go_at_call 37; refine cf.out.mono ?_; rintro e w' ⟨rfl, rfl⟩)
          | (at_lookup; refine wpList_look_ok _ rfl _ _ _ rfl 3 3 iE Tryz.underlying3 Tryz.underlying83 0 (zero_i _) b (look W) rfl HM.out k rfl hk (.int .i64 x) false (by rw [hx'.out]; rfl) hy'.out ?_)
          | (at_mapUpdate; refine wpList_upd _ rfl _ _ _ _ rfl 3 3 iE Tryz.underlying3 Tryz.underlying83 b (look W) rfl HM.out (W.map (·.1)) (fun j hj => (lens.out j).2 hj) few.out k rfl hk u rfl ?_; intro w2 hM2 hg2; have M2 := Lib.hid hM2; have K2 := Lib.hid (Keeps.of_grown hg2); clear hM2 hg2))
        go_ret
        exact ⟨rfl, (fin'.out _ M2.out K2.out).2⟩

theorem put_m (h : PM w s A X) (c k v : Int) (hk : wfI k) :
    Calls Tryz.prog 57 #[.pointer (some ⟨s, 0, none⟩), .int .i64 c, .int .i64 k, .int .i64 v] w fun e w' => ∃ ev a, e = .returned ev ∧ ErrU w.heap.size w' ev (mPut A c k v).2 a ∧ MDid PM w w' s (mPut A c k v).1 X := by
  by_cases hc : A.there c
  · by_cases hn : look (A.col c) k = none ∧ 100 ≤ (A.col c).length
    · have e1 : mPut A c k v = (A, 8) := by unfold mPut; rw [if_pos hc, if_pos hn]
      rw [e1]
      have P := Lib.hid h
      have ok := h.ok
      obtain ⟨vK, gC, cap, bs, h⟩ := h
      obtain ⟨b, hb, -, hM, -⟩ := h.there hc
      have cf := Lib.hid (h.found hc hb)
      have hl := hM.len (ok.col hc).1
      have hM := Lib.hid hM
      obtain ⟨n1, n2⟩ := hn
      have hx' := Lib.hid n1
      generalize A.col c = W at *
      have h100 : (100 : Int) ≤ (W.length : Int) := by omega
      generalize W.length = m at *
      clear h hb hc e1 ok n2 n1
      go_enter Tryz.func57, Tryz.ntmps57
      go_wp2_with (first
        | (go_at_call 37; refine cf.out.mono ?_; rintro e w' ⟨rfl, rfl⟩)
        | (at_lookup; refine wpList_look_ok _ rfl _ _ _ rfl 3 3 iE Tryz.underlying3 Tryz.underlying83 0 (zero_i _) b (look W) rfl hM.out k rfl hk (.int .i64 0) false (by rw [hx'.out]; rfl) (by rw [hx'.out]; rfl) ?_))
      go_ret
      exact ⟨_, 0, rfl, .inr (.inl ⟨by decide, by decide, rfl, rfl⟩), X, P.out, fun _ => .inl, Keeps.refl _ _⟩
    · have e1 : mPut A c k v = (A.setC c (put (A.col c) k (mVal A c v)), 0) := by unfold mPut; rw [if_pos hc, if_neg hn]
      rw [e1]
      obtain ⟨vK, gC, cap, bs, h⟩ := h
      exact (put_kind h hc hk hn).mono fun e w' ⟨h1, h2, h3⟩ => ⟨_, 0, h1, .inl ⟨rfl, rfl, rfl⟩, X, ⟨_, _, _, _, h2⟩, fun _ => .inl, h3⟩
  · have e1 : mPut A c k v = (A, 3) := by unfold mPut; rw [if_neg hc]
    rw [e1]
    have cf := Lib.hid (h.not_there hc)
    have P := Lib.hid h
    clear h e1 hc
    go_enter Tryz.func57, Tryz.ntmps57
    go_wp2_with (go_at_call 37; refine cf.out.mono ?_; rintro e w2 ⟨p, rfl, hE, hK⟩; have E2 := Lib.hid hE; have K2 := Lib.hid hK; clear hE hK)
    go_ret
    exact ⟨_, _, rfl, E2.out, X, P.out.same K2.out, fun _ => .inl, K2.out.mono fun _ _ => False.elim⟩
end
end Go.Proofs.YthidipigpfcbbaaGreatDoor

namespace Go.Proofs.YthidipigpfcbbaaGreatDoor
open Go.RowKit Go.Maps Go.Extern.Stop Go.Stop Go.Extern

/-! ### plainly -/
theorem look_least {p : Int × Int} {t : Tl} (h : UpW (p :: t)) {j : Int} (hj : (look (p :: t) j).isSome = true) : p.1 ≤ j := by
  have h' := look_mem.1 hj
  rw [List.map_cons, List.mem_cons] at h'
  rcases h' with rfl | h'
  · exact Int.le_refl _
  · have := (List.pairwise_cons.1 (show List.Pairwise (· < ·) (p.1 :: t.map (·.1)) from h)).1 j h'
    omega
theorem ceil_is : ∀ {W : Tl} {k m : Int}, UpW W → (look W m).isSome = true → k ≤ m → (∀ j, (look W j).isSome = true → k ≤ j → m ≤ j) → ceil W k = some m
  | [], k, m, _, h, _, _ => by simp [look] at h
  | p :: t, k, m, hU, h, hk, hm => by
    have hp : (look (p :: t) p.1).isSome = true := by obtain ⟨c, v⟩ := p; simp [look]
    by_cases hle : k ≤ p.1
    · have h1 := hm p.1 hp hle
      have h2 := look_least hU h
      obtain rfl : m = p.1 := by omega
      simp [ceil, hle]
    · have hne : m ≠ p.1 := fun e => hle (e ▸ hk)
      have e1 : look (p :: t) m = look t m := by obtain ⟨c, v⟩ := p; simp only [look]; rw [if_neg hne]
      have := ceil_is (W := t) (k := k) (m := m) (List.pairwise_cons.1 (show List.Pairwise (· < ·) (p.1 :: t.map (·.1)) from hU)).2 (by rw [← e1]; exact h) hk fun j hj hkj => hm j (by
        obtain ⟨c, v⟩ := p
        simp only [look]
        by_cases e : j = c
        · simp [e]
        · rw [if_neg e]; exact hj) hkj
      simpa [ceil, hle] using this
theorem ceil_none {W : Tl} {k : Int} (h : ∀ j, (look W j).isSome = true → ¬ k ≤ j) : ceil W k = none := by
  cases hc : ceil W k with
  | none => rfl
  | some m => exact absurd (ceil_look hc).2 (h m (ceil_look hc).1)

/-- What has come so far: the least that is not below k, and whether there is one. -/
def CeilAt (W : Tl) (k : Int) (left : Int → Bool) (x : Int) (b : Bool) : Prop :=
  (b = false ∧ x = 0 ∧ ∀ j, (look W j).isSome = true → left j = false → ¬ k ≤ j) ∨
  (b = true ∧ (look W x).isSome = true ∧ k ≤ x ∧ ∀ j, (look W j).isSome = true → left j = false → k ≤ j → x ≤ j)
theorem CeilAt.start (W : Tl) (k : Int) : CeilAt W k (fun i => (look W i).isSome) 0 false :=
  .inl ⟨rfl, rfl, fun j h1 h2 => by
    have h3 : (look W j).isSome = false := h2
    rw [h1] at h3; cases h3⟩
theorem CeilAt.done {W : Tl} {k : Int} {left : Int → Bool} {x : Int} {b : Bool} (hU : UpW W) (h : CeilAt W k left x b) (hl : ∀ i, left i = false) : (ceil W k).getD 0 = x ∧ (ceil W k).isSome = b := by
  rcases h with ⟨rfl, rfl, h⟩ | ⟨rfl, h1, h2, h3⟩
  · rw [ceil_none fun j hj => h j hj (hl j)]; exact ⟨rfl, rfl⟩
  · rw [ceil_is hU h1 h2 fun j hj hk => h3 j hj (hl j) hk]; exact ⟨rfl, rfl⟩
theorem CeilAt.skip {W : Tl} {k : Int} {left : Int → Bool} {x : Int} {b : Bool} (h : CeilAt W k left x b) {y : Int} (hy : ¬ k ≤ y ∨ (b = true ∧ x ≤ y)) : CeilAt W k (fun i => left i && !decide (i = y)) x b := by
  have go : ∀ j, (left j && !decide (j = y)) = false → left j = false ∨ j = y := fun j hj => by
    by_cases e : j = y
    · exact .inr e
    · simp [e] at hj; exact .inl hj
  rcases h with ⟨rfl, rfl, h⟩ | ⟨rfl, h1, h2, h3⟩
  · refine .inl ⟨rfl, rfl, fun j h1 h2 => ?_⟩
    rcases go j h2 with h4 | rfl
    · exact h j h1 h4
    · rcases hy with hy | ⟨hy, _⟩
      · exact hy
      · cases hy
  · refine .inr ⟨rfl, h1, h2, fun j h4 h5 h6 => ?_⟩
    rcases go j h5 with h7 | rfl
    · exact h3 j h4 h7 h6
    · rcases hy with hy | ⟨_, hy⟩
      · exact absurd h6 hy
      · exact hy
theorem CeilAt.take {W : Tl} {k : Int} {left : Int → Bool} {x : Int} {b : Bool} (h : CeilAt W k left x b) {y : Int} (hW : (look W y).isSome = true) (hy : k ≤ y) (hb : b = true → y ≤ x) : CeilAt W k (fun i => left i && !decide (i = y)) y true := by
  refine .inr ⟨rfl, hW, hy, fun j h4 h5 h6 => ?_⟩
  by_cases e : j = y
  · omega
  · simp [e] at h5
    rcases h with ⟨rfl, rfl, h⟩ | ⟨rfl, h1, h2, h3⟩
    · exact absurd h6 (h j h4 h5)
    · have := h3 j h4 h5 h6
      have := hb rfl
      omega

/-- How many of those that have come lie between. -/
def rngAt (W : Tl) (a b : Int) (left : Int → Bool) : Nat := (W.filter fun p => !left p.1 && decide (a ≤ p.1 ∧ p.1 ≤ b)).length
theorem rngAt_start (W : Tl) (a b : Int) : rngAt W a b (fun i => (look W i).isSome) = 0 := by
  unfold rngAt
  rw [List.length_eq_zero_iff, List.filter_eq_nil_iff]
  intro p hp
  have : (look W p.1).isSome = true := look_mem.2 (List.mem_map.2 ⟨p, hp, rfl⟩)
  simp [this]
theorem rngAt_done {W : Tl} {a b : Int} {left : Int → Bool} (hl : ∀ i, left i = false) : rngAt W a b left = rng W a b := by
  unfold rngAt rng
  simp [hl]
theorem rngAt_le (W : Tl) (a b : Int) (left : Int → Bool) : rngAt W a b left ≤ W.length := List.length_filter_le _ _
theorem rngAt_step {W : Tl} (hU : UpW W) {a b : Int} {left : Int → Bool} {y : Int} (hy : (look W y).isSome = true) (hl : left y = true) : rngAt W a b (fun i => left i && !decide (i = y)) = rngAt W a b left + (if a ≤ y ∧ y ≤ b then 1 else 0) := by
  have key : ∀ (V : Tl), y ∉ V.map (·.1) → rngAt V a b (fun i => left i && !decide (i = y)) = rngAt V a b left := fun V hV => by
    unfold rngAt
    congr 1
    refine List.filter_congr fun p hp => ?_
    have : p.1 ≠ y := fun e => hV (List.mem_map.2 ⟨p, hp, e⟩)
    simp [this]
  induction W with
  | nil => simp [look] at hy
  | cons p t ih =>
    have hU' := List.pairwise_cons.1 (show List.Pairwise (· < ·) (p.1 :: t.map (·.1)) from hU)
    by_cases e : p.1 = y
    · subst e
      have hn : p.1 ∉ t.map (·.1) := fun h => by have := hU'.1 p.1 h; omega
      have := key t hn
      unfold rngAt at this ⊢
      have c2 : ¬ (!left p.1 && decide (a ≤ p.1 ∧ p.1 ≤ b)) = true := by rw [hl]; simp
      rw [List.filter_cons, List.filter_cons, if_neg c2]
      by_cases hr : a ≤ p.1 ∧ p.1 ≤ b
      · have c1 : (!(left p.1 && !decide (p.1 = p.1)) && decide (a ≤ p.1 ∧ p.1 ≤ b)) = true := by simp [hr]
        rw [if_pos c1, if_pos hr, List.length_cons, this]
      · have c1 : ¬ (!(left p.1 && !decide (p.1 = p.1)) && decide (a ≤ p.1 ∧ p.1 ≤ b)) = true := by rw [decide_eq_false hr]; simp
        rw [if_neg c1, if_neg hr, this]; rfl
    · have h1 : (look t y).isSome = true := by
        obtain ⟨c, v⟩ := p
        simp only [look] at hy
        rwa [if_neg (fun h => e h.symm)] at hy
      have := ih hU'.2 h1
      unfold rngAt at this ⊢
      have c1 : (!(left p.1 && !decide (p.1 = y)) && decide (a ≤ p.1 ∧ p.1 ≤ b)) = (!left p.1 && decide (a ≤ p.1 ∧ p.1 ≤ b)) := by rw [decide_eq_false e]; simp
      rw [List.filter_cons, List.filter_cons, c1]
      by_cases c2 : (!left p.1 && decide (a ≤ p.1 ∧ p.1 ≤ b)) = true
      · rw [if_pos c2, if_pos c2, List.length_cons, List.length_cons, this]; omega
      · rw [if_neg c2, if_neg c2, this]

section
variable {w : World} {s : Nat} {A : M8} {X : Nat → Prop}

theorem ordered_not (h : PM w s A X) {c : Int} (hc : ¬ A.there c) :
    Calls Tryz.prog 83 #[.pointer (some ⟨s, 0, none⟩), .int .i64 c] w fun e w' => ∃ p, e = .returned (.tuple #[.map none, .iface 103 (.pointer (some ⟨p, 0, none⟩))]) ∧ ErrU w.heap.size w' (.iface 103 (.pointer (some ⟨p, 0, none⟩))) 3 c ∧ Keeps (fun _ => False) w w' := by
  have cf := Lib.hid (h.not_there hc)
  clear h hc
  go_enter Tryz.func83, Tryz.ntmps83
  go_wp2_with (go_at_call 37; refine cf.out.mono ?_; rintro e w2 ⟨p, rfl, hE, hK⟩; have E2 := Lib.hid hE; have K2 := Lib.hid hK; clear hE hK)
  go_ret2
  exact ⟨_, rfl, E2.out, K2.out⟩
theorem ordered_nil (c : Int) (w : World) :
    Calls Tryz.prog 83 #[.pointer none, .int .i64 c] w fun e w' => e = .returned (.tuple #[.map none, .iface 65 (.int .i64 1)]) ∧ w = w' := by
  go_enter Tryz.func83, Tryz.ntmps83
  go_wp2_with (go_at_call 37; refine (find_nil _ _).mono ?_; rintro e w' ⟨rfl, rfl⟩)
  go_ret2
  exact ⟨rfl, rfl⟩
theorem ordered_kind (h : PM w s A X) {c : Int} (hc : A.there c) (hk : A.kind c ≠ 3) :
    Calls Tryz.prog 83 #[.pointer (some ⟨s, 0, none⟩), .int .i64 c] w fun e w' => e = .returned (.tuple #[.map none, .iface 65 (.int .i64 17)]) ∧ w = w' := by
  obtain ⟨vK, gC, cap, bs, h⟩ := h
  obtain ⟨b, hb, -, -, hlt⟩ := h.there hc
  obtain ⟨g, ck, rfl, hkc⟩ := h.kind hc
  have c0 : w.cell? ⟨s, 0, none⟩ = some (.slice (some ⟨g, 0, none⟩) bs.length ck) := h.blk.at_ 0
  have cf := Lib.hid (h.found hc hb)
  obtain ⟨i, rfl⟩ : ∃ i : Nat, c = (i : Int) := ⟨c.toNat, by have := hc.1; omega⟩
  simp only [Int.toNat_natCast] at hkc hlt
  have hi : (i : Int) < (bs.length : Int) := by omega
  generalize A.kind (i : Int) = kd at *
  clear h hc hb
  generalize bs.length = n at *
  go_enter Tryz.func83, Tryz.ntmps83
  go_wp2_with (go_at_call 37; refine cf.out.mono ?_; rintro e w' ⟨rfl, rfl⟩)
  go_ret2
  exact ⟨rfl, rfl⟩
theorem ordered_there {vK : Value} {gC cap : Nat} {bs : List Nat} (h : PMt w s vK gC cap bs A X) {c : Int} (hc : A.there c) (hk : A.kind c = 3) {b : Nat} (hb : bs[c.toNat]? = some b) :
    Calls Tryz.prog 83 #[.pointer (some ⟨s, 0, none⟩), .int .i64 c] w fun e w' => e = .returned (.tuple #[.map (some b), .nilIface]) ∧ w = w' := by
  obtain ⟨_, _, -, -, hlt⟩ := h.there hc
  obtain ⟨g, ck, rfl, hkc⟩ := h.kind hc
  have c0 : w.cell? ⟨s, 0, none⟩ = some (.slice (some ⟨g, 0, none⟩) bs.length ck) := h.blk.at_ 0
  have cf := Lib.hid (h.found hc hb)
  obtain ⟨i, rfl⟩ : ∃ i : Nat, c = (i : Int) := ⟨c.toNat, by have := hc.1; omega⟩
  rw [hk] at hkc
  simp only [Int.toNat_natCast] at hkc hlt
  have hi : (i : Int) < (bs.length : Int) := by omega
  clear h hc hb hk
  generalize bs.length = n at *
  go_enter Tryz.func83, Tryz.ntmps83
  go_wp2_with (go_at_call 37; refine cf.out.mono ?_; rintro e w' ⟨rfl, rfl⟩)
  go_ret2
  exact ⟨rfl, rfl⟩

set_option maxRecDepth 100000 in
theorem ceil_m (h : PM w s A X) (c k : Int) :
    Calls Tryz.prog 60 #[.pointer (some ⟨s, 0, none⟩), .int .i64 c, .int .i64 k] w fun e w' => ∃ ev a, e = .returned (.tuple #[.int .i64 (mCeil A c k).1, .bool (mCeil A c k).2.1, ev]) ∧ ErrU w.heap.size w' ev (mCeil A c k).2.2 a ∧ Keeps (fun _ => False) w w' := by
  by_cases hc : A.there c
  · by_cases hk : A.kind c = 3
    · have e1 : mCeil A c k = ((ceil (A.col c) k).getD 0, (ceil (A.col c) k).isSome, 0) := by unfold mCeil; rw [if_pos hc, if_pos hk]
      rw [e1]
      have ok := h.ok
      obtain ⟨vK, gC, cap, bs, h⟩ := h
      obtain ⟨b, hb, -, hM, -⟩ := h.there hc
      have co := Lib.hid (ordered_there h hc hk hb)
      have hM := Lib.hid hM
      have hU := Lib.hid (ok.col hc).1
      clear h hk hb hc e1 ok
      generalize A.col c = W at *
      go_enter Tryz.func60, Tryz.ntmps60
      go_wp2_with (first
        | (go_at_call 83; refine co.out.mono ?_; rintro e w' ⟨rfl, rfl⟩)
        | (at_range; refine wpList_ranging _ rfl _ 83 rfl 3 3 iE Tryz.underlying3 Tryz.underlying83 b (look W) rfl hM.out ?_; intro V cnt0 hR hG hS; have R0 := Lib.hid hR; have K0 := Lib.hid ((Keeps.refl (fun _ => False) w).grown hG (fun _ h _ => by cases h)); clear hR hG hS))
      go_frame
      go_loopw [11, 12] (fun x y wr => ∃ (left : Int → Bool) (cn : Nat) (m : Int) (is : Bool), x = .int .i64 m ∧ y = .bool is ∧ CeilAt W k left m is ∧ Ranging Tryz.prog 3 iE wr b w.heap.size (look W) left cn ∧ Keeps (fun _ => False) w wr) (fun _ _ wr => wr.rangeLeft b w.heap.size)
      case atStart => exact ⟨_, cnt0, 0, false, rfl, rfl, CeilAt.start W k, R0.out, K0.out⟩
      case round =>
        obtain ⟨left, cn, m, is, rfl, rfl, hC, hR, hK⟩ := hrel
        have C1 := Lib.hid hC
        have R1 := Lib.hid hR
        have K1 := Lib.hid hK
        clear hC hR hK
        go_wp2_with (first
          | (at_next; refine wpList_next_ranging _ rfl _ rfl 3 iE Tryz.underlying3 b w.heap.size (look W) left cn rfl R1.out ?_ ?_))
        · intro hDone
          obtain ⟨d1, d2⟩ := C1.out.done hU.out hDone
          have d1 := Lib.hid d1
          have d2 := Lib.hid d2
          clear hDone
          go_wp2
          go_ret3
          exact ⟨_, 0, by rw [d1.out, d2.out]; rfl, .inl ⟨rfl, rfl, rfl⟩, K1.out⟩
        · intro x v w1 cnt1 hwx hlx hfx hR1 hlt hg1 hs1 hen
          have hen2 : (Instr.entry (.pointer (some ⟨w.heap.size, 0, none⟩))).run Tryz.prog w1 = .ok (.tuple #[.int .i64 x, .int .i64 v]) w1 := hen
          have R2 := Lib.hid hR1
          have K2 := Lib.hid (K1.out.grown hg1 (fun k hk hlt => by injection hk with hk; omega))
          have hlt' := Lib.hid hlt
          have hfx' : Hid ((look W x).isSome = true) := Lib.hid (by rw [hfx]; rfl)
          clear hwx hlx hfx hR1 hlt hg1 hs1 hen
          by_cases h1 : k ≤ x
          · by_cases h2 : is = true
            · subst h2
              by_cases h3 : x < m
              · go_wp2
                go_roundw
                case rel => exact ⟨_, cnt1, x, true, rfl, rfl, C1.out.take hfx'.out h1 (fun _ => by omega), R2.out, K2.out⟩
                case measure => rw [R2.out.left_eq, R1.out.left_eq]; exact hlt'.out
              · go_wp2
                go_roundw
                case rel => exact ⟨_, cnt1, m, true, rfl, rfl, C1.out.skip (.inr ⟨rfl, by omega⟩), R2.out, K2.out⟩
                case measure => rw [R2.out.left_eq, R1.out.left_eq]; exact hlt'.out
            · obtain rfl : is = false := by simpa using h2
              go_wp2
              go_roundw
              case rel => exact ⟨_, cnt1, x, true, rfl, rfl, C1.out.take hfx'.out h1 (fun h => by cases h), R2.out, K2.out⟩
              case measure => rw [R2.out.left_eq, R1.out.left_eq]; exact hlt'.out
          · go_wp2
            go_roundw
            case rel => exact ⟨_, cnt1, m, is, rfl, rfl, C1.out.skip (.inl h1), R2.out, K2.out⟩
            case measure => rw [R2.out.left_eq, R1.out.left_eq]; exact hlt'.out
    · have e1 : mCeil A c k = (0, false, 17) := by unfold mCeil; rw [if_pos hc, if_neg hk]
      rw [e1]
      have co := Lib.hid (ordered_kind h hc hk)
      clear h hk hc e1
      go_enter Tryz.func60, Tryz.ntmps60
      go_wp2_with (go_at_call 83; refine co.out.mono ?_; rintro e w' ⟨rfl, rfl⟩)
      go_ret3
      exact ⟨_, 0, rfl, .inr (.inl ⟨by decide, by decide, rfl, rfl⟩), Keeps.refl _ _⟩
  · have e1 : mCeil A c k = (0, false, 3) := by unfold mCeil; rw [if_neg hc]
    rw [e1]
    have co := Lib.hid (ordered_not h hc)
    clear h hc e1
    go_enter Tryz.func60, Tryz.ntmps60
    go_wp2_with (go_at_call 83; refine co.out.mono ?_; rintro e w2 ⟨p, rfl, hE, hK⟩; have E2 := Lib.hid hE; have K2 := Lib.hid hK; clear hE hK)
    go_ret3
    exact ⟨_, _, rfl, E2.out, K2.out⟩

set_option maxRecDepth 100000 in
theorem range_m (h : PM w s A X) (c x y : Int) :
    Calls Tryz.prog 62 #[.pointer (some ⟨s, 0, none⟩), .int .i64 c, .int .i64 x, .int .i64 y] w fun e w' => ∃ ev a, e = .returned (.tuple #[.int .i64 ((mRange A c x y).1 : Nat), ev]) ∧ ErrU w.heap.size w' ev (mRange A c x y).2 a ∧ Keeps (fun _ => False) w w' := by
  by_cases hc : A.there c
  · by_cases hk : A.kind c = 3
    · have e1 : mRange A c x y = (rng (A.col c) x y, 0) := by unfold mRange; rw [if_pos hc, if_pos hk]
      rw [e1]
      have ok := h.ok
      obtain ⟨vK, gC, cap, bs, h⟩ := h
      obtain ⟨b, hb, -, hM, -⟩ := h.there hc
      have co := Lib.hid (ordered_there h hc hk hb)
      have hM := Lib.hid hM
      have hU := Lib.hid (ok.col hc).1
      have few := (ok.col hc).2
      clear h hk hb hc e1 ok
      generalize A.col c = W at *
      go_enter Tryz.func62, Tryz.ntmps62
      go_wp2_with (first
        | (go_at_call 83; refine co.out.mono ?_; rintro e w' ⟨rfl, rfl⟩)
        | (at_range; refine wpList_ranging _ rfl _ 83 rfl 3 3 iE Tryz.underlying3 Tryz.underlying83 b (look W) rfl hM.out ?_; intro V cnt0 hR hG hS; have R0 := Lib.hid hR; have K0 := Lib.hid ((Keeps.refl (fun _ => False) w).grown hG (fun _ h _ => by cases h)); clear hR hG hS))
      go_frame
      go_loopw [12] (fun t wr => ∃ (left : Int → Bool) (cn : Nat), t = .int .i64 (rngAt W x y left : Nat) ∧ Ranging Tryz.prog 3 iE wr b w.heap.size (look W) left cn ∧ Keeps (fun _ => False) w wr) (fun _ wr => wr.rangeLeft b w.heap.size)
      case atStart => exact ⟨_, cnt0, by rw [rngAt_start]; rfl, R0.out, K0.out⟩
      case round =>
        obtain ⟨left, cn, rfl, hR, hK⟩ := hrel
        have R1 := Lib.hid hR
        have K1 := Lib.hid hK
        have hle := rngAt_le W x y left
        clear hR hK
        go_wp2_with (first
          | (at_next; refine wpList_next_ranging _ rfl _ rfl 3 iE Tryz.underlying3 b w.heap.size (look W) left cn rfl R1.out ?_ ?_))
        · intro hDone
          have d1 := Lib.hid (rngAt_done (W := W) (a := x) (b := y) hDone)
          clear hDone
          go_wp2
          go_ret2
          exact ⟨_, 0, by rw [d1.out]; rfl, .inl ⟨rfl, rfl, rfl⟩, K1.out⟩
        · intro q v w1 cnt1 hwx hlx hfx hR1 hlt hg1 hs1 hen
          have hen2 : (Instr.entry (.pointer (some ⟨w.heap.size, 0, none⟩))).run Tryz.prog w1 = .ok (.tuple #[.int .i64 q, .int .i64 v]) w1 := hen
          have R2 := Lib.hid hR1
          have K2 := Lib.hid (K1.out.grown hg1 (fun k hk hlt => by injection hk with hk; omega))
          have hlt' := Lib.hid hlt
          have st1 := Lib.hid (rngAt_step (a := x) (b := y) hU.out (show (look W q).isSome = true by rw [hfx]; rfl) hlx)
          clear hwx hlx hfx hR1 hlt hg1 hs1 hen
          generalize hdd : rngAt W x y left = d at *
          have hdd' := Lib.hid hdd
          have hd : (d : Int) ≤ 100 := by omega
          clear hdd
          by_cases h1 : x ≤ q
          · by_cases h2 : q ≤ y
            · have h3 : x ≤ q ∧ q ≤ y := ⟨h1, h2⟩
              have h3' := Lib.hid h3
              clear h3
              go_wp2
              go_roundw
              case rel => exact ⟨_, cnt1, by rw [st1.out, if_pos h3'.out]; go_num, R2.out, K2.out⟩
              case measure => rw [R2.out.left_eq, R1.out.left_eq]; exact hlt'.out
            · have h3' := Lib.hid (show ¬ (x ≤ q ∧ q ≤ y) from fun h => h2 h.2)
              go_wp2
              go_roundw
              case rel => exact ⟨_, cnt1, by rw [st1.out, if_neg h3'.out]; rfl, R2.out, K2.out⟩
              case measure => rw [R2.out.left_eq, R1.out.left_eq]; exact hlt'.out
          · have h3' := Lib.hid (show ¬ (x ≤ q ∧ q ≤ y) from fun h => h1 h.1)
            go_wp2
            go_roundw
            case rel => exact ⟨_, cnt1, by rw [st1.out, if_neg h3'.out]; rfl, R2.out, K2.out⟩
            case measure => rw [R2.out.left_eq, R1.out.left_eq]; exact hlt'.out
    · have e1 : mRange A c x y = (0, 17) := by unfold mRange; rw [if_pos hc, if_neg hk]
      rw [e1]
      have co := Lib.hid (ordered_kind h hc hk)
      clear h hk hc e1
      go_enter Tryz.func62, Tryz.ntmps62
      go_wp2_with (go_at_call 83; refine co.out.mono ?_; rintro e w' ⟨rfl, rfl⟩)
      go_ret2
      exact ⟨_, 0, rfl, .inr (.inl ⟨by decide, by decide, rfl, rfl⟩), Keeps.refl _ _⟩
  · have e1 : mRange A c x y = (0, 3) := by unfold mRange; rw [if_neg hc]
    rw [e1]
    have co := Lib.hid (ordered_not h hc)
    clear h hc e1
    go_enter Tryz.func62, Tryz.ntmps62
    go_wp2_with (go_at_call 83; refine co.out.mono ?_; rintro e w2 ⟨p, rfl, hE, hK⟩; have E2 := Lib.hid hE; have K2 := Lib.hid hK; clear hE hK)
    go_ret2
    exact ⟨_, _, rfl, E2.out, K2.out⟩
end
end Go.Proofs.YthidipigpfcbbaaGreatDoor
