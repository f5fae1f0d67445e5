/-
  Blocks of several sizes, some of them freed at once: what always holds; Alloc, Free, Store, Load by contract on such blocks; which words have been filled.
-/
import Derived.Test.YtaamenhfngjobaaDoorBkLive
namespace Go.Proofs.YtaamenhfngjobaaDoor
open Go.RowKit Go.Extern.Stop Go.Stop Go.Extern

theorem on_600 (w : World) : Calls Tryd.prog 7 #[.int .i64 600, .int .i64 0] w fun e w' => OnIt w 600 0 e w' := on_bk 600 0 (by decide) (by decide) (by decide) w

/-- What always holds: L are the live blocks, in the order in which they were given out. -/
structure Apart (g t : Nat) (st : St) (L : List Blk) : Prop where
  gens : ∀ B ∈ st.bs, B.gen ≤ g
  topb : st.top ≤ 9 * t
  mem : ∀ B ∈ L, B ∈ st.bs ∧ B.live = true ∧ B.size ≤ 8
  nodup : L.Nodup
  len : L.length = liveN st.bs

theorem Apart.start : Apart 0 0 (St.start 0) [] :=
  ⟨(fun B hB => by cases hB), Nat.le_refl _, (fun B hB => by cases hB), List.nodup_nil, rfl⟩

theorem Apart.pop {g t N : Nat} {st : St} {L : List Blk} (h : Apart g t st L) (hok : st.Ok N) {B : Blk} (hB : B ∈ st.bs) (hl : B.live = false) (hs : B.size ≤ 8) {l : List Nat} : Apart g (t + 1) (st.pop B l) (L ++ [{ B with live := true }]) := by
  have hsum : liveN (st.pop B l).bs = liveN st.bs + 1 := by
    have := sum_setBlk (B' := { B with live := true }) liveOne hok.order hB rfl
    have e1 : liveOne B = 0 := by unfold liveOne; rw [hl]; rfl
    have e2 : liveOne { B with live := true } = 1 := rfl
    show ((setBlk st.bs { B with live := true }).map liveOne).sum = (st.bs.map liveOne).sum + 1
    omega
  have hne : ∀ C ∈ L, C.place ≠ B.place := fun C hC e => by
    have := (h.mem C hC).2.1
    rw [order_inj hok (h.mem C hC).1 hB e, hl] at this
    cases this
  refine ⟨fun C hC => ?_, ?_, fun C hC => ?_, ?_, ?_⟩
  · rcases mem_setBlk hC with rfl | ⟨hC, _⟩
    · exact h.gens B hB
    · exact h.gens C hC
  · have := h.topb
    show st.top ≤ _
    omega
  · rcases List.mem_append.1 hC with hC | hC
    · obtain ⟨h1, h2, h3⟩ := h.mem C hC
      exact ⟨mem_setBlk_of h1 (hne C hC), h2, h3⟩
    · rw [List.mem_singleton.1 hC]
      exact ⟨mem_setBlk_self (B := { B with live := true }) hB rfl, rfl, hs⟩
  · refine List.nodup_append.2 ⟨h.nodup, List.pairwise_singleton _ _, fun C hC D hD e => ?_⟩
    rw [List.mem_singleton.1 hD] at e
    exact hne C hC (by rw [e])
  · rw [hsum, List.length_append, h.len]
    rfl

theorem Apart.fresh {g t N n : Nat} {st : St} {L : List Blk} (h : Apart g t st L) (hok : st.Ok N) (hn : n ≤ 8) : Apart g (t + 1) (st.fresh n) (L ++ [⟨st.top, n, 0, true⟩]) := by
  have hsum : liveN (st.fresh n).bs = liveN st.bs + 1 := by
    show ((st.bs ++ ([⟨st.top, n, 0, true⟩] : List Blk)).map liveOne).sum = (st.bs.map liveOne).sum + 1
    rw [List.map_append, List.sum_append]
    rfl
  refine ⟨fun C hC => ?_, ?_, fun C hC => ?_, ?_, ?_⟩
  · rcases List.mem_append.1 (show C ∈ st.bs ++ ([⟨st.top, n, 0, true⟩] : List Blk) from hC) with hC | hC
    · exact h.gens C hC
    · rw [List.mem_singleton.1 hC]
      exact Nat.zero_le _
  · have := h.topb
    show st.top + 1 + n ≤ _
    omega
  · rcases List.mem_append.1 hC with hC | hC
    · obtain ⟨h1, h2, h3⟩ := h.mem C hC
      exact ⟨List.mem_append_left _ h1, h2, h3⟩
    · rw [List.mem_singleton.1 hC]
      exact ⟨List.mem_append_right _ (List.mem_singleton.2 rfl), rfl, hn⟩
  · refine List.nodup_append.2 ⟨h.nodup, List.pairwise_singleton _ _, fun C hC D hD e => ?_⟩
    rw [List.mem_singleton.1 hD] at e
    have := (hok.fits C (h.mem C hC).1).2.2.1
    have e2 : C.place = st.top := by rw [e]
    omega
  · rw [hsum, List.length_append, h.len]
    rfl

theorem Apart.back {g t N : Nat} {st : St} {L : List Blk} {B : Blk} (h : Apart g t st (L ++ [B])) (hok : st.Ok N) : Apart (g + 1) t (st.back B) L := by
  obtain ⟨hB, hl, _⟩ := h.mem B (List.mem_append_right _ (List.mem_singleton.2 rfl))
  have hsum : liveN (st.back B).bs + 1 = liveN st.bs := by
    have := sum_setBlk (B' := { B with live := false, gen := B.gen + 1 }) liveOne hok.order hB rfl
    have e1 : liveOne B = 1 := by unfold liveOne; rw [hl]; rfl
    have e2 : liveOne { B with live := false, gen := B.gen + 1 } = 0 := rfl
    show ((setBlk st.bs { B with live := false, gen := B.gen + 1 }).map liveOne).sum + 1 = (st.bs.map liveOne).sum
    omega
  obtain ⟨n1, _, n3⟩ := List.nodup_append.1 h.nodup
  refine ⟨fun C hC => ?_, h.topb, fun C hC => ?_, n1, ?_⟩
  · rcases mem_setBlk hC with rfl | ⟨hC, _⟩
    · have := h.gens B hB
      show B.gen + 1 ≤ g + 1
      omega
    · have := h.gens C hC
      omega
  · obtain ⟨h1, h2, h3⟩ := h.mem C (List.mem_append_left _ hC)
    exact ⟨mem_setBlk_of h1 fun e => n3 C hC B (List.mem_singleton.2 rfl) (order_inj hok h1 hB e), h2, h3⟩
  · have := h.len
    rw [List.length_append, List.length_singleton] at this
    omega

/-- Two words of live blocks at one place are one word. -/
theorem Apart.words {g t N : Nat} {st : St} {L : List Blk} (h : Apart g t st L) (hok : st.Ok N) {B C : Blk} (hB : B ∈ L) (hC : C ∈ L) {i j : Nat} (hi : i < B.size) (hj : j < C.size) (e : B.place + 1 + i = C.place + 1 + j) : B = C ∧ i = j := by
  have hBC : B = C := by
    have ho := hok.order
    have h1 := (h.mem B hB).1
    have h2 := (h.mem C hC).1
    generalize st.bs = l at ho h1 h2
    induction l with
    | nil => cases h1
    | cons D r ih =>
      obtain ⟨p1, p2⟩ := List.pairwise_cons.1 ho
      rcases List.mem_cons.1 h1 with rfl | h1' <;> rcases List.mem_cons.1 h2 with rfl | h2'
      · rfl
      · have := p1 _ h2'; omega
      · have := p1 _ h1'; omega
      · exact ih p2 h1' h2'
  subst hBC
  exact ⟨rfl, by omega⟩

/-- The words that are filled: all of the first k blocks, and i of the next one. -/
def Filled (ws : List Int) (L : List Blk) (k i : Nat) : Prop :=
  ∀ (q : Nat) (B : Blk), L[q]? = some B → ∀ j, j < B.size → (q < k ∨ (q = k ∧ j < i)) → ws.getD (B.place + 1 + j) 0 = 100 * (q : Int) + j + 1

theorem Filled.start (ws : List Int) (L : List Blk) : Filled ws L 0 0 := fun q B _ j _ h => by omega
theorem Filled.row {ws : List Int} {L : List Blk} {k : Nat} {B : Blk} (h : Filled ws L k B.size) (hB : L[k]? = some B) : Filled ws L (k + 1) 0 := fun q C hC j hj hq => by
  refine h q C hC j hj ?_
  by_cases e : q = k
  · subst e
    rw [hB] at hC
    injection hC with hC
    subst hC
    exact .inr ⟨rfl, hj⟩
  · left; omega

theorem nodup_at {α : Type} : ∀ {l : List α}, l.Nodup → ∀ {i j : Nat} {x : α}, l[i]? = some x → l[j]? = some x → i = j
  | [], _, i, j, x, h, _ => by simp at h
  | y :: r, hn, i, j, x, h, h' => by
    obtain ⟨h1, h2⟩ := List.nodup_cons.1 hn
    cases i with
    | zero =>
      cases j with
      | zero => rfl
      | succ j =>
        simp at h h'
        subst h
        exact absurd (List.mem_of_getElem? h') h1
    | succ i =>
      cases j with
      | zero =>
        simp at h h'
        subst h'
        exact absurd (List.mem_of_getElem? h) h1
      | succ j =>
        simp at h h'
        rw [nodup_at h2 h h']

theorem Filled.step {g t N : Nat} {st : St} {L : List Blk} {ws : List Int} {k i : Nat} {B : Blk} (hA : Apart g t st L) (hok : st.Ok N) (hN : ws.length = N) (h : Filled ws L k i) (hB : L[k]? = some B) (hi : i < B.size) (x : Int) (hx : x = 100 * (k : Int) + i + 1) : Filled (ws.set (B.place + 1 + i) x) L k (i + 1) := by
  intro q C hC j hj hq
  have hBm := List.mem_of_getElem? hB
  have hCm := List.mem_of_getElem? hC
  have hr := (hok.fits B (hA.mem B hBm).1).2.2.1
  have hr2 := hok.room
  rw [getD_set]
  by_cases e : B.place + 1 + i = C.place + 1 + j
  · obtain ⟨rfl, rfl⟩ := hA.words hok hBm hCm hi hj e
    have hqk : q = k := nodup_at hA.nodup hC hB
    subst hqk
    rw [if_pos ⟨rfl, by omega⟩, hx]
  · rw [if_neg (fun h => e h.1)]
    refine h q C hC j hj ?_
    rcases hq with hq | ⟨rfl, hq⟩
    · exact .inl hq
    · refine .inr ⟨rfl, ?_⟩
      by_cases hji : j = i
      · subst hji
        rw [hB] at hC
        injection hC with hC
        subst hC
        exact absurd rfl e
      · omega

section
variable {w : World} {b g t cnt : Nat} {ws : List Int} {st : St} {L : List Blk} {X : Nat → Prop}

theorem apart_alloc {n : Nat} (h : Bk w b ws cnt st X) (hA : Apart g t st L) (hn : 1 ≤ n ∧ n ≤ 8) (ht : t < 30) (hws : ws.length = 600) (hcnt : cnt ≤ 10000) :
    Calls Tryd.prog 9 #[.pointer (some ⟨b, 0, none⟩), .int .i64 n] w fun e w' => ∃ (B : Blk) (ws' : List Int) (st' : St), e = .returned (.tuple #[.int .u64 (B.ref : Int), .nilIface]) ∧ Bk w' b ws' (cnt + n + 1) st' X ∧ Apart g (t + 1) st' (L ++ [B]) ∧ B.size = n ∧ ws'.length = 600 ∧ Keeps X w w' := by
  obtain ⟨hok, hN⟩ := h.ok
  rcases List.eq_nil_or_concat (st.fr n) with hfr | ⟨l, p, hfr⟩
  · have htop := hA.topb
    refine (alloc_new h n ⟨hn.1, by omega⟩ hfr (by omega) (by omega)).mono ?_
    rintro e w' ⟨rfl, ⟨ws', hZ, hB⟩, hK⟩
    refine ⟨⟨st.top, n, 0, true⟩, ws', _, ?_, hB, hA.fresh hok hn.2, rfl, hZ.1.trans hws, hK⟩
    have : (⟨st.top, n, 0, true⟩ : Blk).ref = st.top := by
      show 0 * 4294967296 + st.top = st.top
      omega
    rw [this]
  · rw [List.concat_eq_append] at hfr
    obtain ⟨B, hB, e1, e2, e3, e4⟩ := hok.free n p (by rw [hfr]; exact List.mem_append_right _ (List.mem_singleton.2 rfl))
    subst e1
    refine (alloc_pop h n ⟨hn.1, by omega⟩ B hB e2 e3 e4 l hfr (by omega)).mono ?_
    rintro e w' ⟨rfl, ⟨ws', hZ, hBk⟩, hK⟩
    exact ⟨{ B with live := true }, ws', _, rfl, hBk, hA.pop hok hB e3 (by omega), e2, hZ.1.trans hws, hK⟩

theorem ref_small {N : Nat} (hok : st.Ok N) (hN : N ≤ 16384) {B : Blk} (hB : B ∈ st.bs) (hg : B.gen ≤ 1000) : B.ref < 18446744073709551616 := by
  have h1 := (hok.fits B hB).2.2.1
  have h2 := hok.room
  unfold Blk.ref
  omega

theorem apart_free {B : Blk} (h : Bk w b ws cnt st X) (hA : Apart g t st (L ++ [B])) (hg : g ≤ 1000) (hws : ws.length = 600) (hcnt : cnt ≤ 10000) :
    Calls Tryd.prog 11 #[.pointer (some ⟨b, 0, none⟩), .int .u64 (B.ref : Int)] w fun e w' => ∃ (ws' : List Int) (st' : St) (X' : Nat → Prop), e = .returned .nilIface ∧ Bk w' b ws' (cnt + 1) st' X' ∧ Apart (g + 1) t st' L ∧ ws'.length = 600 ∧ (∀ x, X' x → X x ∨ w.heap.size ≤ x) ∧ Keeps X w w' := by
  obtain ⟨hok, hN⟩ := h.ok
  obtain ⟨hB, hl, _⟩ := hA.mem B (List.mem_append_right _ (List.mem_singleton.2 rfl))
  have hgn := hA.gens B hB
  refine (free_hit h B.ref (ref_small hok hN hB (by omega)) B (St.get_of hok hB hl hN) (by omega) (by omega)).mono ?_
  rintro e w' ⟨rfl, ⟨X', hd, hBk, hX⟩, hK⟩
  exact ⟨_, _, X', rfl, hBk, hA.back hok, (List.length_set ..).trans hws, hX, hK⟩

theorem apart_store {B : Blk} {i : Nat} (h : Bk w b ws cnt st X) (hA : Apart g t st L) (hB : B ∈ L) (hi : i < B.size) (hg : g ≤ 1000) (hcnt : cnt ≤ 10000) (x : Int) :
    Calls Tryd.prog 12 #[.pointer (some ⟨b, 0, none⟩), .int .u64 (B.ref : Int), .int .i64 i, .int .u64 x] w fun e w' => Did w b (ws.set (B.place + 1 + i) x) (cnt + 1) st X .nilIface e w' := by
  obtain ⟨hok, hN⟩ := h.ok
  obtain ⟨hm, hl, _⟩ := hA.mem B hB
  have hgn := hA.gens B hm
  exact bk_store B.ref (ref_small hok hN hm (by omega)) B (St.get_of hok hm hl hN) i hi x (by omega) w h

theorem apart_load {B : Blk} {i : Nat} (h : Bk w b ws cnt st X) (hA : Apart g t st L) (hB : B ∈ L) (hi : i < B.size) (hg : g ≤ 1000) (hcnt : cnt ≤ 10000) :
    Calls Tryd.prog 13 #[.pointer (some ⟨b, 0, none⟩), .int .u64 (B.ref : Int), .int .i64 i] w fun e w' => Did w b ws (cnt + 1) st X (.tuple #[.int .u64 (ws.getD (B.place + 1 + i) 0), .nilIface]) e w' := by
  obtain ⟨hok, hN⟩ := h.ok
  obtain ⟨hm, hl, _⟩ := hA.mem B hB
  have hgn := hA.gens B hm
  exact bk_load B.ref (ref_small hok hN hm (by omega)) B (St.get_of hok hm hl hN) i hi (by omega) w h
end

def refsOf (L : List Blk) : List Value := L.map fun B => Value.int .u64 (B.ref : Int)
def sizesOf (L : List Blk) : List Value := L.map fun B => Value.int .i64 (B.size : Int)
theorem refsOf_len (L : List Blk) : (refsOf L).length = L.length := by simp [refsOf]
theorem sizesOf_len (L : List Blk) : (sizesOf L).length = L.length := by simp [sizesOf]
theorem refsOf_snoc (L : List Blk) (B : Blk) : refsOf L ++ [Value.int .u64 (B.ref : Int)] = refsOf (L ++ [B]) := by simp [refsOf]
theorem sizesOf_snoc (L : List Blk) (B : Blk) : sizesOf L ++ [Value.int .i64 (B.size : Int)] = sizesOf (L ++ [B]) := by simp [sizesOf]

/-- The last element is taken off. -/
theorem Mine.init {w0 w : World} {X : Nat → Prop} {e : TypeId} {g c : Nat} {xs : List Value} {y : Value} (h : Mine w0 w X e (.slice (some ⟨g, 0, none⟩) (xs.length + 1) c) (xs ++ [y])) : Mine w0 w X e (.slice (some ⟨g, 0, none⟩) xs.length c) xs ∧ xs.length + 1 ≤ c ∧ c ≤ maxLen := by
  obtain ⟨⟨h1, h2⟩, h3⟩ := h
  rcases h2 with ⟨hv, _⟩ | ⟨g', cap, cur, hv, hb, hg, hnc, hcm, hcs, ht⟩
  · cases hv
  · injection hv with e1 e2 e3
    subst e3
    injection e1 with e1
    injection e1 with e1
    subst e1
    rw [List.length_append, List.length_singleton] at hnc ht
    refine ⟨⟨⟨by omega, .inr ⟨g, c, cur, rfl, hb, hg, by omega, hcm, hcs, ?_⟩⟩, fun q hq => h3 q hq⟩, by omega, hcm⟩
    have := congrArg (List.take xs.length) ht
    rw [List.take_take, List.take_left'] at this
    · rw [Nat.min_eq_left (by omega)] at this
      rw [Nat.mul_one]
      exact this
    · rfl

theorem Mine.at_ {w0 w : World} {X : Nat → Prop} {e : TypeId} {g n c : Nat} {xs : List Value} (h : Mine w0 w X e (.slice (some ⟨g, 0, none⟩) n c) xs) (j : Nat) (hj : j < xs.length) : w.cell? ⟨g, j, none⟩ = xs[j]? := by
  rcases h.1.2 with ⟨h', _⟩ | ⟨g', cap, cur, hv, _, hg, _, _, _, ht⟩
  · cases h'
  · injection hv with e1 e2 e3
    injection e1 with e1
    injection e1 with e1
    subst e1
    rw [cell_of_row w g j cur e (0, 0) hg]
    have := congrArg (fun q => q[j]?) ht
    simp only [List.getElem?_take] at this
    rw [if_pos (by omega)] at this
    rw [← this]
    simp
end Go.Proofs.YtaamenhfngjobaaDoor
