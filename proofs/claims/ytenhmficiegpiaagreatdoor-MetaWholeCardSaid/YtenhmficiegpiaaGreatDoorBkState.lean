/-
  Blocks of an arena, as a plain state: the blocks by rising places (place, size, generation, live), the places that were freed by sizes, the top; what a map's elements are (a block's three fields; a slice of places). Of no program.
-/
import Derived.Test.YtenhmficiegpiaaGreatDoorBkMap
import Derived.Laws.AppendOwn
namespace Go.Proofs.YtenhmficiegpiaaGreatDoor
open Go.Maps Go.RowKit

/-! ### elements of the two maps -/
structure BV where
  size : Int
  gen : Int
  live : Bool

def bvVal (v : BV) : Value := .agg #[.int .i64 v.size, .int .u32 v.gen, .bool v.live]
def bvDat (v : BV) : DataW Unit := .agg [.lit (.int .i64 v.size), .lit (.int .u32 v.gen), .lit (.bool v.live)]
def bvR : Value → Option (DataW Unit × List MemPlace)
  | .agg ⟨[.int .i64 s, .int .u32 g, .bool l]⟩ => some (bvDat ⟨s, g, l⟩, [])
  | _ => none
def bvE : Enc BV where
  val := bvVal
  dat := bvDat
  R := bvR
  ok := fun _ => rfl
  inv := fun x y h => by
    unfold bvR at h
    split at h
    · cases h
      exact ⟨⟨_, _, _⟩, rfl, rfl⟩
    · cases h
  inj := fun u v h => by
    obtain ⟨a, b, c⟩ := u
    obtain ⟨a', b', c'⟩ := v
    simp [bvDat] at h
    obtain ⟨rfl, rfl, rfl⟩ := h
    rfl

abbrev RowV := Option (Nat × Nat × Nat)
def rowVal : RowV → Value
  | none => .slice none 0 0
  | some (g, n, c) => .slice (some ⟨g, 0, none⟩) n c
def rowDat : RowV → DataW Unit
  | none => .nil
  | some (g, n, c) => .agg [.lit (.int .i64 g), .lit (.int .i64 n), .lit (.int .i64 c)]
def rowR : Value → Option (DataW Unit × List MemPlace)
  | .slice none 0 0 => some (rowDat none, [])
  | .slice (some ⟨g, 0, none⟩) n c => some (rowDat (some (g, n, c)), [])
  | _ => none
def rowE : Enc RowV where
  val := rowVal
  dat := rowDat
  R := rowR
  ok := fun v => by
    rcases v with _ | ⟨g, n, c⟩ <;> rfl
  inv := fun x y h => by
    unfold rowR at h
    split at h
    · cases h
      exact ⟨none, rfl, rfl⟩
    · cases h
      exact ⟨some (_, _, _), rfl, rfl⟩
    · cases h
  inj := fun u v h => by
    rcases u with _ | ⟨g, n, c⟩ <;> rcases v with _ | ⟨g', n', c'⟩ <;> simp [rowDat] at h
    · rfl
    · obtain ⟨h1, h2, h3⟩ := h
      have e1 : g = g' := by omega
      have e2 : n = n' := by omega
      have e3 : c = c' := by omega
      rw [e1, e2, e3]

/-! ### the state -/
structure Blk where
  place : Nat
  size : Nat
  gen : Nat
  live : Bool

def Blk.bv (B : Blk) : BV := ⟨B.size, B.gen, B.live⟩

structure St where
  bs : List Blk
  fr : Nat → List Nat
  top : Nat

def St.at (s : St) (p : Nat) : Option Blk := s.bs.find? fun B => B.place == p

/-- What the map of all blocks has at a place. -/
def allF (s : St) : Int → Option BV := fun k => if 0 ≤ k then (s.at k.toNat).map Blk.bv else none

/-- The block of a good ref. -/
def St.get (s : St) (ref : Nat) : Option Blk :=
  match s.at (ref % 4294967296) with
  | some B => if B.live = true ∧ B.gen = ref / 4294967296 then some B else none
  | none => none

def Blk.ref (B : Blk) : Nat := B.gen * 4294967296 + B.place

/-- A block with its place is made another one. -/
def setBlk (bs : List Blk) (B : Blk) : List Blk := bs.map fun C => if C.place = B.place then B else C

/-- What always holds of a state on an arena of n words. -/
structure St.Ok (s : St) (n : Nat) : Prop where
  room : s.top ≤ n
  order : s.bs.Pairwise fun B C => B.place + 1 + B.size ≤ C.place
  fits : ∀ B ∈ s.bs, 1 ≤ B.size ∧ B.size ≤ 64 ∧ B.place + 1 + B.size ≤ s.top ∧ B.gen ≤ 4294967295 ∧ (B.live = true → B.gen < 4294967295)
  free : ∀ m p, p ∈ s.fr m → ∃ B ∈ s.bs, B.place = p ∧ B.size = m ∧ B.live = false ∧ B.gen < 4294967295
  once : ∀ m, (s.fr m).Nodup

theorem St.at_some {s : St} {p : Nat} {B : Blk} (h : s.at p = some B) : B ∈ s.bs ∧ B.place = p :=
  ⟨List.mem_of_find?_eq_some h, by simpa using List.find?_some h⟩

theorem order_inj {n : Nat} {s : St} (h : s.Ok n) {B C : Blk} (hB : B ∈ s.bs) (hC : C ∈ s.bs) (e : B.place = C.place) : B = C := by
  have ho := h.order
  generalize s.bs = l at ho hB hC
  induction l with
  | nil => cases hB
  | cons D r ih =>
    obtain ⟨h1, h2⟩ := List.pairwise_cons.1 ho
    rcases List.mem_cons.1 hB with rfl | hB' <;> rcases List.mem_cons.1 hC with rfl | hC'
    · rfl
    · have := h1 _ hC'; omega
    · have := h1 _ hB'; omega
    · exact ih h2 hB' hC'

theorem St.at_mem {n : Nat} {s : St} (h : s.Ok n) {B : Blk} (hB : B ∈ s.bs) : s.at B.place = some B := by
  cases hf : s.at B.place with
  | none =>
    have := List.find?_eq_none.1 hf B hB
    simp at this
  | some C =>
    obtain ⟨h1, h2⟩ := St.at_some hf
    rw [order_inj h h1 hB h2]

theorem St.get_some {s : St} {ref : Nat} {B : Blk} (h : s.get ref = some B) : B ∈ s.bs ∧ B.place = ref % 4294967296 ∧ B.live = true ∧ B.gen = ref / 4294967296 := by
  unfold St.get at h
  split at h
  · rename_i C hC
    split at h
    · rename_i hc
      cases h
      obtain ⟨h1, h2⟩ := St.at_some hC
      exact ⟨h1, h2, hc.1, hc.2⟩
    · cases h
  · cases h

theorem St.get_of {n : Nat} {s : St} (h : s.Ok n) {B : Blk} (hB : B ∈ s.bs) (hl : B.live = true) (hn : n ≤ 16384) : s.get B.ref = some B := by
  have hp := (h.fits B hB).2.2.1
  have hr := h.room
  have e1 : B.ref % 4294967296 = B.place := by unfold Blk.ref; omega
  have e2 : B.ref / 4294967296 = B.gen := by unfold Blk.ref; omega
  unfold St.get
  rw [e1, St.at_mem h hB, e2]
  simp [hl]

theorem find_setBlk {bs : List Blk} {B : Blk} (hB : ∃ C ∈ bs, C.place = B.place) (p : Nat) : (setBlk bs B).find? (fun C => C.place == p) = if p = B.place then some B else bs.find? (fun C => C.place == p) := by
  induction bs with
  | nil => obtain ⟨_, h, _⟩ := hB; cases h
  | cons D r ih =>
    show List.find? _ ((if D.place = B.place then B else D) :: setBlk r B) = _
    by_cases hD : D.place = B.place
    · rw [if_pos hD]
      by_cases hp : p = B.place
      · subst hp
        simp
      · have h1 : (B.place == p) = false := by simpa using fun e => hp e.symm
        have h2 : (D.place == p) = false := by rw [hD]; exact h1
        rw [List.find?_cons_of_neg (by simp [h1]), List.find?_cons_of_neg (by simp [h2]), if_neg hp]
        by_cases hr : ∃ C ∈ r, C.place = B.place
        · rw [ih hr, if_neg hp]
        · have : setBlk r B = r := by
            unfold setBlk
            refine (List.map_congr_left (g := id) fun C hC => ?_).trans (List.map_id r)
            rw [if_neg fun e => hr ⟨C, hC, e⟩]
            rfl
          rw [this]
    · rw [if_neg hD]
      have hr : ∃ C ∈ r, C.place = B.place := by
        obtain ⟨C, hC, e⟩ := hB
        rcases List.mem_cons.1 hC with rfl | hC
        · exact absurd e hD
        · exact ⟨C, hC, e⟩
      by_cases hp : D.place = p
      · have : p ≠ B.place := fun e => hD (hp.trans e)
        rw [if_neg this, List.find?_cons_of_pos (by simpa using hp), List.find?_cons_of_pos (by simpa using hp)]
      · rw [List.find?_cons_of_neg (by simpa using hp), List.find?_cons_of_neg (by simpa using hp), ih hr]

theorem find_snoc {bs : List Blk} {B : Blk} (hB : ∀ C ∈ bs, C.place ≠ B.place) (p : Nat) : (bs ++ [B]).find? (fun C => C.place == p) = if p = B.place then some B else bs.find? (fun C => C.place == p) := by
  rw [List.find?_append]
  by_cases hp : p = B.place
  · subst hp
    have : bs.find? (fun C => C.place == B.place) = none := List.find?_eq_none.2 fun C hC => by simpa using hB C hC
    rw [this]
    simp
  · have : (B.place == p) = false := by simpa using fun e => hp e.symm
    simp [this, hp]

theorem mem_setBlk {bs : List Blk} {B C : Blk} (h : C ∈ setBlk bs B) : C = B ∨ (C ∈ bs ∧ C.place ≠ B.place) := by
  obtain ⟨D, hD, rfl⟩ := List.mem_map.1 h
  split
  · exact .inl rfl
  · rename_i hne
    exact .inr ⟨hD, hne⟩

theorem mem_setBlk_of {bs : List Blk} {B C : Blk} (h : C ∈ bs) (hne : C.place ≠ B.place) : C ∈ setBlk bs B :=
  List.mem_map.2 ⟨C, h, if_neg hne⟩
theorem mem_setBlk_self {bs : List Blk} {B C : Blk} (h : C ∈ bs) (he : C.place = B.place) : B ∈ setBlk bs B :=
  List.mem_map.2 ⟨C, h, if_pos he⟩

theorem order_setBlk {bs : List Blk} {B : Blk} (h : bs.Pairwise fun B C => B.place + 1 + B.size ≤ C.place) (hs : ∀ C ∈ bs, C.place = B.place → C.size = B.size) : (setBlk bs B).Pairwise fun B C => B.place + 1 + B.size ≤ C.place := by
  refine List.pairwise_map.2 (h.imp_of_mem fun {C D} hC hD hCD => ?_)
  have e1 := hs C hC
  have e2 := hs D hD
  split <;> split <;> simp_all <;> omega

/-- What the map of all blocks has behind a store. -/
theorem allF_set {s : St} {B : Blk} (hB : ∃ C ∈ s.bs, C.place = B.place) (s' : St) (hs : s'.bs = setBlk s.bs B) : allF s' = upd (allF s) (B.place : Int) B.bv := by
  funext k
  unfold allF upd St.at
  rw [hs]
  by_cases hk : 0 ≤ k
  · simp only [if_pos hk, find_setBlk hB]
    by_cases e : k.toNat = B.place
    · rw [if_pos e, if_pos (by omega)]
      rfl
    · rw [if_neg e, if_neg (by omega)]
  · simp only [if_neg hk]
    rw [if_neg (by omega)]

theorem allF_snoc {s : St} {B : Blk} (hB : ∀ C ∈ s.bs, C.place ≠ B.place) (s' : St) (hs : s'.bs = s.bs ++ [B]) : allF s' = upd (allF s) (B.place : Int) B.bv := by
  funext k
  unfold allF upd St.at
  rw [hs]
  by_cases hk : 0 ≤ k
  · simp only [if_pos hk, find_snoc hB]
    by_cases e : k.toNat = B.place
    · rw [if_pos e, if_pos (by omega)]
      rfl
    · rw [if_neg e, if_neg (by omega)]
  · simp only [if_neg hk]
    rw [if_neg (by omega)]

theorem allF_at (s : St) (p : Nat) : allF s p = (s.at p).map Blk.bv := by
  unfold allF
  rw [if_pos (by omega)]
  simp

theorem allF_keys (s : St) (k : Int) (h : (allF s k).isSome = true) : k ∈ s.bs.map fun B => (B.place : Int) := by
  unfold allF at h
  split at h
  · rename_i hk
    cases hf : s.at k.toNat with
    | none => rw [hf] at h; cases h
    | some B =>
      obtain ⟨h1, h2⟩ := St.at_some hf
      exact List.mem_map.2 ⟨B, h1, by omega⟩
  · cases h

/-- There are no more blocks than words. -/
theorem bs_length {n : Nat} {s : St} (h : s.Ok n) : s.bs.length ≤ s.top := by
  have key : ∀ (l : List Blk) (t : Nat), l.Pairwise (fun B C => B.place + 1 + B.size ≤ C.place) → (∀ B ∈ l, t ≤ B.place ∧ B.place + 1 + B.size ≤ s.top) → l.length + t ≤ s.top ∨ l = [] := by
    intro l
    induction l with
    | nil => intro t _ _; exact .inr rfl
    | cons D r ih =>
      intro t hp hb
      obtain ⟨h1, h2⟩ := List.pairwise_cons.1 hp
      have hD := hb D (List.mem_cons_self ..)
      rcases ih (D.place + 1) h2 (fun B hB => ⟨by have := h1 B hB; omega, (hb B (List.mem_cons_of_mem _ hB)).2⟩) with h3 | rfl
      · left; simp only [List.length_cons]; omega
      · left; simp only [List.length_cons, List.length_nil]; omega
  rcases key s.bs 0 h.order (fun B hB => ⟨Nat.zero_le _, (h.fits B hB).2.2.1⟩) with h1 | h1
  · omega
  · rw [h1]; exact Nat.zero_le _

/-! ### how a state goes on -/
def setFr (fr : Nat → List Nat) (m : Nat) (l : List Nat) : Nat → List Nat := fun k => if k = m then l else fr k

/-- A place that was freed is given out again. -/
def St.pop (s : St) (B : Blk) (l : List Nat) : St := ⟨setBlk s.bs { B with live := true }, setFr s.fr B.size l, s.top⟩
/-- A new block is given out. -/
def St.fresh (s : St) (n : Nat) : St := ⟨s.bs ++ [⟨s.top, n, 0, true⟩], s.fr, s.top + 1 + n⟩
/-- A block is taken back. -/
def St.back (s : St) (B : Blk) : St := ⟨setBlk s.bs { B with live := false, gen := B.gen + 1 }, if B.gen + 1 = 4294967295 then s.fr else setFr s.fr B.size (s.fr B.size ++ [B.place]), s.top⟩

theorem ok_set {s : St} {n : Nat} (h : s.Ok n) {B B' : Blk} (hB : B ∈ s.bs) (hp : B'.place = B.place) (hs : B'.size = B.size) (hg : B'.gen ≤ 4294967295 ∧ (B'.live = true → B'.gen < 4294967295)) (fr : Nat → List Nat)
    (hf : ∀ m p, p ∈ fr m → (p ≠ B.place ∧ p ∈ s.fr m) ∨ (p = B.place ∧ m = B.size ∧ B'.live = false ∧ B'.gen < 4294967295)) (ho : ∀ m, (fr m).Nodup) : St.Ok ⟨setBlk s.bs B', fr, s.top⟩ n where
  room := h.room
  order := order_setBlk h.order fun C hC e => by rw [hs]; exact congrArg Blk.size (order_inj h hC hB (e.trans hp))
  fits := fun C hC => by
    rcases mem_setBlk hC with rfl | ⟨hC, _⟩
    · have := h.fits B hB
      rw [hs, hp]
      exact ⟨this.1, this.2.1, this.2.2.1, hg⟩
    · exact h.fits C hC
  free := fun m p hp' => by
    rcases hf m p hp' with ⟨hne, hm⟩ | ⟨rfl, rfl, h1, h2⟩
    · obtain ⟨C, hC, e1, e2, e3, e4⟩ := h.free m p hm
      exact ⟨C, mem_setBlk_of hC (by rw [e1, hp]; exact hne), e1, e2, e3, e4⟩
    · exact ⟨B', mem_setBlk_self hB hp.symm, hp, hs, h1, h2⟩
  once := ho

theorem fr_ne {s : St} {n : Nat} (h : s.Ok n) {B : Blk} (hB : B ∈ s.bs) (hl : B.live = true) {m p : Nat} (hp : p ∈ s.fr m) : p ≠ B.place := by
  rintro rfl
  obtain ⟨C, hC, e1, _, e3, _⟩ := h.free m _ hp
  rw [order_inj h hC hB e1, hl] at e3
  cases e3

theorem ok_pop {s : St} {n : Nat} (h : s.Ok n) {B : Blk} (hB : B ∈ s.bs) (hl : B.live = false) (hg : B.gen < 4294967295) {l : List Nat} (hfr : s.fr B.size = l ++ [B.place]) : (s.pop B l).Ok n := by
  have hnd := h.once B.size
  rw [hfr] at hnd
  have hnl : B.place ∉ l := fun hm => (List.nodup_append.1 hnd).2.2 _ hm _ (List.mem_singleton.2 rfl) rfl
  refine ok_set (B' := { B with live := true }) h hB rfl rfl ⟨by show B.gen ≤ 4294967295; omega, fun _ => hg⟩ (setFr s.fr B.size l) (fun m p hp => ?_) (fun m => ?_)
  · unfold setFr at hp
    split at hp
    · rename_i e
      subst e
      exact .inl ⟨fun e => hnl (e ▸ hp), by rw [hfr]; exact List.mem_append_left _ hp⟩
    · refine .inl ⟨?_, hp⟩
      rintro rfl
      obtain ⟨C, hC, e1, e2, _⟩ := h.free m _ hp
      have := order_inj h hC hB e1
      subst this
      exact absurd e2.symm (by assumption)
  · unfold setFr
    split
    · exact (List.nodup_append.1 hnd).1
    · exact h.once m

theorem ok_fresh {s : St} {n m : Nat} (h : s.Ok n) (hm : 1 ≤ m ∧ m ≤ 64) (hr : s.top + 1 + m ≤ n) : (s.fresh m).Ok n where
  room := hr
  order := by
    refine List.pairwise_append.2 ⟨h.order, List.pairwise_singleton _ _, fun B hB C hC => ?_⟩
    rw [List.mem_singleton.1 hC]
    exact (h.fits B hB).2.2.1
  fits := fun B hB => by
    rcases List.mem_append.1 hB with hB | hB
    · have := h.fits B hB
      refine ⟨this.1, this.2.1, ?_, this.2.2.2⟩
      show _ ≤ s.top + 1 + m
      omega
    · rw [List.mem_singleton.1 hB]
      exact ⟨hm.1, hm.2, Nat.le_refl _, by show 0 ≤ 4294967295; omega, fun _ => by show 0 < 4294967295; omega⟩
  free := fun k p hp => by
    obtain ⟨B, hB, r⟩ := h.free k p hp
    exact ⟨B, List.mem_append_left _ hB, r⟩
  once := h.once

theorem ok_back {s : St} {n : Nat} (h : s.Ok n) {B : Blk} (hB : B ∈ s.bs) (hl : B.live = true) : (s.back B).Ok n := by
  have hg := (h.fits B hB).2.2.2.2 hl
  refine ok_set (B' := { B with live := false, gen := B.gen + 1 }) h hB rfl rfl ⟨by show B.gen + 1 ≤ 4294967295; omega, fun e => by cases e⟩ (if B.gen + 1 = 4294967295 then s.fr else setFr s.fr B.size (s.fr B.size ++ [B.place])) (fun m p hp => ?_) (fun m => ?_)
  · split at hp
    · exact .inl ⟨fr_ne h hB hl hp, hp⟩
    · unfold setFr at hp
      split at hp
      · rename_i e
        subst e
        rcases List.mem_append.1 hp with hp | hp
        · exact .inl ⟨fr_ne h hB hl hp, hp⟩
        · refine .inr ⟨List.mem_singleton.1 hp, rfl, rfl, ?_⟩
          show B.gen + 1 < 4294967295
          omega
      · exact .inl ⟨fr_ne h hB hl hp, hp⟩
  · split
    · exact h.once m
    · unfold setFr
      split
      · refine List.nodup_append.2 ⟨h.once _, List.pairwise_singleton _ _, fun x hx y hy => ?_⟩
        rw [List.mem_singleton.1 hy]
        exact fr_ne h hB hl hx
      · exact h.once m

theorem ok_new {n from_ : Nat} (h : from_ ≤ n) : St.Ok ⟨[], fun _ => [], from_⟩ n where
  room := h
  order := List.Pairwise.nil
  fits := fun B hB => by cases hB
  free := fun m p hp => by cases hp
  once := fun m => List.nodup_nil
end Go.Proofs.YtenhmficiegpiaaGreatDoor
