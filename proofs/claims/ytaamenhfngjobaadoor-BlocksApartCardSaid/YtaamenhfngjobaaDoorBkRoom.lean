/-
  Blocks of one size, given out and freed from the front: what always holds (how many are live, how many were freed, the top), and Alloc and Free by contract on such blocks.
-/
import Derived.Test.YtaamenhfngjobaaDoorBkQueue
namespace Go.Proofs.YtaamenhfngjobaaDoor
open Go.RowKit Go.Extern.Stop Go.Stop Go.Extern

def liveOne (B : Blk) : Nat := if B.live then 1 else 0
def liveN (bs : List Blk) : Nat := (bs.map liveOne).sum

theorem sum_setBlk {bs : List Blk} (h : Blk → Nat) {B B' : Blk} (ho : bs.Pairwise fun B C => B.place + 1 + B.size ≤ C.place) (hB : B ∈ bs) (hp : B'.place = B.place) : ((setBlk bs B').map h).sum + h B = (bs.map h).sum + h B' := by
  induction bs with
  | nil => cases hB
  | cons D r ih =>
    obtain ⟨h1, h2⟩ := List.pairwise_cons.1 ho
    show (((if D.place = B'.place then B' else D) :: setBlk r B').map h).sum + h B = _
    by_cases hD : D.place = B'.place
    · have hr : ∀ C ∈ r, C.place ≠ B'.place := fun C hC e => by have := h1 C hC; omega
      have hDB : B = D := by
        rcases List.mem_cons.1 hB with e | hm
        · exact e
        · exact absurd hp.symm (hr B hm)
      subst hDB
      have : setBlk r B' = r := by
        unfold setBlk
        refine (List.map_congr_left (g := id) fun C hC => ?_).trans (List.map_id r)
        rw [if_neg (hr C hC)]
        rfl
      rw [this, if_pos hD]
      simp only [List.map_cons, List.sum_cons]
      omega
    · have hm : B ∈ r := by
        rcases List.mem_cons.1 hB with e | hm
        · exact absurd (by rw [← e]; exact hp.symm) hD
        · exact hm
      have := ih h2 hm
      rw [if_neg hD]
      simp only [List.map_cons, List.sum_cons]
      omega

/-- What always holds behind t rounds: refs are the live blocks', in the order in which they were given out. -/
structure Rooms (n t : Nat) (st : St) (refs : List Nat) : Prop where
  sizes : ∀ B ∈ st.bs, B.size = n ∧ B.gen ≤ t
  top : st.top = st.bs.length * (n + 1)
  few : st.bs.length ≤ t
  count : liveN st.bs + (st.fr n).length = st.bs.length
  len : refs.length = liveN st.bs
  good : ∀ r ∈ refs, ∃ B ∈ st.bs, B.live = true ∧ r = B.ref
  nodup : refs.Nodup

theorem Rooms.start (n : Nat) : Rooms n 0 (St.start 0) [] :=
  ⟨(fun B hB => by cases hB), (by show 0 = 0 * (n + 1); omega), Nat.le_refl _, rfl, rfl, (fun r hr => by cases hr), List.nodup_nil⟩

theorem Rooms.later {n t : Nat} {st : St} {refs : List Nat} (h : Rooms n t st refs) : Rooms n (t + 1) st refs :=
  ⟨fun B hB => ⟨(h.sizes B hB).1, by have := (h.sizes B hB).2; omega⟩, h.top, by have := h.few; omega, h.count, h.len, h.good, h.nodup⟩

theorem ref_inj {N : Nat} {st : St} (hok : st.Ok N) (hN : N ≤ 16384) {B C : Blk} (hB : B ∈ st.bs) (hC : C ∈ st.bs) (e : B.ref = C.ref) : B = C := by
  refine order_inj hok hB hC ?_
  have h1 := (hok.fits B hB).2.2.1
  have h2 := (hok.fits C hC).2.2.1
  have h3 := hok.room
  unfold Blk.ref at e
  omega

theorem Rooms.pop {n t N : Nat} {st : St} {refs : List Nat} (h : Rooms n t st refs) (hok : st.Ok N) (hN : N ≤ 16384) {B : Blk} (hB : B ∈ st.bs) (hl : B.live = false) {l : List Nat} (hfr : st.fr n = l ++ [B.place]) : Rooms n (t + 1) (st.pop B l) (refs ++ [B.ref]) := by
  have hs := (h.sizes B hB).1
  have hsum : liveN (st.pop B l).bs = liveN st.bs + 1 := by
    have := sum_setBlk (B' := { B with live := true }) liveOne hok.order hB rfl
    have e1 : liveOne B = 0 := by unfold liveOne; rw [hl]; rfl
    have e2 : liveOne { B with live := true } = 1 := rfl
    show ((setBlk st.bs { B with live := true }).map liveOne).sum = (st.bs.map liveOne).sum + 1
    omega
  have hlen : (st.pop B l).bs.length = st.bs.length := List.length_map ..
  refine ⟨fun C hC => ?_, ?_, ?_, ?_, ?_, ?_, ?_⟩
  · rcases mem_setBlk hC with rfl | ⟨hC, _⟩
    · exact ⟨hs, by have := (h.sizes B hB).2; show B.gen ≤ t + 1; omega⟩
    · exact ⟨(h.sizes C hC).1, by have := (h.sizes C hC).2; omega⟩
  · rw [hlen]; exact h.top
  · rw [hlen]; have := h.few; omega
  · rw [hsum, hlen]
    have hc := h.count
    rw [hfr, List.length_append] at hc
    have hf : (st.pop B l).fr n = l := by
      show setFr st.fr B.size l n = l
      unfold setFr
      rw [if_pos hs.symm]
    rw [hf]
    simp at hc
    omega
  · rw [hsum, List.length_append, h.len]
    rfl
  · intro r hr
    rcases List.mem_append.1 hr with hr | hr
    · obtain ⟨C, hC, hcl, rfl⟩ := h.good r hr
      refine ⟨C, mem_setBlk_of hC fun e => ?_, hcl, rfl⟩
      rw [order_inj hok hC hB e, hl] at hcl
      cases hcl
    · exact ⟨_, mem_setBlk_self (B := { B with live := true }) hB rfl, rfl, List.mem_singleton.1 hr⟩
  · refine List.nodup_append.2 ⟨h.nodup, List.pairwise_singleton _ _, fun r hr q hq e => ?_⟩
    rw [List.mem_singleton.1 hq] at e
    obtain ⟨C, hC, hcl, rfl⟩ := h.good r hr
    rw [ref_inj hok hN hC hB e, hl] at hcl
    cases hcl

theorem Rooms.fresh {n t N : Nat} {st : St} {refs : List Nat} (h : Rooms n t st refs) (hok : st.Ok N) (hN : N ≤ 16384) : Rooms n (t + 1) (st.fresh n) (refs ++ [st.top]) := by
  have hroom := hok.room
  have hsum : liveN (st.fresh n).bs = liveN st.bs + 1 := by
    show ((st.bs ++ ([⟨st.top, n, 0, true⟩] : List Blk)).map liveOne).sum = (st.bs.map liveOne).sum + 1
    rw [List.map_append, List.sum_append]
    rfl
  have hlen : (st.fresh n).bs.length = st.bs.length + 1 := by
    show (st.bs ++ [_]).length = _
    rw [List.length_append]
    rfl
  refine ⟨fun C hC => ?_, ?_, ?_, ?_, ?_, ?_, ?_⟩
  · rcases List.mem_append.1 (show C ∈ st.bs ++ [⟨st.top, n, 0, true⟩] from hC) with hC | hC
    · exact ⟨(h.sizes C hC).1, by have := (h.sizes C hC).2; omega⟩
    · rw [List.mem_singleton.1 hC]
      exact ⟨rfl, Nat.zero_le _⟩
  · rw [hlen, Nat.add_mul]
    have := h.top
    show st.top + 1 + n = _
    omega
  · rw [hlen]; have := h.few; omega
  · rw [hsum, hlen]
    have := h.count
    show _ + (st.fr n).length = _
    omega
  · rw [hsum, List.length_append, h.len]
    rfl
  · intro r hr
    rcases List.mem_append.1 hr with hr | hr
    · obtain ⟨C, hC, hcl, e⟩ := h.good r hr
      exact ⟨C, List.mem_append_left _ hC, hcl, e⟩
    · refine ⟨⟨st.top, n, 0, true⟩, List.mem_append_right _ (List.mem_singleton.2 rfl), rfl, ?_⟩
      rw [List.mem_singleton.1 hr]
      show st.top = 0 * 4294967296 + st.top
      omega
  · refine List.nodup_append.2 ⟨h.nodup, List.pairwise_singleton _ _, fun r hr q hq e => ?_⟩
    rw [List.mem_singleton.1 hq] at e
    obtain ⟨C, hC, hcl, rfl⟩ := h.good r hr
    have := (hok.fits C hC).2.2.1
    unfold Blk.ref at e
    omega

theorem Rooms.back {n t N : Nat} {st : St} {r : Nat} {refs : List Nat} (h : Rooms n t st (r :: refs)) (ht : t ≤ 1000) (hok : st.Ok N) {B : Blk} (hB : B ∈ st.bs) (hl : B.live = true) (hr : r = B.ref) : Rooms n (t + 1) (st.back B) refs := by
  have hs := (h.sizes B hB).1
  have hg := (h.sizes B hB).2
  have hsum : liveN (st.back B).bs + 1 = liveN st.bs := by
    have := sum_setBlk (B' := { B with live := false, gen := B.gen + 1 }) liveOne hok.order hB rfl
    have e1 : liveOne B = 1 := by unfold liveOne; rw [hl]; rfl
    have e2 : liveOne { B with live := false, gen := B.gen + 1 } = 0 := rfl
    show ((setBlk st.bs { B with live := false, gen := B.gen + 1 }).map liveOne).sum + 1 = (st.bs.map liveOne).sum
    omega
  have hlen : (st.back B).bs.length = st.bs.length := List.length_map ..
  obtain ⟨hnr, hnd⟩ := List.nodup_cons.1 h.nodup
  refine ⟨fun C hC => ?_, ?_, ?_, ?_, ?_, ?_, hnd⟩
  · rcases mem_setBlk hC with rfl | ⟨hC, _⟩
    · exact ⟨hs, by show B.gen + 1 ≤ t + 1; omega⟩
    · exact ⟨(h.sizes C hC).1, by have := (h.sizes C hC).2; omega⟩
  · rw [hlen]; exact h.top
  · rw [hlen]; have := h.few; omega
  · rw [hlen]
    have hc := h.count
    have hf : (st.back B).fr n = st.fr n ++ [B.place] := by
      show (if B.gen + 1 = 4294967295 then st.fr else setFr st.fr B.size (st.fr B.size ++ [B.place])) n = _
      rw [if_neg (by omega)]
      unfold setFr
      rw [if_pos hs.symm, hs]
    rw [hf, List.length_append, List.length_singleton]
    omega
  · have := h.len
    simp only [List.length_cons] at this
    omega
  · intro q hq
    obtain ⟨C, hC, hcl, rfl⟩ := h.good q (List.mem_cons_of_mem _ hq)
    refine ⟨C, mem_setBlk_of hC fun e => ?_, hcl, rfl⟩
    have := order_inj hok hC hB e
    subst this
    exact hnr (hr ▸ hq)

theorem sum_used (n : Nat) : ∀ (bs : List Blk), (∀ B ∈ bs, B.size = n) → (bs.map useOf).sum = liveN bs * (n + 1)
  | [], _ => by simp [liveN]
  | D :: r, h => by
    have ih := sum_used n r fun B hB => h B (List.mem_cons_of_mem _ hB)
    have hD := h D (List.mem_cons_self ..)
    unfold liveN at *
    simp only [List.map_cons, List.sum_cons, ih, Nat.add_mul]
    unfold useOf liveOne
    split <;> omega

theorem Rooms.used {n t : Nat} {st : St} {refs : List Nat} (h : Rooms n t st refs) : st.used = refs.length * (n + 1) := by
  unfold St.used
  rw [sum_used n st.bs fun B hB => (h.sizes B hB).1, h.len]

def refVals (refs : List Nat) : List Value := refs.map fun (r : Nat) => Value.int .u64 (r : Int)
theorem refVals_len (refs : List Nat) : (refVals refs).length = refs.length := by simp [refVals]
theorem refVals_snoc (refs : List Nat) (r : Nat) : refVals refs ++ [Value.int .u64 (r : Int)] = refVals (refs ++ [r]) := by simp [refVals]

theorem Bk.ok {w : World} {b : Nat} {ws : List Int} {cnt : Nat} {st : St} {X : Nat → Prop} (h : Bk w b ws cnt st X) : st.Ok ws.length ∧ ws.length ≤ 16384 := by
  obtain ⟨a, bw, mb, fb, rows, h⟩ := h
  exact ⟨h.ok, h.arena.2.2.2⟩

/-- Alloc here: a ref more; how many blocks there are now is the greater of how many there were, and how many are live. -/
theorem room_alloc {w : World} {b n t cnt : Nat} {ws : List Int} {st : St} {refs : List Nat} {X : Nat → Prop} (h : Bk w b ws cnt st X) (hR : Rooms n t st refs) (hn : 1 ≤ n ∧ n ≤ 8) (ht : t < 60) (hws : ws.length = 700) (hcnt : cnt ≤ 10000) :
    Calls Tryd.prog 9 #[.pointer (some ⟨b, 0, none⟩), .int .i64 n] w fun e w' => ∃ (r : Nat) (ws' : List Int) (st' : St), e = .returned (.tuple #[.int .u64 (r : Int), .nilIface]) ∧ Bk w' b ws' (cnt + n + 1) st' X ∧ Rooms n (t + 1) st' (refs ++ [r]) ∧ ws'.length = 700 ∧
      st'.bs.length = max st.bs.length (refs.length + 1) ∧ Keeps X w w' := by
  obtain ⟨hok, hN⟩ := h.ok
  rcases List.eq_nil_or_concat (st.fr n) with hfr | ⟨l, p, hfr⟩
  · have hc := hR.count
    rw [hfr, List.length_nil] at hc
    have hlen := hR.len
    have hroom : st.top + 1 + n ≤ ws.length := by
      have h1 := hR.top
      have h2 := hR.few
      have h3 : st.bs.length * (n + 1) ≤ 59 * 9 := Nat.mul_le_mul (by omega) (by omega)
      omega
    refine (alloc_new h n ⟨hn.1, by omega⟩ hfr hroom (by omega)).mono ?_
    rintro e w' ⟨rfl, ⟨ws', hZ, hB⟩, hK⟩
    refine ⟨_, ws', _, rfl, hB, hR.fresh hok hN, hZ.1.trans hws, ?_, hK⟩
    show (st.bs ++ [_]).length = _
    rw [List.length_append, List.length_singleton]
    omega
  · rw [List.concat_eq_append] at hfr
    obtain ⟨B, hB, e1, e2, e3, e4⟩ := hok.free n p (by rw [hfr]; exact List.mem_append_right _ (List.mem_singleton.2 rfl))
    subst e1
    refine (alloc_pop h n ⟨hn.1, by omega⟩ B hB e2 e3 e4 l hfr (by omega)).mono ?_
    rintro e w' ⟨rfl, ⟨ws', hZ, hBk⟩, hK⟩
    have hR' := hR.pop hok hN hB e3 hfr
    refine ⟨_, ws', _, rfl, hBk, hR', hZ.1.trans hws, ?_, hK⟩
    have h1 := hR'.len
    have h2 := hR'.count
    rw [List.length_append, List.length_singleton] at h1
    have hlen : (st.pop B l).bs.length = st.bs.length := List.length_map ..
    omega

theorem room_free {w : World} {b n t cnt r : Nat} {ws : List Int} {st : St} {refs : List Nat} {X : Nat → Prop} (h : Bk w b ws cnt st X) (hR : Rooms n t st (r :: refs)) (ht : t < 60) (hws : ws.length = 700) (hcnt : cnt ≤ 10000) :
    Calls Tryd.prog 11 #[.pointer (some ⟨b, 0, none⟩), .int .u64 (r : Int)] w fun e w' => ∃ (ws' : List Int) (st' : St) (X' : Nat → Prop), e = .returned .nilIface ∧ Bk w' b ws' (cnt + 1) st' X' ∧ Rooms n (t + 1) st' refs ∧ ws'.length = 700 ∧ st'.bs.length = st.bs.length ∧
      (∀ x, X' x → X x ∨ w.heap.size ≤ x) ∧ Keeps X w w' := by
  obtain ⟨hok, hN⟩ := h.ok
  obtain ⟨B, hB, hl, hr⟩ := hR.good r (List.mem_cons_self ..)
  have hg := (hR.sizes B hB).2
  have hp := (hok.fits B hB).2.2.1
  have hroom := hok.room
  refine (free_hit h r (by rw [hr]; unfold Blk.ref; omega) B (by rw [hr]; exact St.get_of hok hB hl hN) (by omega) (by omega)).mono ?_
  rintro e w' ⟨rfl, ⟨X', hd, hBk, hX⟩, hK⟩
  exact ⟨_, _, X', rfl, hBk, hR.back (by omega) hok hB hl hr, (List.length_set ..).trans hws, List.length_map .., hX, hK⟩
end Go.Proofs.YtaamenhfngjobaaDoor
