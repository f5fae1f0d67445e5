/-
  maps.Keys over a map from uint64 to uint64, and slices.AppendSeq, slices.Collect over it, by contract: a new slice of the keys, each once.
-/
import Derived.Test.YtkolkimmhlmlgaaDoorStMap
import Derived.Test.YtkolkimmhlmlgaaDoorStRow
import Derived.Sort.MapsRangeIn
import Derived.RangeFuncNested
import Derived.RangeFuncBound
import Derived.RangeFuncCalls
import Derived.RangeFuncLeaves
import Derived.Shelf.RegionOpen
import Derived.OwnWalkIn
import Derived.TacticsInMore
import Derived.LoopNIn
import Derived.LoopIn
namespace Go.Proofs.YtkolkimmhlmlgaaDoor
open Go.Maps Go.RowKit Go.Shelf

attribute [local go_sem] Oper.semAt_some

/-- The elements of a map that are uint64s. -/
def uE : Enc Int where
  val := encU
  dat := fun v => .lit (.int .u64 v)
  R := fun x => match x with
    | .int .u64 n => some (.lit (.int .u64 n), [])
    | _ => none
  ok := fun v => rfl
  inv := fun x y h => by
    split at h
    · cases h; exact ⟨_, rfl, rfl⟩
    · cases h
  inj := fun u v h => by simpa using h

/-- A list that names just the keys, each once. -/
def Keys {V : Type} (f : Int → Option V) (l : List Int) : Prop := l.Nodup ∧ ∀ k, k ∈ l ↔ (f k).isSome = true

theorem Keys.len {V : Type} {f : Int → Option V} {l m : List Int} (h : Keys f l) (k : Keys f m) : l.length = m.length :=
  Nat.le_antisymm (subset_length h.1 fun x hx => (k.2 x).2 ((h.2 x).1 hx)) (subset_length k.1 fun x hx => (h.2 x).2 ((k.2 x).1 hx))

/-- How far the collecting is. -/
def Came (f : Int → Option Int) (left : Lit → Bool) (ss : List Int) : Prop := ss.Nodup ∧ ∀ i, i ∈ ss ↔ (f i).isSome = true ∧ left (ik i) = false

set_option maxRecDepth 100000 in
set_option maxHeartbeats 2000000 in
theorem keys1_in (F : Fence) (n : Nat) (hf : F.fn 42) (hro : F.round = none) (hn : 1 ≤ n) (l Bm b : Nat) (f : Int → Option Int) (L : List Int) (hL : Keys f L) (J Jx : List Int → World → Prop)
    (hY : ∀ pre x W, J pre W → pre.length < L.length → YieldAt F (n - 1) Tryd.prog l #[encU x] W fun e W' =>
      (e = .returned (.bool true) ∧ J (pre ++ [x]) W' ∧ KeepsWalks W W') ∨ (e = .returned (.bool false) ∧ Jx (pre ++ [x]) W'))
    (W : World) (hJ : AbidesFrom W.heap.size J) (hm : W.cell? ⟨Bm, 0, none⟩ = some (.map (some b))) (hH : HoldsM Tryd.prog 23 uE W b f) (h0 : J [] W) :
    CallsIn F n Tryd.prog 42 #[.func (.yield l) #[] #[], .pointer (some ⟨Bm, 0, none⟩)] W fun e W' => (∃ v, e = .returned v) ∧ ((∃ ss, Keys f ss ∧ J ss W') ∨ (∃ pre, True ∧ Jx pre W')) := by
  obtain ⟨D, nn, hown, hnn, hr⟩ := hH
  clear hnn
  have hsz := Lib.hid (HoldsM.size_eq Tryd.underlying23 hown hr L hL.1 hL.2)
  have hr' := Lib.hid hr
  clear hr
  refine callsIn_of_wp Tryd.func42 rfl hf ?_ hro
  simp only [Tryd.ntmps42, List.size_toArray, List.length_cons, List.length_nil, Nat.reduceAdd, Nat.reduceSub, Array.replicate_succ, Array.replicate_zero, List.push_toArray, List.append_toArray, List.nil_append, List.cons_append]
  gi_wp2_with (first
    | (gi_at_range; refine wpListIn_range_own _ rfl _ 55 rfl 23 23 (int_keyed Tryd.underlying23) Tryd.underlying55 _ b nn _ rfl hown ?_; intro w0 hrg0 hg0 hs0)
    | gi_in)
  go_frame
  gi_loopw [3] (fun _ wr => ∃ (left : Lit → Bool) (cnt : Nat) (ss : List Int), wr.ranges Tryd.prog 23 uE.R b W.heap.size nn D left cnt ∧ ss.length + cnt ≤ L.length ∧ Came f left ss ∧ J ss wr)
    (fun _ wr => wr.rangeLeft b W.heap.size)
  case atStart =>
    refine ⟨_, _, [], hrg0, by rw [hsz.out]; simp, ⟨List.nodup_nil, fun i => ?_⟩, hJ [] W w0 none h0 hg0 (fun r e => by cases e)⟩
    rw [(hr'.out i).1]
    constructor
    · intro h; cases h
    · rintro ⟨h1, h2⟩
      rw [h1] at h2
      cases h2
  case round =>
    obtain ⟨left, cnt, ss, hrg, hcs, hC, hJs⟩ := hrel
    gi_wp2_with (first
      | (gi_at_next; refine wpListIn_next_ranges _ rfl _ rfl 23 (int_keyed Tryd.underlying23) uE.R encU id (fun key kl hk => by obtain ⟨x, hx, _⟩ := Maps.keyOf_int_inv Tryd.underlying23 hk; exact ⟨x, hx⟩) (fun v _ _ => ⟨v, rfl⟩) b W.heap.size nn _ _ _ rfl hrg ?_ ?_)
      | gi_in)
    · intro hc0 hl0
      gi_wp2
      go_end0
      exact ⟨⟨_, rfl⟩, .inl ⟨ss, ⟨hC.1, fun k => by rw [hC.2 k, hl0]; simp⟩, hJs⟩⟩
    · intro x c kl yd yp w2 cnt2 hkey hlk hv hat hrg2 hlt hg2 hs2 hen
      obtain ⟨x', ex, rfl, _⟩ := Maps.keyOf_int_inv Tryd.underlying23 hkey
      obtain rfl : x = x' := by simpa using ex
      have hfx : (f x).isSome = true := by
        have h4 := (hr'.out x).2 .nil
        have h5 := (hr'.out x).2 (.agg [])
        unfold ik at h4 h5
        rw [hat] at h4 h5
        cases hf : f x with
        | none => rw [hf] at h4 h5; rw [h4] at h5; cases h5
        | some u => rfl
      have hnx : x ∉ ss := fun hx => by
        have := ((hC.2 x).1 hx).2
        unfold ik at this
        rw [this] at hlk
        cases hlk
      have hC2 : Came f (fun z => left z && !z.sameKey (.int .u64 x)) (ss ++ [x]) := by
        refine ⟨List.nodup_append.2 ⟨hC.1, by simp, fun a ha b hb => by simp at hb; subst hb; exact fun e => hnx (e ▸ ha)⟩, fun i => ?_⟩
        rw [List.mem_append, hC.2 i]
        by_cases e : i = x
        · subst e
          simp [hfx, ik, Lit.sameKey]
        · simp [e, ik, Lit.sameKey]
      have hJ2 : J ss w2 := hJ ss wr w2 (some W.heap.size) hJs hg2 (fun r e => by cases e; exact ⟨Nat.le_refl _, hrg.iter_walk⟩)
      obtain ⟨fn, tmps, assign, body, hy, hR⟩ := hY ss x w2 hJ2 (by omega)
      clear hs2
      gi_wp2
      refine hR.mono ?_
      rintro e W3 (⟨rfl, hJ3, hk3⟩ | ⟨rfl, hJx3⟩)
      · gi_wp2
        have hrg3 := hrg2.of_walks hk3
        go_roundw
        case rel => exact ⟨_, cnt2, ss ++ [x], hrg3, by simp; omega, hC2, hJ3⟩
        case measure => rw [hrg3.left_eq, hrg.left_eq]; exact hlt
      · gi_wp2
        refine bodyPost_ret (results_none rfl _ _ _) rfl ?_
        exact ⟨⟨_, rfl⟩, .inr ⟨_, trivial, hJx3⟩⟩

/-- The iterator over a map's keys. -/
theorem keys_stops (F : Fence) (n : Nat) (hf : F.fn 42) (hro : F.round = none) (hn : 1 ≤ n) (Bm b : Nat) (f : Int → Option Int) (L : List Int) (hL : Keys f L) (w : World) (hB : Bm < w.heap.size)
    (hm : w.cell? ⟨Bm, 0, none⟩ = some (.map (some b))) (hH : HoldsM Tryd.prog 23 uE w b f) :
    SeqStopsK F n Tryd.prog 42 #[.pointer (some ⟨Bm, 0, none⟩)] (fun x : Int => #[encU x]) KeepsWalks (Keys f) (fun _ => True) L.length w := fun l J Jx W hW hJ _ hY h0 =>
  keys1_in F n hf hro hn l Bm b f L hL J Jx hY W hJ ((hW.cell (p := ⟨Bm, 0, none⟩) hB).trans hm) (hH.of_block (hW.block b hH.lt)) h0

set_option maxHeartbeats 1000000 in
theorem keys_any (mb : Option Nat) (w : World) :
    Calls Tryd.prog 33 #[.map mb] w fun e w' => e = .returned (.func (.func 42) #[] #[.pointer (some ⟨w.heap.size, 0, none⟩)]) ∧ w' = w.alloc (.cells #[.map mb] 55) := by
  go_enter Tryd.func33, Tryd.ntmps33
  go_wp2
  go_ret
  exact ⟨rfl, rfl⟩

/-- The iterator's value. -/
abbrev kseqV (Bs : Nat) : Value := .func (.func 42) #[] #[.pointer (some ⟨Bs, 0, none⟩)]

/-- Where the collecting is. -/
def CollU (w : World) (pre : List Int) (W : World) : Prop :=
  (∃ u, Boxed W w.heap.size 72 u ∧ W.ownsRow w.heap.size 23 1 u pre.length (pre.map encU) ∧ True) ∧ Below w.heap.size w W

theorem collU_own (w : World) (B : Nat) (hB : w.heap.size ≤ B) : OwnFrom B (CollU w) :=
  OwnFrom.and (Own.from (holdsRow_own w.heap.size w.heap.size 72 23 1 (fun s : List Int => s.length) (fun s => s.map encU) (fun _ _ => True)) _) (ownFrom_below (Nat.le_refl _) hB)

/-- The loop's variable: a frame alone. -/
def VarU (w : World) (sv : Value) (x : Int) (a' : Act) (_ : World) : Prop :=
  a' = { tmps := #[.slice none 0 0, sv, .pointer (some ⟨w.heap.size, 0, none⟩), undef, .slice none 0 0, encU x, sv, encU x, undef, undef, undef, undef, undef], defers := [] }

theorem info_u64 : (Tryd.prog.info? 23).map (fun i => (i.zero, i.size, i.bytes)) = some (some (.int .u64 0), 1, 8) := by kernel_rfl

theorem one_u {w : World} {b : Nat} {ty : TypeId} {x : Int} (h : Whole w b ty #[encU x]) : ∀ j u, ([encU x] : List Value)[j]? = some u → w.cell? ((⟨b, 0, none⟩ : Addr).add j) = some u := by
  intro j u hj
  match j, hj with
  | 0, hj => simp at hj; subst hj; exact h.at_ 0
  | j + 1, hj => simp at hj

set_option maxRecDepth 100000 in
set_option maxHeartbeats 2000000 in
theorem appendSeqU_in (F : Fence) (n : Nat) (h54 : F.fn 50) (h43 : F.fn 42) (hro : F.round = none) (hn : 3 ≤ n) (Bs b : Nat) (f : Int → Option Int) (L : List Int) (hL : Keys f L) (few : L.length ≤ 100000) (w : World) (hB : Bs < w.heap.size)
    (hm : w.cell? ⟨Bs, 0, none⟩ = some (.map (some b))) (hH : HoldsM Tryd.prog 23 uE w b f) :
    CallsIn F n Tryd.prog 50 #[.slice none 0 0, kseqV Bs] w fun e w' => ∃ u ss, e = .returned u ∧ Keys f ss ∧ w'.ownsRow w.heap.size 23 1 u ss.length (ss.map encU) ∧ Below w.heap.size w w' := by
  have h1 : 1 ≤ n := by omega
  obtain ⟨i0, hi, hz0, hz1, hz2⟩ := info_parts info_u64
  refine callsIn_of_wp_marks Tryd.func50 rfl h54 ?_ hro
  simp only [Tryd.ntmps50, List.size_toArray, List.length_cons, List.length_nil, Nat.reduceAdd, Nat.reduceSub, Array.replicate_succ, Array.replicate_zero, List.push_toArray, List.append_toArray, List.nil_append, List.cons_append]
  gi_wp2
  have b0 := Boxed.new w 72 (.slice none 0 0)
  have hH1 : HoldsM Tryd.prog 23 uE (w.alloc (.cells #[.slice none 0 0] 72)) b f := hH.of_block (Below.heap_alloc w _ b hH.lt)
  have hc1 : (w.alloc (.cells #[.slice none 0 0] 72)).cell? ⟨Bs, 0, none⟩ = some (.map (some b)) := (((Below.refl _ w).alloc (Nat.le_refl _) (.cells #[.slice none 0 0] 72)).cell (p := ⟨Bs, 0, none⟩) hB).trans hm
  refine wpIn_rangeFunc_ownH hro h1 (gf := 42) (lb := #[.pointer (some ⟨Bs, 0, none⟩)]) rfl h43 (enters_of Tryd.func42 (by kernel_rfl) rfl)
    (keys_stops F (n - 1) h43 hro (by omega) Bs b f L hL _ (by simp; omega) hc1 hH1) walksK_t walksK_b (Below.refl _ _) (fun _ => rfl)
    (CollU w) (fun _ _ _ => False) (collU_own w _ (by simp)) (fun _ _ _ _ _ hs _ _ => hs)
    ⟨⟨_, b0, World.ownsRow_nil .., trivial⟩, (Below.refl _ w).alloc (Nat.le_refl _) _⟩
    (VarU w (kseqV Bs)) (fun x a' => ownFrom_pure _ (fun _ => a' = _)) ?assign ?body ?done ?stop
  case assign =>
    intro l pre x W K hI hK
    gi_wp2
    exact hK _ _ (KeepsFrom.refl _ _) (KeepsWalks.refl _) hI rfl
  case body =>
    rintro l pre x a' W hl ⟨r, hr⟩ ⟨⟨u, hu, hrow, _⟩, hBel⟩ rfl hlt
    have hsz := hBel.size
    have c0 := hu.cell
    gi_wp2_with (first
      | (gi_at_builtin; refine wpListIn_append_own _ rfl _ _ 72 rfl w.heap.size 23 i0 (.int .u64 0) 1 8 Tryd.underlying72 hi hz0 hz1 hz2 rfl (by decide) _ _ _ rfl (hrow.alloc _) ⟨W.heap.size, 0, none⟩ 1 1 [encU x] rfl rfl (one_u (Whole.made W 23 #[encU x])) (by simp [Value.oneCell']) (by unfold maxLen; omega) (by omega) (by simp; omega) ?_; intro v' w1 hown' hgrow _
         obtain ⟨g', cap', rfl⟩ := ownsRow_succ hown'
         obtain ⟨hv1, hv2, hr2, hk2, hb2⟩ := hu.appended (by decide) hrow hsz (Nat.le_refl _) hown' hgrow
         have hc1 := hv1.cell
         have hf1 := hv1.frozen))
    refine ⟨hk2.from _, hk2.walks, ⟨_, hv2, ?_, trivial⟩, hBel.trans hb2⟩
    rw [List.length_append, List.map_append]
    exact hr2
  case done =>
    rintro D ys W hD hys ⟨⟨u, hu, hrow, _⟩, hBel⟩ hK
    have c0 := hu.cell
    gi_wp2
    refine ⟨by simp, .inl ⟨_, _, rfl, run_takeDeferred hK, ?_⟩⟩
    exact ⟨_, results_tmp rfl _ _ _, u, ys, rfl, hys, ownsRow_putObj hrow _ hK rfl, hBel.trans (belowK_b (w := w) (Nat.le_refl _) W D _ _ (by simp at hD; omega) hK rfl rfl)⟩
  case stop =>
    rintro D c pre W _ _ h _
    exact h.elim

set_option maxHeartbeats 1000000 in
theorem collectU_in (F : Fence) (n : Nat) (h41 : F.fn 40) (h54 : F.fn 50) (h43 : F.fn 42) (hro : F.round = none) (hn : 4 ≤ n) (Bs b : Nat) (f : Int → Option Int) (L : List Int) (hL : Keys f L) (few : L.length ≤ 100000) (w : World) (hB : Bs < w.heap.size)
    (hm : w.cell? ⟨Bs, 0, none⟩ = some (.map (some b))) (hH : HoldsM Tryd.prog 23 uE w b f) :
    CallsIn F n Tryd.prog 40 #[kseqV Bs] w fun e w' => ∃ u ss, e = .returned u ∧ Keys f ss ∧ w'.ownsRow w.heap.size 23 1 u ss.length (ss.map encU) ∧ Below w.heap.size w w' := by
  have h1 : 1 ≤ n := by omega
  refine callsIn_of_wp Tryd.func40 rfl h41 ?_ hro
  simp only [Tryd.ntmps40, List.size_toArray, List.length_cons, List.length_nil, Nat.reduceAdd, Nat.reduceSub, Array.replicate_succ, Array.replicate_zero, List.push_toArray, List.append_toArray, List.nil_append, List.cons_append]
  gi_wp2_with (gi_at_call 50; refine (appendSeqU_in F (n - 1) h54 h43 hro (by omega) Bs b f L hL few _ hB hm hH).mono ?_; rintro e w' ⟨u, ss, rfl, hs, hO, hb⟩)
  go_ret
  exact ⟨u, ss, rfl, hs, hO, hb⟩

theorem collectU_any (Bs b : Nat) (f : Int → Option Int) (L : List Int) (hL : Keys f L) (few : L.length ≤ 100000) (w : World) (hm : w.cell? ⟨Bs, 0, none⟩ = some (.map (some b))) (hH : HoldsM Tryd.prog 23 uE w b f) :
    Calls Tryd.prog 40 #[kseqV Bs] w fun e w' => ∃ u ss, e = .returned u ∧ Keys f ss ∧ w'.ownsRow w.heap.size 23 1 u ss.length (ss.map encU) ∧ Below w.heap.size w w' := by
  refine (callsIn_wide (n := 5)).1 ?_
  exact collectU_in Fence.wide 5 trivial trivial trivial rfl (by decide) Bs b f L hL few w (cell_lt (p := ⟨Bs, 0, none⟩) hm) hm hH
end Go.Proofs.YtkolkimmhlmlgaaDoor
