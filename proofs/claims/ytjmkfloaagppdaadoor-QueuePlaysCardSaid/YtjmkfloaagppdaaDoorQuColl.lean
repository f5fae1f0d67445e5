/-
  slices.AppendSeq, slices.Collect over the iterator of a slice of timers, by contract: a new slice of the same timers.
-/
import Derived.Test.YtjmkfloaagppdaaDoorQuSeq
import Derived.Test.YtjmkfloaagppdaaDoorQuAlive
namespace Go.Proofs.YtjmkfloaagppdaaDoor
open Go.RowKit Go.Shelf

attribute [local go_sem] Oper.semAt_some

/-- The iterator's value. -/
abbrev seqV (Bs : Nat) : Value := .func (.func 43) #[] #[.pointer (some ⟨Bs, 0, none⟩)]

/-- Where the collecting is. -/
def Coll (w : World) (pre : List Tm) (W : World) : Prop :=
  (∃ u, Boxed W w.heap.size 27 u ∧ W.ownsRow w.heap.size 31 2 u pre.length (tmCells pre) ∧ True) ∧ Below w.heap.size w W

theorem coll_own (w : World) (B : Nat) (hB : w.heap.size ≤ B) : OwnFrom B (Coll w) :=
  OwnFrom.and (Own.from (holdsRow_own w.heap.size w.heap.size 27 31 2 (fun s : List Tm => s.length) (fun s => tmCells s) (fun _ _ => True)) _) (ownFrom_below (Nat.le_refl _) hB)

/-- The loop's variable. -/
def Var (w : World) (sv : Value) (x : Tm) (a' : Act) (W : World) : Prop :=
  ∃ Bx, w.heap.size < Bx ∧ Whole W Bx 31 #[.int .i64 x.1, .int .i64 x.2] ∧ a' = { tmps := #[.slice none 0 0, sv, .pointer (some ⟨w.heap.size, 0, none⟩), undef, .slice none 0 0, .pointer (some ⟨Bx, 0, none⟩), sv, .agg #[.int .i64 x.1, .int .i64 x.2], undef, undef, undef, undef, undef], defers := [] }

theorem var_own (w : World) (sv : Value) (x : Tm) (a' : Act) (B : Nat) : OwnFrom B (fun (_ : Unit) W => Var w sv x a' W) := by
  rintro s W W' row ⟨Bx, h1, h2, h3⟩ hg hr
  exact ⟨Bx, h1, (grownBy_keeps_cells hg (fun r e => (hr r e).2) h2 rfl).trans h2, h3⟩

theorem info_tm : (Tryd.prog.info? 31).map (fun i => (i.zero, i.size, i.bytes)) = some (some (.agg #[.int .i64 0, .int .i64 0]), 2, 16) := info_timer

set_option maxRecDepth 100000 in
set_option maxHeartbeats 2000000 in
theorem appendSeq_in (F : Fence) (n : Nat) (h54 : F.fn 54) (h43 : F.fn 43) (hro : F.round = none) (hn : 3 ≤ n) (Bs : Nat) (v : Value) (L : List Tm) (few : L.length ≤ 100000) (w : World) (hB : Bs < w.heap.size)
    (hc : w.cell? ⟨Bs, 0, none⟩ = some v) (hR : RdB w.heap.size w v L) :
    CallsIn F n Tryd.prog 54 #[.slice none 0 0, seqV Bs] w fun e w' => ∃ u, e = .returned u ∧ w'.ownsRow w.heap.size 31 2 u L.length (tmCells L) ∧ Below w.heap.size w w' := by
  have h1 : 1 ≤ n := by omega
  obtain ⟨i0, hi, hz0, hz1, hz2⟩ := info_parts info_tm
  refine callsIn_of_wp_marks Tryd.func54 rfl h54 ?_ hro
  simp only [Tryd.ntmps54, List.size_toArray, List.length_cons, List.length_nil, Nat.reduceAdd, Nat.reduceSub, Array.replicate_succ, Array.replicate_zero, List.push_toArray, List.append_toArray, List.nil_append, List.cons_append]
  gi_wp2
  have b0 := Boxed.new w 27 (.slice none 0 0)
  have hR1 : RdB w.heap.size (w.alloc (.cells #[.slice none 0 0] 27)) v L := hR.later ((Below.refl _ w).alloc (Nat.le_refl _) _)
  have hc1 : (w.alloc (.cells #[.slice none 0 0] 27)).cell? ⟨Bs, 0, none⟩ = some v := (((Below.refl _ w).alloc (Nat.le_refl _) (.cells #[.slice none 0 0] 27)).cell (p := ⟨Bs, 0, none⟩) hB).trans hc
  refine wpIn_rangeFunc_ownH hro h1 (gf := 43) (lb := #[.pointer (some ⟨Bs, 0, none⟩)]) rfl h43 (enters_of Tryd.func43 (by kernel_rfl) rfl)
    (vals_stops F (n - 1) h43 hro (by omega) Bs w.heap.size v L few _ (by simp; omega) (by simp) hc1 hR1) belowK_t (belowK_b (by simp)) (Below.refl _ _) (fun _ => rfl)
    (Coll w) (fun _ _ _ => False) (coll_own w _ (by simp)) (fun _ _ _ _ _ hs _ _ => hs)
    ⟨⟨_, b0, World.ownsRow_nil .., trivial⟩, (Below.refl _ w).alloc (Nat.le_refl _) _⟩
    (Var w (seqV Bs)) (fun x a' => var_own w _ x a' _) ?assign ?body ?done ?stop
  case assign =>
    intro l pre x W K hI hK
    have hsz := hI.2.size
    have k1 := coll_own w w.heap.size (Nat.le_refl _) _ _ _ none hI (World.grownBy_alloc W (.cells #[.int .i64 x.1, .int .i64 x.2] 31) none) (fun r e => by cases e)
    have k2 := Whole.made W 31 #[.int .i64 x.1, .int .i64 x.2]
    obtain ⟨u, hu, _⟩ := hI.1
    have hlt := hu.lt
    unfold tmArg
    gi_wp2
    exact hK _ _ ((KeepsOthers.alloc _ _).from _) ((Below.refl _ W).alloc hsz _) k1 ⟨_, hlt, k2, rfl⟩
  case body =>
    rintro l pre x a' W hl ⟨r, hr⟩ ⟨⟨u, hu, hrow, _⟩, hBel⟩ ⟨Bx, hBx, hX, rfl⟩ hlt
    have hsz := hBel.size
    have c0 := hu.cell
    have x0 : W.cell? ⟨Bx, 0, none⟩ = some (.int .i64 x.1) := hX.at_ 0
    have x1 : W.cell? ⟨Bx, 1, none⟩ = some (.int .i64 x.2) := hX.at_ 1
    gi_wp2_with (first
      | (gi_at_builtin; refine wpListIn_append_own _ rfl _ _ 27 rfl w.heap.size 31 i0 (.agg #[.int .i64 0, .int .i64 0]) 2 16 Tryd.underlying27 hi hz0 hz1 hz2 rfl (by decide) _ _ _ rfl (hrow.alloc _) ⟨W.heap.size, 0, none⟩ 1 1 (tmCells [x]) rfl rfl (one_timer (Whole.made W 31 #[.int .i64 x.1, .int .i64 x.2])) (tmCells_one _) (by unfold maxLen; omega) (by omega) (by simp; omega) ?_; intro v' w1 hown' hgrow _
         obtain ⟨g', cap', rfl⟩ := ownsRow_succ hown'
         obtain ⟨hv1, hv2, hr2, hk2, hb2⟩ := hu.appended (by decide) hrow hsz (Nat.le_refl _) hown' hgrow
         have hc1 := hv1.cell
         have hf1 := hv1.frozen))
    refine ⟨hk2.from _, hb2, ⟨_, hv2, ?_, trivial⟩, hBel.trans hb2⟩
    rw [List.length_append, tmCells_app]
    exact hr2
  case done =>
    rintro D ys W hD rfl ⟨⟨u, hu, hrow, _⟩, hBel⟩ hK
    have c0 := hu.cell
    gi_wp2
    refine ⟨by simp, .inl ⟨_, _, rfl, run_takeDeferred hK, ?_⟩⟩
    exact ⟨_, results_tmp rfl _ _ _, u, rfl, ownsRow_putObj hrow _ hK rfl, hBel.trans (belowK_b (w := w) (Nat.le_refl _) W D _ _ (by simp at hD; omega) hK rfl rfl)⟩
  case stop =>
    rintro D c pre W _ _ h _
    exact h.elim

set_option maxHeartbeats 1000000 in
theorem collect_in (F : Fence) (n : Nat) (h41 : F.fn 41) (h54 : F.fn 54) (h43 : F.fn 43) (hro : F.round = none) (hn : 4 ≤ n) (Bs : Nat) (v : Value) (L : List Tm) (few : L.length ≤ 100000) (w : World) (hB : Bs < w.heap.size)
    (hc : w.cell? ⟨Bs, 0, none⟩ = some v) (hR : RdB w.heap.size w v L) :
    CallsIn F n Tryd.prog 41 #[seqV Bs] w fun e w' => ∃ u, e = .returned u ∧ w'.ownsRow w.heap.size 31 2 u L.length (tmCells L) ∧ Below w.heap.size w w' := by
  have h1 : 1 ≤ n := by omega
  refine callsIn_of_wp Tryd.func41 rfl h41 ?_ hro
  simp only [Tryd.ntmps41, List.size_toArray, List.length_cons, List.length_nil, Nat.reduceAdd, Nat.reduceSub, Array.replicate_succ, Array.replicate_zero, List.push_toArray, List.append_toArray, List.nil_append, List.cons_append]
  gi_wp2_with (gi_at_call 54; refine (appendSeq_in F (n - 1) h54 h43 hro (by omega) Bs v L few _ hB hc hR).mono ?_; rintro e w' ⟨u, rfl, hO, hb⟩)
  go_ret
  exact ⟨u, rfl, hO, hb⟩

/-- A slice of timers, and nothing that was there has changed. -/
def Copied (w : World) (L : List Tm) (e : Ending) (w' : World) : Prop := ∃ u, e = .returned u ∧ Own w' u L w.heap.size ∧ Keeps (fun _ => False) w w'

theorem owns_base {w : World} {B : Nat} {v : Value} {l : List Tm} (h : w.ownsRow B 31 2 v l.length (tmCells l)) : Own w v l B := by
  refine ⟨⟨h.1, ?_⟩, ?_⟩
  · rcases h.2 with hn | ⟨g, cap, cur, hv, _, rest⟩
    · exact .inl hn
    · exact .inr ⟨g, cap, cur, hv, Nat.zero_le _, rest⟩
  · intro g hg
    rcases h.2 with ⟨rfl, _⟩ | ⟨g', cap, cur, rfl, hb, _⟩
    · simp [Value.ownBlock] at hg
    · obtain rfl : g' = g := by simpa [Value.ownBlock] using hg
      exact hb

theorem collect_any (Bs : Nat) (v : Value) (L : List Tm) (few : L.length ≤ 100000) (w : World) (hc : w.cell? ⟨Bs, 0, none⟩ = some v) (hR : Rd w v L) :
    Calls Tryd.prog 41 #[seqV Bs] w fun e w' => Copied w L e w' := by
  refine (callsIn_wide (n := 5)).1 ?_
  refine (collect_in Fence.wide 5 trivial trivial trivial rfl (by decide) Bs v L few w (cell_lt (p := ⟨Bs, 0, none⟩) hc) hc hR.below).mono ?_
  rintro e w' ⟨u, rfl, hO, hb⟩
  exact ⟨u, rfl, owns_base hO, (Keeps.of_below hb).fresh fun x hx => hx⟩
end Go.Proofs.YtjmkfloaagppdaaDoor
