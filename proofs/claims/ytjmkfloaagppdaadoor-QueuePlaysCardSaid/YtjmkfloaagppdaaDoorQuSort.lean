/-
  slices.SortFunc of a slice of timers by inOrder, slices.SortedFunc, and a queue's All, by contract.
-/
import Derived.Test.YtjmkfloaagppdaaDoorQuColl
import Derived.Test.YtjmkfloaagppdaaDoorQuSortLay
import Derived.Shelf.SlSortCmp.NoneTotal
namespace Go.Proofs.YtjmkfloaagppdaaDoor
open Go.Proofs Go.RowKit Go.Shelf Go.Sort

def encT (t : Tm) : List Value := [.int .i64 t.1, .int .i64 t.2]

theorem ltOf_ahead (x y : Tm) : ltOf ordI x y = ahead x y := by
  rw [← ordI_neg]
  rfl

theorem ahead_swo : SWO (ltOf ordI) where
  irrefl x := by rw [ltOf_ahead]; exact ahead_irrefl x
  trans x y z h1 h2 := by rw [ltOf_ahead] at *; exact ahead_trans h1 h2
  ntrans x y z h1 h2 := by rw [ltOf_ahead, ahead_not] at *; omega

theorem ahead_only (x y : Tm) (h1 : ltOf ordI x y = false) (h2 : ltOf ordI y x = false) : x = y := by
  rw [ltOf_ahead, ahead_not] at *
  exact Prod.ext (by omega) (by omega)

theorem enters_ord : ∀ args w, (callFunc 31 args).run Tryd.prog w = .ok (.enter 31 args) w := enters_of Tryd.func31 (by kernel_rfl) rfl

theorem cmp_lays (blk off size : Nat) (w : World) : CmpLays Tryd.prog 31 #[] encT 2 ordI blk off size w :=
  fun _ _ _ _ x y => ord_any x y _

theorem toArray_at {L : List Tm} {m : Nat} (h : m < L.length) : L.toArray[m]! = at_ L m := by
  rw [getElem!_pos L.toArray m (by simpa using h)]
  exact (at_eq (by rw [List.getElem?_eq_getElem h]; simp)).symm

theorem flat_at {L : List Tm} {j : Nat} (h : j < L.length * 2) : (tmCells L)[j]? = some ((flatK encT 2 L.toArray)[j]!) := by
  rw [get_flatK _ _ _ _ (by simpa using h), toArray_at (by omega)]
  rcases Nat.mod_two_eq_zero_or_one j with e | e
  · have : j = (j / 2) * 2 := by omega
    rw [e]
    conv => lhs; rw [this]
    exact tmCells_when L _ (by omega)
  · have : j = (j / 2) * 2 + 1 := by omega
    rw [e]
    conv => lhs; rw [this]
    exact tmCells_id L _ (by omega)

theorem TRow.holds {w : World} {g c : Nat} {L : List Tm} (h : TRow w (.slice (some ⟨g, 0, none⟩) L.length c) L) : HoldsK encT 2 w g 0 L.toArray := by
  intro j hj
  rw [size_flatK] at hj
  have hj' : j < L.length * 2 := by simpa using hj
  rw [Nat.zero_add]
  exact ⟨(h.cellAt j hj').trans (flat_at hj'), h.frozenAt j⟩

theorem rd_sorted {w : World} {g n : Nat} {L L' : List Tm} {os : Array Obj} (c : Nat) (hH : HoldsK encT 2 w g 0 L.toArray) (hl : L'.length = L.length) :
    Rd (sortWorldK encT 2 w g 0 n L'.toArray os) (.slice (some ⟨g, 0, none⟩) L.length c) L' ∧ Keeps (fun x => x = g) w (sortWorldK encT 2 w g 0 n L'.toArray os) := by
  have hsz : (flatK encT 2 L'.toArray).size = (flatK encT 2 L.toArray).size := by simp [hl]
  have h1 := holds_putRow id (Go.Sort.ahead w n) g 0 (flatK encT 2 L.toArray) (flatK encT 2 L'.toArray) hH hsz
  have hG : Grew (putRowK encT 2 (Go.Sort.ahead w n) g 0 L'.toArray) (sortWorldK encT 2 w g 0 n L'.toArray os) := ⟨0, os, by simp [sortWorldK, World.drewN]⟩
  have hc : ∀ j, j < L'.length * 2 → (sortWorldK encT 2 w g 0 n L'.toArray os).cell? ⟨g, j, none⟩ = (tmCells L')[j]? := by
    intro j hj
    have := (h1 j (by simpa using hj)).1
    rw [Nat.zero_add] at this
    rw [flat_at hj]
    exact hG.cell this
  refine ⟨⟨_, c, by rw [hl], .inr ⟨g, 0, rfl, fun k hk => ?_⟩⟩, ?_⟩
  · rw [Nat.zero_add]
    exact ⟨(hc _ (by omega)).trans (tmCells_when L' k hk), (hc _ (by omega)).trans (tmCells_id L' k hk)⟩
  · have k1 : Keeps (fun x => x = g) w (putRowK encT 2 (Go.Sort.ahead w n) g 0 L'.toArray) := ⟨rfl, rfl, rfl, by simp [putRowK], fun k _ hk => by
      unfold putRowK putRow mapBlock
      rw [Array.getElem?_modify, if_neg (fun e => hk e.symm)]
      rfl⟩
    exact k1.trans hG.keeps fun _ _ => False.elim

theorem merge_up {L : List Tm} (ho : Once L) : Up (L.mergeSort fun x y => !(ltOf ordI) y x) ∧ (L.mergeSort fun x y => !(ltOf ordI) y x).Perm L := by
  have hp := List.mergeSort_perm L (fun x y => !(ltOf ordI) y x)
  refine ⟨?_, hp⟩
  have hs := List.pairwise_mergeSort (le := fun x y : Tm => !(ltOf ordI) y x) (fun a b c h1 h2 => by
    simp only [ltOf_ahead, Bool.not_eq_eq_eq_not, Bool.not_true] at *
    exact le.trans h1 h2) (fun a b => by
    simp only [ltOf_ahead]
    rcases Bool.eq_false_or_eq_true (ahead b a) with h | h
    · have := le.of h; unfold le at this; simp [h, this]
    · simp [h]) L
  have hn : (L.mergeSort fun x y => !(ltOf ordI) y x).Pairwise fun a b => a.2 ≠ b.2 := by
    have := ho.perm hp.symm
    unfold Once List.Nodup at this
    exact List.pairwise_map.1 this
  refine (hs.and hn).imp fun {a b} h => ?_
  refine ahead_of_le ?_ h.2
  have := h.1
  rw [ltOf_ahead] at this
  unfold le
  simpa using this

/-- What is sorted. -/
def Sorted (w : World) (L : List Tm) (v : Value) (B : Nat) (w' : World) : Prop := ∃ L', Up L' ∧ L'.Perm L ∧ Rd w' v L' ∧ Keeps (fun x => B ≤ x) w w'

theorem sort_any {w : World} {v : Value} {L : List Tm} {B : Nat} (h : Own w v L B) (ho : Once L) (few : L.length ≤ 100000) :
    Calls Tryd.prog 42 #[v, .func (.func 31) #[] #[]] w fun e w' => e = .returned (.tuple #[]) ∧ Sorted w L v B w' := by
  obtain ⟨h, hB⟩ := h
  cases L with
  | nil =>
    obtain ⟨o, c, rfl, _⟩ := TRow.shape h
    have := AnyF.slices_SortFunc_none (P := Tryd.prog) (ρ := sortT_ren) sortT o c (.func (.func 31) #[] #[]) w
    refine this.mono ?_
    rintro e w' ⟨rfl, rfl⟩
    exact ⟨rfl, [], List.Pairwise.nil, List.Perm.refl _, TRow.rd h, Keeps.refl _ _⟩
  | cons t l =>
    obtain ⟨g, c, rfl⟩ := TRow.form h (by simp)
    have hg := hB g rfl
    obtain ⟨hU, hp⟩ := merge_up ho
    have hH := TRow.holds h
    have hlt : g < w.heap.size := cell_lt (p := ⟨g, 0 * 2, none⟩) (TRow.when h 0 (by simp))
    have := AnyQ.slices_SortFunc_total (P := Tryd.prog) (ρ := sortT_ren) sortT 2 (fun w => Tryd.isAgg31 w) (fun w => Tryd.sizeOf31 w) encT (fun _ => rfl) (fun x v hv => by simp [encT] at hv; rcases hv with rfl | rfl <;> rfl) ordI ahead_swo 31 #[] g 0 c (t :: l).toArray w enters_ord (cmp_lays _ _ _ _) hH hlt (by simp at few ⊢; omega) ahead_only
    simp only [List.size_toArray] at this
    refine this.mono ?_
    rintro e w' ⟨rfl, n, os, rfl⟩
    obtain ⟨h1, h2⟩ := rd_sorted (n := n) (os := os) c hH hp.length_eq
    exact ⟨rfl, _, hU, hp, h1, h2.mono fun x _ e => by subst e; exact hg⟩

theorem sorted_any (Bs : Nat) (v : Value) (L : List Tm) (ho : Once L) (few : L.length ≤ 100000) (w : World) (hc : w.cell? ⟨Bs, 0, none⟩ = some v) (hR : Rd w v L) :
    Calls Tryd.prog 29 #[seqV Bs, .func (.func 31) #[] #[]] w fun e w' => ∃ u, e = .returned u ∧ Sorted w L u w.heap.size w' := by
  have c1 := Lib.hid (collect_any Bs v L few w hc hR)
  clear hc hR
  go_enter Tryd.func29, Tryd.ntmps29
  go_wp2_with (first
    | (go_at_call 41; refine c1.out.mono ?_; rintro e w2 ⟨u, rfl, hO, hK⟩; have c2 := Lib.hid (sort_any hO ho few); have K2 := Lib.hid hK; clear hO hK)
    | (go_at_call 42; refine c2.out.mono ?_; rintro e w3 ⟨rfl, hS⟩; have S3 := Lib.hid hS; clear hS))
  go_ret
  obtain ⟨L', h1, h2, h3, h4⟩ := S3.out
  exact ⟨u, rfl, L', h1, h2, h3, (K2.out.mono fun _ _ => False.elim).trans_ h4⟩

/-- All of a queue: its timers, in order. -/
theorem all_any {w : World} {q : Nat} {L : List Tm} {X : Nat → Prop} (h : Qu w q L X) :
    Calls Tryd.prog 15 #[.pointer (some ⟨q, 0, none⟩)] w fun e w' => ∃ u, e = .returned u ∧ Rd w' u L ∧ Keeps (fun _ => False) w w' := by
  obtain ⟨l, hp, hperm, hU⟩ := h
  have few := hp.1.few
  have ho := hp.1.nodup
  have cn := Lib.hid (none_line hp.1)
  obtain ⟨mb, v, f, hP⟩ := hp.1
  obtain ⟨o, c, rfl, _⟩ := TRow.shape hP.row
  have c0 : w.cell? ⟨q, 0, none⟩ = some (.slice o l.length c) := hP.blk.at_ 0
  have cs := Lib.hid (sorted_any w.heap.size (.slice o l.length c) l ho (by omega) (w.alloc (.cells #[.slice o l.length c] 27)) ((Whole.made w 27 #[.slice o l.length c]).at_ 0) ((TRow.rd hP.row).same ((Keeps.refl _ w).alloc _)))
  have hp' := Lib.hid hperm
  have hU' := Lib.hid hU
  clear hP hp ho hperm hU
  generalize l.length = n at few c0 cs
  go_enter Tryd.func15, Tryd.ntmps15
  go_wp2_with (first
    | (go_at_call 27; refine cn.out.mono ?_; rintro e w' ⟨rfl, rfl⟩)
    | (go_at_call 30; refine (values_any _ _ _ _).mono ?_; rintro e w' ⟨rfl, rfl⟩)
    | (go_at_call 29; refine cs.out.mono ?_; rintro e w3 ⟨u, rfl, hS⟩; have S3 := Lib.hid hS; clear hS))
  go_ret
  obtain ⟨L', h1, h2, h3, h4⟩ := S3.out
  have e : L' = L := Up.unique h1 hU'.out (h2.trans hp'.out)
  subst e
  exact ⟨u, rfl, h3, ((Keeps.refl _ w).alloc _).trans h4 fun x hx hB => absurd hx (by simp at hB; omega)⟩
end Go.Proofs.YtjmkfloaagppdaaDoor
