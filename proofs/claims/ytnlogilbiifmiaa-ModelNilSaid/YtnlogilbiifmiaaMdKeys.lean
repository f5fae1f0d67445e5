/-
  maps.Keys and slices.Sorted at a collection's map, out of the library's contracts: its keys, rising.
-/
import Derived.Test.YtnlogilbiifmiaaMdOps
import Derived.Test.YtnlogilbiifmiaaMdSortLay
import Derived.Lib.SlKeysI
namespace Go.Proofs.Ytnlogilbiifmiaa
open Go.Proofs Go.RowKit Go.Maps Go.Sort Go.Shelf

theorem sortsA (m : Nat) : AnyZI.SortsIn Try.prog sortedA_ren Fence.wide m :=
  ⟨fun blk off cap ss W hH hblk hsz => callsIn_wide.2 (AnyM.slices_Sort_int sortA blk off cap ss W hH hblk hsz),
   fun p cap W => callsIn_wide.2 (AnyM.slices_Sort_int_none sortA p cap W)⟩

/-- maps.Keys: a function value over one new block that holds the map. -/
theorem keys_m (mb : Nat) (w : World) :
    Calls Try.prog 19 #[.map (some mb)] w fun e w' => e = .returned (.func (.func 29) #[] #[.pointer (some ⟨w.heap.size, 0, none⟩)]) ∧ w' = w.alloc (.cells #[.map (some mb)] 42) :=
  (callsIn_wide (n := 5)).1 (AnyZI.keys_in keysA Fence.wide 5 trivial rfl (some mb) w)

theorem sorted_keys {n : Nat} {D : DataW Unit} {l : List Int} {f : Int → Option Int} {w : World} {b : Nat} (h : w.ownsMap Try.prog 3 iE.R b n D) (hr : Reads iE D f) (hl : l.Pairwise (· < ·)) (hm : ∀ x, x ∈ l ↔ (f x).isSome = true) {ss : List Int} (hp : ss.Perm (intKeys D)) :
    ss.mergeSort (fun x y => decide (x ≤ y)) = l := by
  obtain ⟨es, rfl, hpw, _⟩ := h.entries (int_keyed Try.underlying3)
  have hkeys : ∀ p ∈ es, ∃ x, p.1 = .int .i64 x := by
    intro p hp
    obtain ⟨es0, clock, _, F, _, hD⟩ := h
    injection hD with hD
    rw [hD] at hp
    obtain ⟨x, hx, rfl⟩ := List.mem_map.1 (mem_sorted.1 hp)
    obtain ⟨y, hy⟩ := F.reads x hx
    obtain ⟨a, _, ha, _⟩ := Maps.keyOf_int_inv Try.underlying3 (WideElems.rd_key hy)
    exact ⟨a, by rw [WideElems.rg_of hy]; exact ha⟩
  have hnd : l.Nodup := hl.imp fun h => by omega
  have hpl : l.Perm (intKeys (.map es)) := perm_intKeys hpw hkeys hnd fun x => by
    rw [hm x, ← (hr x).1]
    rfl
  have e1 := mergeSort_of_perm_i (hp.trans hpl.symm)
  have e2 : l.mergeSort leI = l := List.mergeSort_of_pairwise (hl.imp fun h => by simp only [leI, decide_eq_true_eq]; omega)
  exact e1.trans e2

set_option maxHeartbeats 1000000 in
/-- slices.Sorted of that: the keys, rising, in a new row. -/
theorem sorted_m (mb : Nat) (f : Int → Option Int) (l : List Int) (w : World) (hH : MH w mb f) (hl : l.Pairwise (· < ·)) (hm : ∀ x, x ∈ l ↔ (f x).isSome = true) (hlen : l.length ≤ 20000) :
    Calls Try.prog 18 #[.func (.func 29) #[] #[.pointer (some ⟨w.heap.size, 0, none⟩)]] (w.alloc (.cells #[.map (some mb)] 42)) fun e w' => ∃ v, e = .returned v ∧ w'.ownsRow w.heap.size 3 1 v l.length (l.map (Value.int .i64 ·)) ∧ Below w.heap.size w w' := by
  obtain ⟨D, nn, hown, hsize, hr⟩ := hH
  have hsz : Maps.size D ≤ l.length := size_le Try.underlying3 hown hr l fun k hk => (hm k).2 hk
  have hmax : Maps.size D ≤ maxLen := by unfold maxLen; omega
  have hbytes : Maps.size D * 8 ≤ 140737488355328 := by omega
  have hbl := hown.lt
  have hseq : SeqGives Fence.wide 2 Try.prog 29 #[.pointer (some ⟨w.heap.size, 0, none⟩)] encZ (fun ss => ss.Perm (intKeys D)) (Maps.size D) (w.alloc (.cells #[.map (some mb)] 42)) :=
    AnyZI.keys_gives (ρ := keysA_ren) { keysA with } Fence.wide _ trivial rfl (by omega) w.heap.size mb nn D _ (by simp) (by simp) (by
      obtain ⟨es, clock, hb, Ft, hs, hD⟩ := hown
      exact ⟨es, clock, (Below.heap_alloc _ _ mb hbl).trans hb, Ft, hs, hD⟩)
  have cS := AnyZI.sorted_in sortedA Fence.wide 5 trivial trivial trivial trivial rfl (by omega) (sortsA _) (enters_of Try.func28 (by kernel_rfl) rfl) 29 #[.pointer (some ⟨w.heap.size, 0, none⟩)] trivial (enters_of Try.func29 (by kernel_rfl) rfl) _ _ hmax hbytes _ hseq
  refine ((callsIn_wide (n := 5)).1 cS).mono ?_
  rintro e w' ⟨v, ss, rfl, hS, hrow, hnil, hb⟩
  have hsort := sorted_keys hown hr hl hm hS
  rw [hsort] at hrow
  have hle : ss.length = l.length := by
    have := congrArg List.length hsort
    rw [List.length_mergeSort] at this
    exact this
  rw [hle] at hrow
  refine ⟨v, rfl, ownsRow_base_a hrow (by simp), ((Below.refl _ w).alloc (Nat.le_refl _) _).trans (hb.mono (by simp))⟩

/-- The keys of a collection's list, rising. -/
theorem sorted_row {mb : Nat} {W : Tl} {w : World} (hH : MH w mb (look W)) (hU : UpW W) (few : W.length ≤ 100) :
    Calls Try.prog 18 #[.func (.func 29) #[] #[.pointer (some ⟨w.heap.size, 0, none⟩)]] (w.alloc (.cells #[.map (some mb)] 42)) fun e w' => ∃ v, e = .returned v ∧ IRow w' v (W.map (·.1)) ∧ (∀ g, v.ownBlock = some g → w.heap.size ≤ g) ∧ Keeps (fun _ => False) w w' := by
  refine (sorted_m mb (look W) (W.map fun p : Int × Int => p.1) w hH hU (look_keys hU).2 (by rw [List.length_map]; omega)).mono ?_
  rintro e w' ⟨v, rfl, hrow, hb⟩
  refine ⟨v, rfl, ?_, fun g hg => (hrow.lt g hg).1, ⟨hb.os, hb.tape, hb.output, hb.size, fun k hk _ => hb.block k hk⟩⟩
  exact ⟨hrow.1, hrow.2.imp id fun ⟨g, cap, cur, h1, _, h2⟩ => ⟨g, cap, cur, h1, Nat.zero_le _, h2⟩⟩

set_option maxRecDepth 100000 in
/-- A key of a map is a Go value. -/
theorem wf_key {w : World} {b : Nat} {f : Int → Option Int} (h : MH w b f) {k : Int} (hk : (f k).isSome = true) : wfI k := by
  obtain ⟨D, n, h, _, hr⟩ := h
  obtain ⟨es, rfl, hp, _⟩ := h.entries (int_keyed Try.underlying3)
  have h1 := (hr k).1
  rw [hk, has_eq, List.any_eq_true] at h1
  obtain ⟨p, hp, hs⟩ := h1
  have e := WideAt.sameKey_eq hs
  obtain ⟨es0, clock, _, F, _, hD⟩ := h
  injection hD with hD
  rw [hD] at hp
  obtain ⟨x, hx, rfl⟩ := List.mem_map.1 (mem_sorted.1 hp)
  obtain ⟨y, hy⟩ := F.reads x hx
  obtain ⟨a, _, ha, hw⟩ := Maps.keyOf_int_inv Try.underlying3 (WideElems.rd_key hy)
  rw [WideElems.rg_of hy] at e
  have e2 : ik k = Lit.int .i64 a := e.symm.trans ha
  unfold ik at e2
  injection e2 with _ e2
  subst e2
  exact hw
end Go.Proofs.Ytnlogilbiifmiaa
