/-
  maps.Keys and slices.Sorted at the map of all blocks, out of the library's contracts.
-/
import Derived.Test.YtipogkgolbmgkaaGreatDoorBkLive
import Derived.Test.YtipogkgolbmgkaaGreatDoorBkSortLay
import Derived.Lib.SlKeysI
namespace Go.Proofs.YtipogkgolbmgkaaGreatDoor
open Go.Proofs Go.RowKit Go.Maps Go.Sort Go.Shelf

theorem sortsA (m : Nat) : AnyZI.SortsIn Tryz.prog sortedA_ren Fence.wide m :=
  ⟨fun blk off cap ss W hH hblk hsz => callsIn_wide.2 (AnyM.slices_Sort_int sortA blk off cap ss W hH hblk hsz),
   fun p cap W => callsIn_wide.2 (AnyM.slices_Sort_int_none sortA p cap W)⟩

theorem keysSaid : KeysSaid := fun mb w =>
  (callsIn_wide (n := 5)).1 (AnyZI.keys_in keysA Fence.wide 5 trivial rfl (some mb) w)

theorem sorted_places {n : Nat} {D : DataW Unit} {l : List Int} {f : Int → Option BV} {w : World} {b : Nat} (h : w.ownsMap Tryz.prog 3 bvE.R b n D) (hr : Reads bvE D f) (hl : l.Pairwise (· < ·)) (hm : ∀ x, x ∈ l ↔ (f x).isSome = true) {ss : List Int} (hp : ss.Perm (intKeys D)) :
    ss.mergeSort (fun x y => decide (x ≤ y)) = l := by
  obtain ⟨es, rfl, hpw, _⟩ := h.entries (int_keyed Tryz.underlying3)
  have hkeys : ∀ p ∈ es, ∃ x, p.1 = .int .i64 x := by
    intro p hp
    obtain ⟨es0, clock, _, F, _, hD⟩ := h
    injection hD with hD
    rw [hD] at hp
    obtain ⟨x, hx, rfl⟩ := List.mem_map.1 (mem_sorted.1 hp)
    obtain ⟨y, hy⟩ := F.reads x hx
    obtain ⟨a, _, ha, _⟩ := Maps.keyOf_int_inv Tryz.underlying3 (WideElems.rd_key hy)
    exact ⟨a, by rw [WideElems.rg_of hy]; exact ha⟩
  have hnd : l.Nodup := hl.imp fun h => by omega
  have hpl : l.Perm (intKeys (.map es)) := perm_intKeys hpw hkeys hnd fun x => by
    rw [hm x, ← (hr x).1]
    rfl
  have e1 := mergeSort_of_perm_i (hp.trans hpl.symm)
  have e2 : l.mergeSort leI = l := List.mergeSort_of_pairwise (hl.imp fun h => by simp only [leI, decide_eq_true_eq]; omega)
  exact e1.trans e2

set_option maxHeartbeats 1000000 in
theorem sortedSaid : SortedSaid := by
  intro mb f l w hH hl hm hlen
  obtain ⟨D, nn, hown, hsize, hr⟩ := hH
  have hsz : Maps.size D ≤ l.length := size_le Tryz.underlying3 hown hr l fun k hk => (hm k).2 hk
  have hmax : Maps.size D ≤ maxLen := by unfold maxLen; omega
  have hbytes : Maps.size D * 8 ≤ 140737488355328 := by omega
  have hbl := hown.lt
  have hseq : SeqGives Fence.wide 2 Tryz.prog 60 #[.pointer (some ⟨w.heap.size, 0, none⟩)] encZ (fun ss => ss.Perm (intKeys D)) (Maps.size D) (w.alloc (.cells #[.map (some mb)] 78)) :=
    AnyZI.keys_gives (ρ := keysA_ren) { keysA with } Fence.wide _ trivial rfl (by omega) w.heap.size mb nn D _ (by simp) (by simp) (by
      obtain ⟨es, clock, hb, Ft, hs, hD⟩ := hown
      exact ⟨es, clock, (Below.heap_alloc _ _ mb hbl).trans hb, Ft, hs, hD⟩)
  have cS := AnyZI.sorted_in sortedA Fence.wide 5 trivial trivial trivial trivial rfl (by omega) (sortsA _) (enters_of Tryz.func59 (by kernel_rfl) rfl) 60 #[.pointer (some ⟨w.heap.size, 0, none⟩)] trivial (enters_of Tryz.func60 (by kernel_rfl) rfl) _ _ hmax hbytes _ hseq
  refine ((callsIn_wide (n := 5)).1 cS).mono ?_
  rintro e w' ⟨v, ss, rfl, hS, hrow, hnil, hb⟩
  have hsort := sorted_places hown hr hl hm hS
  rw [hsort] at hrow
  have hle : ss.length = l.length := by
    have := congrArg List.length hsort
    rw [List.length_mergeSort] at this
    exact this
  rw [hle] at hrow
  refine ⟨v, rfl, ownsRow_base_a hrow (by simp), ((Below.refl _ w).alloc (Nat.le_refl _) _).trans (hb.mono (by simp))⟩
end Go.Proofs.YtipogkgolbmgkaaGreatDoor
