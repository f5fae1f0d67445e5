/-
  slices.Sort and slices.Compact of a row of ints, by the library's contracts.
-/
import Derived.Test.YtpmbkeaimdeglaaDoorPvSortLay
import Derived.Test.YtpmbkeaimdeglaaDoorPvCompact
import Derived.Test.YtpmbkeaimdeglaaDoorRkInt
import Derived.Sort.OwnSortedInts
import Derived.Test.YtpmbkeaimdeglaaDoorPvMem
namespace Go.Proofs.YtpmbkeaimdeglaaDoor
open Go.Proofs Go.RowKit Go.Sort Go.Shelf Go.Lib

theorem grown_keeps {w w' : World} {g : Nat} (h : w.grownBy w' (some g)) : Keeps (fun x => x = g) w w' := (Keeps.refl _ w).grown h fun k e _ => by injection e with e; exact e.symm

theorem sort_row {w : World} {u : Value} {C : List Int} (h : IRow w u C) (few : C.length ≤ 100000) :
    Calls Tryd.prog 37 #[u] w fun e w' => e = .returned (.tuple #[]) ∧ IRow w' u (C.mergeSort fun x y => decide (x ≤ y)) ∧ Keeps (fun x => u.ownBlock = some x) w w' := by
  have hl : (C.mergeSort fun x y => decide (x ≤ y)).length = C.length := List.length_mergeSort C
  rcases h.2 with ⟨rfl, h0⟩ | ⟨g, cap, cur, rfl, hb, hg, hnc, hcm, hcs, ht⟩
  · have hC : C = [] := List.eq_nil_of_length_eq_zero h0
    subst hC
    refine (AnyM.slices_Sort_int_none sortA none 0 w).mono ?_
    rintro e w' ⟨rfl, rfl⟩
    exact ⟨rfl, by simpa using h, Keeps.refl _ _⟩
  · have ht' : cur.toList.take C.length = C.map (Value.int .i64) := by
      have : cur.toList.take (C.length * 1) = C.map fun x => Value.int .i64 x := ht
      rwa [Nat.mul_one] at this
    refine (AnyM.slices_Sort_int sortA g 0 cap C w (holds_of_blockI hg ht') (lt_of_block hg) (by omega)).mono ?_
    rintro e w' ⟨rfl, n, os, rfl⟩
    refine ⟨rfl, ?_, (grown_keeps (grownBy_sortedI _)).mono fun x _ e => by rw [e]; rfl⟩
    have := ownsRow_sortedI (n := n) (os := os) hl hb hg hnc hcm hcs
    show World.ownsRow _ _ _ _ _ _ _
    rw [hl]
    exact this

theorem compact_row {w : World} {u : Value} {C : List Int} (h : IRow w u C) (few : C.length ≤ 100000) :
    Calls Tryd.prog 38 #[u] w fun e w' => ∃ u', e = .returned u' ∧ IRow w' u' (compact C) ∧ Keeps (fun x => u.ownBlock = some x) w w' := by
  rcases h.2 with ⟨rfl, h0⟩ | ⟨g, cap, cur, rfl, hb, hg, hnc, hcm, hcs, ht⟩
  · have hC : C = [] := List.eq_nil_of_length_eq_zero h0
    subst hC
    refine (AnyG.slices_Compact_int_empty compA none 0 w).mono ?_
    rintro e w' ⟨rfl, rfl⟩
    exact ⟨_, rfl, h, Keeps.refl _ _⟩
  · have ht' : cur.toList.take C.length = C.map (Value.int .i64) := by
      have : cur.toList.take (C.length * 1) = C.map fun x => Value.int .i64 x := ht
      rwa [Nat.mul_one] at this
    refine (AnyG.slices_Compact_int compA g 0 cap C w (holds_of_blockI hg ht') (by omega) hnc).mono ?_
    rintro e w' ⟨rfl, q, rfl⟩
    have hle : (compact C).length ≤ C.length := by
      unfold compact compactUpTo
      rw [List.length_map]
      exact Nat.le_trans (List.length_filter_le _ _) (by rw [List.length_range]; exact Nat.le_refl _)
    have hz : (compact C ++ List.replicate (C.length - (compact C).length) 0).length = C.length := by simp; omega
    have e0 : putRow (Value.int .i64) (Sort.ahead w q) g 0 (compact C ++ List.replicate (C.length - (compact C).length) 0).toArray = grow (putRow (Value.int .i64) (Sort.ahead w q) g 0 (compact C ++ List.replicate (C.length - (compact C).length) 0).toArray) #[] := (grow_empty _).symm
    rw [e0]
    refine ⟨_, rfl, ?_, (grown_keeps (grownBy_sortedI _)).mono fun x _ e => by rw [e]; rfl⟩
    have := ownsRow_sortedI (n := q) (os := #[]) hz hb hg hnc hcm hcs
    have h2 : intK.Row (grow (putRow (Value.int .i64) (Sort.ahead w q) g 0 (compact C ++ List.replicate (C.length - (compact C).length) 0).toArray) #[]) (.slice (some ⟨g, 0, none⟩) C.length cap) (compact C ++ List.replicate (C.length - (compact C).length) 0) := by
      show World.ownsRow _ _ _ _ _ _ _
      rw [hz]
      exact this
    exact intK.cut h2 rfl
end Go.Proofs.YtpmbkeaimdeglaaDoor
