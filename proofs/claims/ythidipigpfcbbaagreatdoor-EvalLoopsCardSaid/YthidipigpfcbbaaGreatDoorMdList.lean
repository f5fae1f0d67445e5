/-
  The sort and the keys of a map, out of the library's contracts, at this program's own numbers (laid by program).
  maps.Keys and slices.Sorted at a collection's map, out of the library's contracts: its keys, rising.
  List of the program's states by contract.
-/
import Derived.Test.YthidipigpfcbbaaGreatDoorProg
import Derived.Test.YthidipigpfcbbaaGreatDoorMdOps
import Derived.Shelf.SlIterI.Nil
import Derived.Shelf.SortM.Plain
import Derived.Shelf.SortM.SortNone
import Derived.Lib.SlKeysI
import Derived.OwnWalk

namespace Go.Proofs.YthidipigpfcbbaaGreatDoor
open Go.Proofs Go.Shelf

def keysA_ren : Go.Shelf.Ren := ⟨fun | 7 => 39 | 10 => 66 | n => n, fun | 23 => 83 | 26 => 3 | 3 => 3 | 28 => 97 | 0 => 0 | 27 => 96 | 33 => 99 | 4 => 4 | n => n, fun | n => n⟩

theorem keysA : Go.Proofs.SlLaysZI.n7 Tryz.prog keysA_ren := {
  mixed := by kernel_rfl,
  f7 := ⟨Tryz.f39.name, by decide, Tryz.func39.trans (congrArg some (by kernel_rfl))⟩,
  f10 := ⟨Tryz.f66.name, by decide, Tryz.func66.trans (congrArg some (by kernel_rfl))⟩,
  t0 := Tryz.underlying0,
  a0 := Tryz.isAgg0,
  z0 := Tryz.sizeOf0,
  v0 := Tryz.zeroValue0,
  t4 := Tryz.underlying4,
  a4 := Tryz.isAgg4,
  z4 := Tryz.sizeOf4,
  v4 := Tryz.zeroValue4,
  t23 := Tryz.underlying83,
  a23 := Tryz.isAgg83,
  z23 := Tryz.sizeOf83,
  v23 := Tryz.zeroValue83,
  t26 := Tryz.underlying3,
  a26 := Tryz.isAgg3,
  z26 := Tryz.sizeOf3,
  v26 := Tryz.zeroValue3,
  t27 := Tryz.underlying96,
  a27 := Tryz.isAgg96,
  z27 := Tryz.sizeOf96,
  v27 := Tryz.zeroValue96,
  t28 := Tryz.underlying97,
  a28 := Tryz.isAgg97,
  z28 := Tryz.sizeOf97,
  v28 := Tryz.zeroValue97,
  t33 := Tryz.underlying99,
  a33 := Tryz.isAgg99,
  z33 := Tryz.sizeOf99,
  v33 := Tryz.zeroValue99 }

def sortedA_ren : Go.Shelf.Ren := ⟨fun | 6 => 38 | 8 => 64 | 9 => 65 | 11 => 84 | 13 => 86 | 12 => 85 | 23 => 106 | 24 => 107 | 14 => 97 | 15 => 98 | 16 => 99 | 17 => 100 | 18 => 101 | 19 => 102 | 20 => 103 | 21 => 104 | 22 => 105 | 25 => 109 | 26 => 110 | 27 => 111 | 28 => 112 | 29 => 113 | 30 => 114 | 31 => 115 | n => n, fun | 26 => 3 | 28 => 97 | 24 => 22 | 0 => 0 | 3 => 3 | 37 => 169 | 48 => 196 | 50 => 198 | 4 => 4 | 40 => 189 | 39 => 188 | 45 => 120 | 5 => 5 | 9 => 9 | 51 => 200 | 55 => 204 | 57 => 206 | 58 => 128 | 33 => 99 | n => n, fun | n => n⟩

theorem sortedA : Go.Proofs.SlLaysZI.n6 Tryz.prog sortedA_ren := {
  mixed := by kernel_rfl,
  f6 := ⟨Tryz.f38.name, by decide, Tryz.func38.trans (congrArg some (by kernel_rfl))⟩,
  f8 := ⟨Tryz.f64.name, by decide, Tryz.func64.trans (congrArg some (by kernel_rfl))⟩,
  f11 := ⟨Tryz.f84.name, by decide, Tryz.func84.trans (congrArg some (by kernel_rfl))⟩,
  t0 := Tryz.underlying0,
  a0 := Tryz.isAgg0,
  z0 := Tryz.sizeOf0,
  v0 := Tryz.zeroValue0,
  t24 := Tryz.underlying22,
  a24 := Tryz.isAgg22,
  z24 := Tryz.sizeOf22,
  v24 := Tryz.zeroValue22,
  t26 := Tryz.underlying3,
  a26 := Tryz.isAgg3,
  z26 := Tryz.sizeOf3,
  v26 := Tryz.zeroValue3,
  t28 := Tryz.underlying97,
  a28 := Tryz.isAgg97,
  z28 := Tryz.sizeOf97,
  v28 := Tryz.zeroValue97,
  i26 := by kernel_rfl }

def sortA_ren : Go.Shelf.Ren := ⟨fun | 5 => 65 | 8 => 86 | 7 => 85 | 19 => 106 | 20 => 107 | 10 => 97 | 11 => 98 | 12 => 99 | 13 => 100 | 14 => 101 | 15 => 102 | 16 => 103 | 17 => 104 | 18 => 105 | 30 => 109 | 31 => 110 | 32 => 111 | 33 => 112 | 34 => 113 | 35 => 114 | 40 => 115 | n => n, fun | 23 => 22 | 25 => 3 | 3 => 3 | 32 => 169 | 22 => 22 | 0 => 0 | 44 => 196 | 46 => 198 | 4 => 4 | 36 => 189 | 35 => 188 | 41 => 120 | 5 => 5 | 9 => 9 | 53 => 200 | 57 => 204 | 63 => 206 | 64 => 128 | n => n, fun | n => n⟩

theorem sortA : Go.Proofs.SlLaysM.n5 Tryz.prog sortA_ren := {
  mixed := by kernel_rfl,
  f5 := ⟨Tryz.f65.name, by decide, Tryz.func65.trans (congrArg some (by kernel_rfl))⟩,
  f7 := ⟨Tryz.f85.name, by decide, Tryz.func85.trans (congrArg some (by kernel_rfl))⟩,
  f8 := Tryz.func86.trans (congrArg some (by kernel_rfl)),
  f10 := ⟨Tryz.f97.name, by decide, Tryz.func97.trans (congrArg some (by kernel_rfl))⟩,
  f11 := ⟨Tryz.f98.name, by decide, Tryz.func98.trans (congrArg some (by kernel_rfl))⟩,
  f12 := ⟨Tryz.f99.name, by decide, Tryz.func99.trans (congrArg some (by kernel_rfl))⟩,
  f13 := ⟨Tryz.f100.name, by decide, Tryz.func100.trans (congrArg some (by kernel_rfl))⟩,
  f14 := ⟨Tryz.f101.name, by decide, Tryz.func101.trans (congrArg some (by kernel_rfl))⟩,
  f15 := ⟨Tryz.f102.name, by decide, Tryz.func102.trans (congrArg some (by kernel_rfl))⟩,
  f16 := ⟨Tryz.f103.name, by decide, Tryz.func103.trans (congrArg some (by kernel_rfl))⟩,
  f17 := ⟨Tryz.f104.name, by decide, Tryz.func104.trans (congrArg some (by kernel_rfl))⟩,
  f18 := ⟨Tryz.f105.name, by decide, Tryz.func105.trans (congrArg some (by kernel_rfl))⟩,
  f19 := Tryz.func106.trans (congrArg some (by kernel_rfl)),
  f20 := Tryz.func107.trans (congrArg some (by kernel_rfl)),
  f30 := ⟨Tryz.f109.name, by decide, Tryz.func109.trans (congrArg some (by kernel_rfl))⟩,
  f31 := Tryz.func110.trans (congrArg some (by kernel_rfl)),
  f32 := Tryz.func111.trans (congrArg some (by kernel_rfl)),
  f33 := ⟨Tryz.f112.name, by decide, Tryz.func112.trans (congrArg some (by kernel_rfl))⟩,
  f34 := ⟨Tryz.f113.name, by decide, Tryz.func113.trans (congrArg some (by kernel_rfl))⟩,
  f35 := ⟨Tryz.f114.name, by decide, Tryz.func114.trans (congrArg some (by kernel_rfl))⟩,
  f40 := ⟨Tryz.f115.name, by decide, Tryz.func115.trans (congrArg some (by kernel_rfl))⟩,
  t0 := Tryz.underlying0,
  a0 := Tryz.isAgg0,
  z0 := Tryz.sizeOf0,
  v0 := Tryz.zeroValue0,
  t3 := Tryz.underlying3,
  a3 := Tryz.isAgg3,
  z3 := Tryz.sizeOf3,
  v3 := Tryz.zeroValue3,
  t4 := Tryz.underlying4,
  a4 := Tryz.isAgg4,
  z4 := Tryz.sizeOf4,
  v4 := Tryz.zeroValue4,
  t5 := Tryz.underlying5,
  a5 := Tryz.isAgg5,
  z5 := Tryz.sizeOf5,
  v5 := Tryz.zeroValue5,
  t9 := Tryz.underlying9,
  a9 := Tryz.isAgg9,
  z9 := Tryz.sizeOf9,
  v9 := Tryz.zeroValue9,
  t22 := Tryz.underlying22,
  a22 := Tryz.isAgg22,
  z22 := Tryz.sizeOf22,
  v22 := Tryz.zeroValue22,
  t23 := Tryz.underlying22,
  a23 := Tryz.isAgg22,
  z23 := Tryz.sizeOf22,
  v23 := Tryz.zeroValue22,
  t25 := Tryz.underlying3,
  a25 := Tryz.isAgg3,
  z25 := Tryz.sizeOf3,
  v25 := Tryz.zeroValue3,
  t32 := Tryz.underlying169,
  a32 := Tryz.isAgg169,
  z32 := Tryz.sizeOf169,
  v32 := Tryz.zeroValue169,
  t35 := Tryz.underlying188,
  a35 := Tryz.isAgg188,
  z35 := Tryz.sizeOf188,
  v35 := Tryz.zeroValue188,
  t36 := Tryz.underlying189,
  a36 := Tryz.isAgg189,
  z36 := Tryz.sizeOf189,
  v36 := Tryz.zeroValue189,
  t41 := Tryz.underlying120,
  a41 := Tryz.isAgg120,
  z41 := Tryz.sizeOf120,
  v41 := Tryz.zeroValue120,
  t44 := Tryz.underlying196,
  a44 := Tryz.isAgg196,
  z44 := Tryz.sizeOf196,
  v44 := Tryz.zeroValue196,
  t46 := Tryz.underlying198,
  a46 := Tryz.isAgg198,
  z46 := Tryz.sizeOf198,
  v46 := Tryz.zeroValue198,
  t53 := Tryz.underlying200,
  a53 := Tryz.isAgg200,
  z53 := Tryz.sizeOf200,
  v53 := Tryz.zeroValue200,
  t57 := Tryz.underlying204,
  a57 := Tryz.isAgg204,
  z57 := Tryz.sizeOf204,
  v57 := Tryz.zeroValue204,
  t63 := Tryz.underlying206,
  a63 := Tryz.isAgg206,
  z63 := Tryz.sizeOf206,
  v63 := Tryz.zeroValue206,
  t64 := Tryz.underlying128,
  a64 := Tryz.isAgg128,
  z64 := Tryz.sizeOf128,
  v64 := Tryz.zeroValue128 }

end Go.Proofs.YthidipigpfcbbaaGreatDoor

namespace Go.Proofs.YthidipigpfcbbaaGreatDoor
open Go.Proofs Go.RowKit Go.Maps Go.Sort Go.Shelf

theorem sortsA (m : Nat) : AnyZI.SortsIn Tryz.prog sortedA_ren Fence.wide m :=
  ⟨fun blk off cap ss W hH hblk hsz => callsIn_wide.2 (AnyM.slices_Sort_int sortA blk off cap ss W hH hblk hsz),
   fun p cap W => callsIn_wide.2 (AnyM.slices_Sort_int_none sortA p cap W)⟩

/-- maps.Keys: a function value over one new block that holds the map. -/
theorem keys_m (mb : Nat) (w : World) :
    Calls Tryz.prog 39 #[.map (some mb)] w fun e w' => e = .returned (.func (.func 66) #[] #[.pointer (some ⟨w.heap.size, 0, none⟩)]) ∧ w' = w.alloc (.cells #[.map (some mb)] 83) :=
  (callsIn_wide (n := 5)).1 (AnyZI.keys_in keysA Fence.wide 5 trivial rfl (some mb) w)

theorem sorted_keys {n : Nat} {D : DataW Unit} {l : List Int} {f : Int → Option Int} {w : World} {b : Nat} (h : w.ownsMap Tryz.prog 3 iE.R b n D) (hr : Reads iE D f) (hl : l.Pairwise (· < ·)) (hm : ∀ x, x ∈ l ↔ (f x).isSome = true) {ss : List Int} (hp : ss.Perm (intKeys D)) :
    ss.mergeSort (fun x y => decide (x ≤ y)) = l := by
  obtain ⟨es, rfl, hpw, _⟩ := h.entries (int_keyed Tryz.underlying3)
  have hkeys : ∀ p ∈ es, ∃ x, p.1 = .int .i64 x := by
    intro p hp
    obtain ⟨es0, clock, _, F, _, hD⟩ := h
    injection hD with hD
    rw [hD] at hp
    obtain ⟨x, hx, rfl⟩ := List.mem_map.1 (mem_sorted.1 hp)
    obtain ⟨y, hy⟩ := F.reads x hx
    obtain ⟨a, _, ha, _⟩ := Maps.keyOf_int_inv Tryz.underlying3 (WideElems.rd_key hy)
    exact ⟨a, by rw [WideElems.rg_of hy]; exact ha⟩
  have hnd : l.Nodup := hl.imp fun h => by omega
  have hpl : l.Perm (intKeys (.map es)) := perm_intKeys hpw hkeys hnd fun x => by
    rw [hm x, ← (hr x).1]
    rfl
  have e1 := mergeSort_of_perm_i (hp.trans hpl.symm)
  have e2 : l.mergeSort leI = l := List.mergeSort_of_pairwise (hl.imp fun h => by simp only [leI, decide_eq_true_eq]; omega)
  exact e1.trans e2

set_option maxHeartbeats 1000000 in
/-- slices.Sorted of that: the keys, rising, in a new row. -/
theorem sorted_m (mb : Nat) (f : Int → Option Int) (l : List Int) (w : World) (hH : MH w mb f) (hl : l.Pairwise (· < ·)) (hm : ∀ x, x ∈ l ↔ (f x).isSome = true) (hlen : l.length ≤ 20000) :
    Calls Tryz.prog 38 #[.func (.func 66) #[] #[.pointer (some ⟨w.heap.size, 0, none⟩)]] (w.alloc (.cells #[.map (some mb)] 83)) fun e w' => ∃ v, e = .returned v ∧ w'.ownsRow w.heap.size 3 1 v l.length (l.map (Value.int .i64 ·)) ∧ Below w.heap.size w w' := by
  obtain ⟨D, nn, hown, hsize, hr⟩ := hH
  have hsz : Maps.size D ≤ l.length := size_le Tryz.underlying3 hown hr l fun k hk => (hm k).2 hk
  have hmax : Maps.size D ≤ maxLen := by unfold maxLen; omega
  have hbytes : Maps.size D * 8 ≤ 140737488355328 := by omega
  have hbl := hown.lt
  have hseq : SeqGives Fence.wide 2 Tryz.prog 66 #[.pointer (some ⟨w.heap.size, 0, none⟩)] encZ (fun ss => ss.Perm (intKeys D)) (Maps.size D) (w.alloc (.cells #[.map (some mb)] 83)) :=
    AnyZI.keys_gives (ρ := keysA_ren) { keysA with } Fence.wide _ trivial rfl (by omega) w.heap.size mb nn D _ (by simp) (by simp) (by
      obtain ⟨es, clock, hb, Ft, hs, hD⟩ := hown
      exact ⟨es, clock, (Below.heap_alloc _ _ mb hbl).trans hb, Ft, hs, hD⟩)
  have cS := AnyZI.sorted_in sortedA Fence.wide 5 trivial trivial trivial trivial rfl (by omega) (sortsA _) (enters_of Tryz.func65 (by kernel_rfl) rfl) 66 #[.pointer (some ⟨w.heap.size, 0, none⟩)] trivial (enters_of Tryz.func66 (by kernel_rfl) rfl) _ _ hmax hbytes _ hseq
  refine ((callsIn_wide (n := 5)).1 cS).mono ?_
  rintro e w' ⟨v, ss, rfl, hS, hrow, hnil, hb⟩
  have hsort := sorted_keys hown hr hl hm hS
  rw [hsort] at hrow
  have hle : ss.length = l.length := by
    have := congrArg List.length hsort
    rw [List.length_mergeSort] at this
    exact this
  rw [hle] at hrow
  refine ⟨v, rfl, ownsRow_base_a hrow (by simp), ((Below.refl _ w).alloc (Nat.le_refl _) _).trans (hb.mono (by simp))⟩

/-- The keys of a collection's list, rising. -/
theorem sorted_row {mb : Nat} {W : Tl} {w : World} (hH : MH w mb (look W)) (hU : UpW W) (few : W.length ≤ 100) :
    Calls Tryz.prog 38 #[.func (.func 66) #[] #[.pointer (some ⟨w.heap.size, 0, none⟩)]] (w.alloc (.cells #[.map (some mb)] 83)) fun e w' => ∃ v, e = .returned v ∧ IRow w' v (W.map (·.1)) ∧ (∀ g, v.ownBlock = some g → w.heap.size ≤ g) ∧ Keeps (fun _ => False) w w' := by
  refine (sorted_m mb (look W) (W.map fun p : Int × Int => p.1) w hH hU (look_keys hU).2 (by rw [List.length_map]; omega)).mono ?_
  rintro e w' ⟨v, rfl, hrow, hb⟩
  refine ⟨v, rfl, ?_, fun g hg => (hrow.lt g hg).1, ⟨hb.os, hb.tape, hb.output, hb.size, fun k hk _ => hb.block k hk⟩⟩
  exact ⟨hrow.1, hrow.2.imp id fun ⟨g, cap, cur, h1, _, h2⟩ => ⟨g, cap, cur, h1, Nat.zero_le _, h2⟩⟩

set_option maxRecDepth 100000 in
/-- A key of a map is a Go value. -/
theorem wf_key {w : World} {b : Nat} {f : Int → Option Int} (h : MH w b f) {k : Int} (hk : (f k).isSome = true) : wfI k := by
  obtain ⟨D, n, h, _, hr⟩ := h
  obtain ⟨es, rfl, hp, _⟩ := h.entries (int_keyed Tryz.underlying3)
  have h1 := (hr k).1
  rw [hk, has_eq, List.any_eq_true] at h1
  obtain ⟨p, hp, hs⟩ := h1
  have e := WideAt.sameKey_eq hs
  obtain ⟨es0, clock, _, F, _, hD⟩ := h
  injection hD with hD
  rw [hD] at hp
  obtain ⟨x, hx, rfl⟩ := List.mem_map.1 (mem_sorted.1 hp)
  obtain ⟨y, hy⟩ := F.reads x hx
  obtain ⟨a, _, ha, hw⟩ := Maps.keyOf_int_inv Tryz.underlying3 (WideElems.rd_key hy)
  rw [WideElems.rg_of hy] at e
  have e2 : ik k = Lit.int .i64 a := e.symm.trans ha
  unfold ik at e2
  injection e2 with _ e2
  subst e2
  exact hw
end Go.Proofs.YthidipigpfcbbaaGreatDoor

namespace Go.Proofs.YthidipigpfcbbaaGreatDoor
open Go.RowKit Go.Maps Go.Extern.Stop Go.Stop Go.Extern

theorem mpair_lit {w : World} {b : Nat} {p : Int × Int} (h : Whole w b 59 #[.int .i64 p.1, .int .i64 p.2]) : PRow w (.slice (some ⟨b, 0, none⟩) 1 1) [p] :=
  ⟨rfl, .inr ⟨b, 1, _, rfl, Nat.zero_le _, h, Nat.le_refl _, (by decide : 1 ≤ maxLen), rfl, rfl⟩⟩

theorem look_at : ∀ {W : Tl} {i : Nat} {p : Int × Int}, UpW W → W[i]? = some p → look W p.1 = some p.2
  | q :: t, 0, p, _, h => by simp at h; subst h; obtain ⟨c, v⟩ := q; simp [look]
  | q :: t, i + 1, p, hU, h => by
    have hU' := List.pairwise_cons.1 (show List.Pairwise (· < ·) (q.1 :: t.map (·.1)) from hU)
    have h' : t[i]? = some p := by simpa using h
    have hne : p.1 ≠ q.1 := fun e => by
      have := hU'.1 p.1 (List.mem_map.2 ⟨p, List.mem_of_getElem? h', rfl⟩)
      omega
    have := look_at (W := t) hU'.2 h'
    obtain ⟨c, v⟩ := q
    simp only [look]
    rw [if_neg hne]
    exact this
  | [], i, p, _, h => by simp at h

section
variable {w : World} {s : Nat} {A : M8} {X : Nat → Prop}

set_option maxRecDepth 100000 in
set_option maxHeartbeats 1000000 in
theorem list_m (h : PM w s A X) (c : Int) (hc : A.there c) :
    Calls Tryz.prog 19 #[.pointer (some ⟨s, 0, none⟩), .int .i64 c] w fun e w' => ∃ u, e = .returned (.tuple #[u, .nilIface]) ∧ PRow w' u (A.col c) ∧ (∀ g, u.ownBlock = some g → w.heap.size ≤ g) ∧ Keeps (fun _ => False) w w' := by
  have ok := h.ok
  obtain ⟨vK, gC, cap, bs, h⟩ := h
  obtain ⟨b, hb, -, hM, -⟩ := h.there hc
  have cf := Lib.hid (h.found hc hb)
  have hU := (ok.col hc).1
  have few := (ok.col hc).2
  generalize A.col c = W at *
  have cs := Lib.hid (sorted_row hM hU few)
  have ck := Lib.hid (keys_m b w)
  have HM := Lib.hid hM
  have HU := Lib.hid hU
  obtain ⟨n, hn⟩ : ∃ n, W.length = n := ⟨_, rfl⟩
  have hn' := Lib.hid hn
  rw [hn] at few
  clear h hM hU hb hc ok hn
  go_enter Tryz.func19, Tryz.ntmps19
  go_wp2_with (go_at_call 37; refine cf.out.mono ?_; rintro e w' ⟨rfl, rfl⟩)
  refine ck.out.mono ?_
  rintro e w' ⟨rfl, rfl⟩
  go_wp2_with fail
  refine cs.out.mono ?_
  rintro e wS ⟨v, rfl, hrow, hnew, hK⟩
  obtain ⟨o, cc, rfl, ho⟩ := irow_cells hrow (by rw [List.length_map, hn'.out])
  have KS := Lib.hid hK
  have HC := Lib.hid ho
  clear hrow hnew hK ho
  go_wp2_with fail
  go_loopw [8, 24] (fun lv iv wr => ∃ (i : Nat) (lo : Option Addr) (lc : Nat), iv = .int .i64 i ∧ lv = .slice lo i lc ∧ i ≤ n ∧ Mine pairK wS wr (.slice lo i lc) (W.take i) ∧ Keeps (fun _ => False) wS wr) (fun lv iv _ => n - (intOf iv).toNat)
  case atStart => exact ⟨0, none, 0, rfl, rfl, Nat.zero_le _, ⟨World.ownsRow_nil .., fun g hg => by simp [Value.ownBlock] at hg⟩, Keeps.refl _ _⟩
  case round =>
    obtain ⟨i, lo, lc, rfl, rfl, hi, hM, hK⟩ := hrel
    have M1 := Lib.hid hM
    have K1 := Lib.hid hK
    have lk : (W.take i).length = i := by rw [List.length_take, hn'.out]; omega
    by_cases hlt : i < n
    · have b1 : (i : Int) < (n : Int) := by omega
      obtain ⟨g', rfl, hcl⟩ := HC.out (by omega)
      obtain ⟨d, u, hd⟩ : ∃ d u, W[i]? = some (d, u) := ⟨_, _, List.getElem?_eq_getElem (by rw [hn'.out]; exact hlt)⟩
      have q0 := hcl i d (by rw [List.getElem?_map, hd]; rfl)
      have d3 := (hK.cell (cell_lt q0) id).trans q0
      have hk := look_at HU.out hd
      simp only at hk
      have hk' := Lib.hid hk
      have T1 := Lib.hid (take_add hd)
      have HM1 := Lib.hid (HM.out.keeps (KS.out.trans hK fun _ _ => id) id)
      have wfd : (Lit.int .i64 d).wf = true := wf_key HM.out (by rw [hk]; rfl)
      clear hM hK q0 hcl hd hk
      go_wp2_with (first
        | (at_lookup; refine wpList_look _ rfl _ _ _ rfl 3 3 iE Tryz.underlying3 Tryz.underlying83 0 (zero_i _) b (look W) rfl HM1.out d rfl wfd (.int .i64 u) (by rw [hk'.out]; rfl) ?_)
        | (at_builtin; refine wpList_append_row pairK rfl _ _ rfl wS _ (W.take i) [(d, u)] rfl (M1.out.same ((Keeps.refl _ _).alloc _)) (K1.out.alloc _) _ rfl (mpair_lit (p := (d, u)) (Whole.made wr 59 #[.int .i64 ((d, u)).1, .int .i64 ((d, u)).2])) (i + 1) (by simp [lk]) (by omega) ?_; intro ao2 ac2 w2 hM hK hK3; have M2 := Lib.hid hM; have K2 := Lib.hid hK; clear hM hK hK3))
      go_roundw
      case rel =>
        exact ⟨i + 1, ao2, ac2, by go_num, rfl, by omega, by rw [T1.out]; exact M2.out, K2.out⟩
      case measure => simp [intOf]; omega
    · obtain rfl : i = n := by omega
      have b1 : ¬ (i : Int) < (i : Int) := by omega
      have ME := M1.out
      rw [List.take_of_length_le (by rw [hn'.out]; exact Nat.le_refl _)] at ME
      have ME := Lib.hid ME
      clear hM hK lk
      go_wp2_with fail
      go_ret2
      exact ⟨_, rfl, ME.out.1, fun g hg => Nat.le_trans KS.out.size (ME.out.2 g hg), KS.out.trans K1.out fun _ _ => id⟩
end
end Go.Proofs.YthidipigpfcbbaaGreatDoor
