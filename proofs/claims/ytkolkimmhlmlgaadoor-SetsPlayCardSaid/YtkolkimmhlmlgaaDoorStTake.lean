/-
  sets: add, take by contract (slices.Delete by the library's contract, at this program's own numbers).
-/
import Derived.Test.YtkolkimmhlmlgaaDoorStMark
import Derived.Shelf.SlicesE.Delete
namespace Go.Proofs.YtkolkimmhlmlgaaDoor
open Go.Proofs Go.RowKit Go.Maps Go.Shelf Go.Extern.Stop Go.Stop Go.Extern

def delA_ren : Go.Shelf.Ren := ⟨fun | 45 => 45 | n => n, fun | 0 => 0 | 3 => 3 | 4 => 4 | 22 => 56 | 23 => 79 | n => n, fun | n => n⟩

theorem delA : Go.Proofs.SlLaysE.n45 Tryd.prog delA_ren := {
  mixed := by kernel_rfl,
  f45 := ⟨Tryd.f45.name, by decide, Tryd.func45.trans (congrArg some (by kernel_rfl))⟩,
  t0 := Tryd.underlying0,
  a0 := Tryd.isAgg0,
  z0 := Tryd.sizeOf0,
  v0 := Tryd.zeroValue0,
  t3 := Tryd.underlying3,
  a3 := Tryd.isAgg3,
  z3 := Tryd.sizeOf3,
  v3 := Tryd.zeroValue3,
  t4 := Tryd.underlying4,
  a4 := Tryd.isAgg4,
  z4 := Tryd.sizeOf4,
  v4 := Tryd.zeroValue4,
  t22 := Tryd.underlying56,
  a22 := Tryd.isAgg56,
  z22 := Tryd.sizeOf56,
  v22 := Tryd.zeroValue56,
  a23 := Tryd.isAgg79,
  z23 := Tryd.sizeOf79 }

/-- The last marks are cut off. -/
theorem delete_any {w : World} {g cap n : Nat} {l : List Nat} (h : undoK.Row w (.slice (some ⟨g, 0, none⟩) n cap) l) (hn : l.length = n) (i : Nat) (hi : i < n) :
    Calls Tryd.prog 45 #[.slice (some ⟨g, 0, none⟩) n cap, .int .i64 i, .int .i64 n] w fun e w' => e = .returned (.slice (some ⟨g, 0, none⟩) i cap) ∧ undoK.Row w' (.slice (some ⟨g, 0, none⟩) i cap) (l.take i) ∧ Keeps (fun x => x = g) w w' := by
  subst hn
  obtain ⟨h1, h2⟩ := h
  rcases h2 with ⟨hv, _⟩ | ⟨g', cap', cur, hv, hb, hg, r1, r2, r3, r4⟩
  · cases hv
  injection hv with hv _ hc
  injection hv with hv
  injection hv with hv
  subst hv
  subst hc
  obtain ⟨i0, hi0, _, hz1, _⟩ := info_parts undoK.info
  have hr3 : cur.size = cap := by have : cur.size = cap * 1 := r3; omega
  have hr4 : cur.toList.take l.length = l.map fun b => Value.map (some b) := by
    have : cur.toList.take (l.length * 1) = l.map fun b => Value.map (some b) := r4
    rwa [Nat.mul_one] at this
  have hH : Go.Sort.Holds (fun o : Option Nat => Value.map o) w g 0 (l.map some).toArray := by
    intro j hj
    have hj' : j < l.length := by simpa using hj
    refine ⟨?_, by simp [World.frozen?, hg]⟩
    have e1 : (cur.toList.take l.length)[j]? = (l.map fun b => Value.map (some b))[j]? := by rw [hr4]
    rw [List.getElem?_take_of_lt hj'] at e1
    simp only [World.cell?, hg, Nat.zero_add]
    simp only [Option.isSome_none, Bool.false_eq_true, if_false]
    rw [← Array.getElem?_toList, e1]
    simp [hj']
  have hdel := AnyE.slices_Delete (P := Tryd.prog) (ρ := delA_ren) delA (fun o : Option Nat => Value.map o) (fun o => rfl) none (fun w => Tryd.zeroValue79 w) i0 hi0 hz1 g 0 cap i l.length (l.map some).toArray w hH (by simpa using r1) (by have : cap ≤ maxLen := r2; unfold maxLen at this; omega) (by omega) (by simp)
  simp only [List.size_toArray, List.length_map] at hdel
  refine hdel.mono ?_
  rintro e w' ⟨rfl, q, rfl⟩
  have e0 : l.length - (l.length - i) = i := by omega
  rw [e0]
  refine ⟨rfl, ⟨?_, .inr ⟨g, cap, Go.Sort.putCells (fun o : Option Nat => Value.map o) 0 ((l.map some).take i ++ (l.map some).drop l.length ++ List.replicate (l.length - i) none).toArray cur, ?_, Nat.zero_le _, ?_, ?_, r2, ?_, ?_⟩⟩, ?_⟩
  · show ((l.take i).map fun b => Value.map (some b)).length = (l.take i).length * 1
    simp
  · have : (l.take i).length = i := by simp; omega
    rw [this]
  · simp [Go.Sort.putRow, Go.Sort.mapBlock, Go.Sort.ahead, Array.getElem?_modify, hg, Go.Sort.onCells]
  · have : (l.take i).length = i := by simp; omega
    omega
  · show (Go.Sort.putCells _ _ _ cur).size = cap * 1
    simp [Go.Sort.putCells, hr3]
  · show List.take ((l.take i).length * 1) _ = (l.take i).map fun b => Value.map (some b)
    have hl : (l.take i).length = i := by simp; omega
    rw [hl, Nat.mul_one]
    apply List.ext_getElem?
    intro j
    rcases Nat.lt_or_ge j i with hj | hj
    · rw [List.getElem?_take_of_lt hj, Array.getElem?_toList, List.getElem?_map, List.getElem?_take_of_lt hj]
      have hjc : j < cur.size := by omega
      have hjl : j < l.length := by omega
      have hsz : ((l.map some).take i ++ (l.map some).drop l.length ++ List.replicate (l.length - i) (none : Option Nat)).length = l.length := by simp; omega
      simp only [Go.Sort.putCells, Array.getElem?_mapIdx, Array.getElem?_eq_getElem hjc, Option.map_some, Nat.zero_add, Nat.sub_zero, Nat.zero_le, true_and, List.size_toArray, hsz]
      rw [if_pos hjl, List.getElem?_eq_getElem hjl]
      simp only [Option.map_some]
      have e5 : ((l.map some).take i ++ (l.map some).drop l.length ++ List.replicate (l.length - i) (none : Option Nat)).toArray[j]! = some l[j] := by
        rw [getElem!_pos _ j (by simp only [List.size_toArray, hsz]; exact hjl), List.getElem_toArray, List.getElem_append_left (by simp; omega), List.getElem_append_left (by simp; omega)]
        simp
      rw [e5]
    · rw [List.getElem?_take_eq_none (by omega), List.getElem?_eq_none (by simp; omega)]
  · refine ⟨rfl, rfl, rfl, by simp, fun k _ hk => ?_⟩
    unfold Go.Sort.putRow Go.Sort.mapBlock
    rw [Array.getElem?_modify, if_neg (fun e => hk e.symm)]
    rfl

/-- Part of a merge: what is still to come is left out. -/
def pm (u v : Lg) (left : Int → Bool) : Lg := fun k => match u k with
  | some x => some x
  | none => if left k = true then none else v k

theorem pm_start (u v : Lg) : pm u v (fun k => (v k).isSome) = u := funext fun k => by
  unfold pm
  cases hu : u k with
  | some x => rfl
  | none => cases hv : v k <;> simp [hv]
theorem pm_end {u v : Lg} {left : Int → Bool} (h : ∀ k, left k = false) : pm u v left = merge u v := funext fun k => by
  unfold pm merge
  rw [h k]
  cases u k <;> simp
theorem pm_step {u v : Lg} {left : Int → Bool} {c : Int} {x : Bef} (hl : left c = true) (hv : v c = some x) : note (pm u v left) c x = pm u v (fun k => left k && !decide (k = c)) := by
  funext k
  unfold note
  have hc : pm u v left c = u c := by unfold pm; rw [hl]; cases u c <;> simp
  rw [hc]
  by_cases e : k = c
  · subst e
    cases hu : u k with
    | some y => simp [pm, hu]
    | none => simp [pm, hu, upd, hv]
  · split
    · unfold pm; simp [e]
    · unfold upd pm; simp [e]
theorem pm_few {u v : Lg} {left : Int → Bool} {N M : Nat} (h : Few N u) (k : Few M v) : Few (N + M) (pm u v left) := by
  obtain ⟨l, h1, h2⟩ := h
  obtain ⟨l', k1, k2⟩ := k
  refine ⟨l ++ l', by simp; omega, fun c hc => List.mem_append.2 ?_⟩
  unfold pm at hc
  cases hu : u c with
  | some x => exact .inl (h2 c (by rw [hu]; rfl))
  | none =>
    rw [hu] at hc
    by_cases hl : left c = true
    · simp [hl] at hc
    · simp [hl] at hc; exact .inr (k2 c hc)

/-- A range under way goes on where both its blocks are as they were. -/
theorem Ranging.same {V : Type} {P : Program} {k : TypeId} {E : Enc V} {w w' : World} {b r : Nat} {f : Int → Option V} {left : Int → Bool} {cnt : Nat} (h : Ranging P k E w b r f left cnt) (h1 : w'.heap[b]? = w.heap[b]?) (h2 : w'.heap[r]? = w.heap[r]?) : Ranging P k E w' b r f left cnt := by
  obtain ⟨D, n, lf, ⟨es, clock, since, seen, c0, hb, F, hs, hD, hr, rest⟩, hRd, hlf⟩ := h
  exact ⟨D, n, lf, ⟨es, clock, since, seen, c0, h1.trans hb, F, hs, hD, h2.trans hr, rest⟩, hRd, hlf⟩
theorem Ranging.lts {V : Type} {P : Program} {k : TypeId} {E : Enc V} {w : World} {b r : Nat} {f : Int → Option V} {left : Int → Bool} {cnt : Nat} (h : Ranging P k E w b r f left cnt) : b < w.heap.size ∧ r < w.heap.size := by
  obtain ⟨D, n, lf, ⟨es, clock, since, seen, c0, hb, F, hs, hD, hr, rest⟩, hRd, hlf⟩ := h
  exact ⟨lt_of_block hb, lt_of_block hr⟩

set_option maxRecDepth 100000 in
theorem add_any {w : World} {b b2 : Nat} {u v : Lg} (h : HoldsM Tryd.prog 23 bE w b u) (h2 : HoldsM Tryd.prog 23 bE w b2 v) (hne : ¬ b2 = b) {N M : Nat} (fu : Few N u) (fv : Few M v) (hNM : N + M < 1000000) :
    Calls Tryd.prog 38 #[.map (some b), .map (some b2)] w fun e w' => e = .returned (.tuple #[]) ∧ HoldsM Tryd.prog 23 bE w' b (merge u v) ∧ Keeps (fun y => y = b) w w' := by
  have lb := h.lt
  have lb2 := h2.lt
  have H1 := Lib.hid h
  have H2 := Lib.hid h2
  have hfew := Lib.hid (fun left => pm_few (left := left) fu fv)
  clear h h2 fu fv
  go_enter Tryd.func38, Tryd.ntmps38
  go_wp2_with (first
    | (at_range; refine wpList_ranging _ rfl _ 79 rfl 23 83 bE Tryd.underlying23 Tryd.underlying79 b2 v rfl H2.out ?_; intro W cnt0 hR hG hS; have R0 := Lib.hid hR; have K0 := Lib.hid ((Keeps.refl (fun _ => False) w).grown hG (fun _ h _ => by cases h)); clear hR hG hS))
  go_frame
  go_loopw [4] (fun _ wr => ∃ (left : Int → Bool) (cn : Nat), Ranging Tryd.prog 23 bE wr b2 w.heap.size v left cn ∧ HoldsM Tryd.prog 23 bE wr b (pm u v left) ∧ Keeps (fun y => y = b) w wr) (fun _ wr => wr.rangeLeft b2 w.heap.size)
  case atStart => exact ⟨_, cnt0, R0.out, by rw [pm_start]; exact H1.out.keeps K0.out id, K0.out.mono fun _ _ => False.elim⟩
  case round =>
    clear R0 K0
    obtain ⟨left, cn, hR, hB, hK⟩ := hrel
    have R1 := Lib.hid hR
    have B1 := Lib.hid hB
    have K1 := Lib.hid hK
    clear hR hB hK
    go_wp2_with (first
      | (at_next; refine wpList_next_ranging _ rfl _ rfl 23 bE Tryd.underlying23 b2 w.heap.size v left cn rfl R1.out ?_ ?_))
    · intro hDone
      have he := Lib.hid (pm_end (u := u) (v := v) hDone)
      clear hDone
      go_wp2
      go_end0
      exact ⟨rfl, by rw [← he.out]; exact B1.out, K1.out⟩
    · intro x c w1 cnt1 hwx hlx hfx hR1 hlt hg1 hs1 hen
      have hen2 : (Instr.entry (.pointer (some ⟨w.heap.size, 0, none⟩))).run Tryd.prog w1 = .ok (.tuple #[.int .u64 x, .agg #[.int .u64 c.1, .bool c.2]]) w1 := hen
      have hstep := Lib.hid (pm_step (u := u) hlx hfx)
      have R2 := Lib.hid hR1
      have hr1 := hR1.lts.2
      have kx : Keeps (fun y => y = w.heap.size) wr w1 := Keeps.of_grown hg1
      have K2 := Lib.hid (K1.out.trans kx fun y hy e => absurd hy (by omega))
      have B2 := Lib.hid (B1.out.keeps kx (fun (e : b = w.heap.size) => by omega))
      have hlt' := Lib.hid hlt
      clear hlx hfx hR1 hlt hg1 hs1 hen kx
      have k3 : Keeps (fun _ => False) w1 (w1.alloc (.cells #[.int .u64 c.1, .bool c.2] 83)) := (Keeps.refl _ w1).alloc _
      have cn3 := Lib.hid (note_any (B2.out.keeps k3 id) (hfew.out left) hNM x hwx c)
      have R3 := Lib.hid (R2.out.alloc (.cells #[.int .u64 c.1, .bool c.2] 83))
      have K3 := Lib.hid (K2.out.trans k3 fun _ _ => False.elim)
      obtain ⟨W3, hW3⟩ : ∃ W, W = w1.alloc (.cells #[.int .u64 c.1, .bool c.2] 83) := ⟨_, rfl⟩
      rw [← hW3] at cn3 R3 K3
      have hW3' := Lib.hid hW3
      clear k3 hW3
      obtain ⟨c1, c2⟩ := c
      go_wp2_with fail
      rw [← hW3'.out]
      refine cn3.out.mono ?_
      rintro e w4 ⟨rfl, hB4, hK4⟩
      have B4 := Lib.hid (hstep.out ▸ hB4)
      have R4 := Lib.hid (R3.out.same (hK4.block b2 R3.out.lts.1 hne) (hK4.block w.heap.size R3.out.lts.2 (fun (e : w.heap.size = b) => by omega)))
      have K4 := Lib.hid (K3.out.trans_ hK4)
      clear hB4 hK4
      go_wp2_with fail
      go_roundw
      case rel => exact ⟨_, cnt1, R4.out, B4.out, K4.out⟩
      case measure => rw [R4.out.left_eq, R1.out.left_eq]; exact hlt'.out
end Go.Proofs.YtkolkimmhlmlgaaDoor
