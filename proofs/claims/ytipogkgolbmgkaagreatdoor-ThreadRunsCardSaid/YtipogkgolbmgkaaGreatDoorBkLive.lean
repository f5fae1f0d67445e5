/-
  blocks: Live by contract, out of contracts for maps.Keys and slices.Sorted (the two premises): the refs of all live blocks, by rising places, in a new slice.
-/
import Derived.Test.YtipogkgolbmgkaaGreatDoorBkRow
namespace Go.Proofs.YtipogkgolbmgkaaGreatDoor
open Go.RowKit Go.Extern.Stop Go.Stop Go.Extern

/-- maps.Keys of a map of blocks: a function value over one new block that holds the map. -/
def KeysSaid : Prop := ∀ (mb : Nat) (w : World),
  Calls Tryz.prog 35 #[.map (some mb)] w fun e w' => e = .returned (.func (.func 60) #[] #[.pointer (some ⟨w.heap.size, 0, none⟩)]) ∧ w' = w.alloc (.cells #[.map (some mb)] 78)

/-- slices.Sorted of that: a new slice that has the map's keys, rising. -/
def SortedSaid : Prop := ∀ (mb : Nat) (f : Int → Option BV) (l : List Int) (w : World), HoldsM Tryz.prog 3 bvE w mb f → l.Pairwise (· < ·) → (∀ x, x ∈ l ↔ (f x).isSome = true) → l.length ≤ 20000 →
  Calls Tryz.prog 34 #[.func (.func 60) #[] #[.pointer (some ⟨w.heap.size, 0, none⟩)]] (w.alloc (.cells #[.map (some mb)] 78)) fun e w' => ∃ v, e = .returned v ∧ w'.ownsRow w.heap.size 3 1 v l.length (l.map (Value.int .i64 ·)) ∧ Below w.heap.size w w'

/-- The refs of all live blocks, by rising places. -/
def liveRefs (bs : List Blk) : List Nat := (bs.filter (·.live)).map Blk.ref

theorem liveRefs_len (bs : List Blk) : (liveRefs bs).length = liveN bs := by
  unfold liveRefs liveN liveOne
  induction bs with
  | nil => rfl
  | cons D r ih =>
    rw [List.length_map] at ih ⊢
    rw [List.filter_cons]
    simp only [List.map_cons, List.sum_cons]
    split <;> simp_all <;> omega

theorem liveN_le (bs : List Blk) : liveN bs ≤ bs.length := by
  unfold liveN
  induction bs with
  | nil => exact Nat.le_refl _
  | cons D r ih =>
    have : liveOne D ≤ 1 := by unfold liveOne; split <;> omega
    simp only [List.map_cons, List.sum_cons, List.length_cons]
    omega

theorem liveRefs_take (bs : List Blk) (k : Nat) (hk : k < bs.length) : liveRefs (bs.take (k + 1)) = liveRefs (bs.take k) ++ if bs[k].live then [bs[k].ref] else [] := by
  unfold liveRefs
  rw [List.take_succ_eq_append_getElem hk, List.filter_append, List.map_append]
  congr 1
  rw [List.filter_cons]
  split
  · simp
  · simp

theorem places_rise {n : Nat} {s : St} (h : s.Ok n) : (s.bs.map fun B => (B.place : Int)).Pairwise (· < ·) :=
  List.pairwise_map.2 (h.order.imp fun {B C} hBC => by omega)

theorem places_mem {n : Nat} {s : St} (h : s.Ok n) (x : Int) : x ∈ (s.bs.map fun B => (B.place : Int)) ↔ (allF s x).isSome = true := by
  constructor
  · intro hx
    obtain ⟨B, hB, rfl⟩ := List.mem_map.1 hx
    rw [allF_at, St.at_mem h hB]
    rfl
  · exact allF_keys s x

theorem Mine.apart {w0 w : World} {X Y : Nat → Prop} {e e' : TypeId} {v v' : Value} {xs ys : List Value} (h : Mine w0 w X e v xs) (h' : Mine w0 w Y e' v' ys) (hne : e ≠ e') : ∀ g, v.ownBlock = some g → v'.ownBlock ≠ some g := by
  intro g hg hg'
  rcases h.1.2 with ⟨rfl, _⟩ | ⟨q, cap, cur, rfl, _, hq, _⟩
  · cases hg
  · have e1 : q = g := by simpa [Value.ownBlock] using hg
    subst e1
    exact row_ne h'.1 (show Whole w q e cur from hq) (fun e1 => hne e1.symm) hg'

theorem Mine.still {w0 w w' : World} {X : Nat → Prop} {e : TypeId} {v : Value} {xs : List Value} {S : Nat → Prop} (h : Mine w0 w X e v xs) (k : Keeps S w w') (hS : ∀ g, v.ownBlock = some g → ¬ S g) : Mine w0 w' X e v xs :=
  ⟨ownsRow_keeps h.1 k hS, h.2⟩

theorem Mine.int_cell {w0 w : World} {X : Nat → Prop} {g n c : Nat} {l : List Int} (h : Mine w0 w X 3 (.slice (some ⟨g, 0, none⟩) n c) (l.map (Value.int .i64 ·))) (j : Nat) (hj : j < l.length) : w.cell? ⟨g, j, none⟩ = some (.int .i64 (l.getD j 0)) := by
  have h1 := h.1
  rcases h1.2 with ⟨h', _⟩ | ⟨g', cap, cur, hv, _, hg, _, _, _, ht⟩
  · cases h'
  · injection hv with e1 e2 e3
    injection e1 with e1
    injection e1 with e1
    subst e1
    rw [cell_of_row w g j cur 3 (0, 0) hg]
    have hlen : (l.map (Value.int .i64 ·)).length = l.length := List.length_map ..
    have := congrArg (fun q => q[j]?) ht
    simp only [List.getElem?_take, List.getElem?_map] at this
    rw [if_pos (by omega)] at this
    rw [List.getElem?_eq_getElem hj] at this
    simpa [List.getD, hj] using this

theorem own_alloc {w0 w V : World} {X : Nat → Prop} {e : TypeId} {v : Value} {refs : List Nat} (h : Mine w0 w X e v (refVals refs)) (k : Keeps (fun _ => False) w V) (o : Obj) : (V.alloc o).ownsRow 0 e 1 v refs.length (refVals refs) := by
  have := (h.keeps (k.alloc o) fun _ h => h.elim).1
  rw [refVals_len] at this
  exact this

/-- What Live leaves: a new slice with the refs; nothing that was there has changed. -/
def Lived (w : World) (refs : List Nat) (X : Nat → Prop) (e : Ending) (w' : World) : Prop :=
  ∃ v, e = .returned v ∧ Mine w w' X 52 v (refVals refs) ∧ Keeps (fun _ => False) w w'

set_option maxRecDepth 100000 in
set_option maxHeartbeats 400000 in
theorem live_bk (hk : KeysSaid) (hs : SortedSaid) {b : Nat} {ws : List Int} {cnt : Nat} {st : St} {X : Nat → Prop} (w : World) (h : Bk w b ws cnt st X) :
    Calls Tryz.prog 18 #[.pointer (some ⟨b, 0, none⟩)] w fun e w' => Lived w (liveRefs st.bs) X e w' := by
  have hold := Lib.hid h.old
  obtain ⟨a, bw, mb, fb, rows, h⟩ := h
  have c0 : w.cell? ⟨b, 0, none⟩ = some (.pointer (some ⟨a, 0, none⟩)) := h.blk.at_ 0
  have c1 : w.cell? ⟨b, 1, none⟩ = some (.map (some mb)) := h.blk.at_ 1
  have hlen16 := h.arena.2.2.2
  have hroom := h.ok.room
  have hbl := bs_length h.ok
  have h' := Lib.hid h
  have ck := Lib.hid (hk mb w)
  have cs := Lib.hid (hs mb (allF st) _ w h.all (places_rise h.ok) (places_mem h.ok) (by rw [List.length_map]; omega))
  clear h hk hs
  obtain ⟨i0, hi, hz0, hz1, hz2⟩ := info_parts info_word
  have hI := Lib.hid (show Tryz.prog.info? 52 = some i0 ∧ i0.zero = some (.int .u64 0) ∧ i0.size = 1 ∧ i0.bytes = 8 from ⟨hi, hz0, hz1, hz2⟩)
  clear hi hz0 hz1 hz2
  go_enter Tryz.func18, Tryz.ntmps18
  go_wp2_with (go_at_call 33; refine (none_bk _ c0).mono ?_; rintro e w' ⟨rfl, rfl⟩)
  refine ck.out.mono ?_
  rintro e w' ⟨rfl, rfl⟩
  go_wp2_with fail
  refine cs.out.mono ?_
  rintro e W ⟨v, rfl, hrow, hb⟩
  have K1 := Lib.hid (show Keeps (fun _ => False) w W from ⟨hb.os, hb.tape, hb.output, hb.size, fun k hk _ => hb.block k hk⟩)
  have M1 := Lib.hid (show Mine w W X 3 v ((st.bs.map fun B => (B.place : Int)).map (Value.int .i64 ·)) from ⟨by rw [List.length_map]; exact ⟨hrow.1, hrow.2.imp id fun ⟨g, cap, cur, h1, _, h2⟩ => ⟨g, cap, cur, h1, Nat.zero_le _, h2⟩⟩, fun g hg => ⟨fun hx => by have := hold.out g hx; have := (hrow.lt g hg).1; omega, (hrow.lt g hg).1⟩⟩)
  obtain ⟨o, c, hv, ho⟩ := M1.out.shape
  rw [List.length_map, List.length_map] at hv ho
  subst hv
  have ho' := Lib.hid ho
  clear ho hrow hb
  go_wp2_with fail
  go_loopw [3, 16] (fun rv i wr => ∃ k : Nat, k ≤ st.bs.length ∧ i = .int .i64 k ∧ Mine w wr X 52 rv (refVals (liveRefs (st.bs.take k))) ∧ Mine w wr X 3 (.slice o st.bs.length c) ((st.bs.map fun B => (B.place : Int)).map (Value.int .i64 ·)) ∧ Keeps (fun _ => False) w wr) (fun _ i _ => st.bs.length - (intOf i).toNat)
  case atStart => exact ⟨0, by omega, rfl, Mine.nothing _ _ _ _, M1.out, K1.out⟩
  case round =>
    obtain ⟨k, hk, rfl, hR, hM, hK⟩ := hrel
    have R2 := Lib.hid hR
    have M2 := Lib.hid hM
    have K2 := Lib.hid hK
    clear hR hM hK
    by_cases hlt : k < st.bs.length
    · obtain ⟨g, rfl⟩ := ho'.out (by omega)
      have hpl : (st.bs.map fun B => (B.place : Int)).getD k 0 = (st.bs[k].place : Int) := by simp [List.getD, hlt]
      have hc0 := M2.out.int_cell k (by rw [List.length_map]; exact hlt)
      rw [hpl] at hc0
      have hP := h'.out.keeps K2.out fun _ _ => id
      have d1 : wr.cell? ⟨b, 1, none⟩ = some (.map (some mb)) := hP.blk.at_ 1
      have hBm : st.bs[k] ∈ st.bs := List.getElem_mem hlt
      have hfit := h'.out.ok.fits _ hBm
      have hu : bvE.val ((allF st (st.bs[k].place : Int)).getD ⟨0, 0, false⟩) = st.bs[k].val := by
        rw [allF_at, St.at_mem h'.out.ok hBm]
        rfl
      have htk := liveRefs_take st.bs k hlt
      have cr := ref_any st.bs[k].size st.bs[k].gen st.bs[k].place st.bs[k].live (by omega) (by omega)
      have href : st.bs[k].gen * 4294967296 + st.bs[k].place = st.bs[k].ref := rfl
      rw [href] at cr
      have hvl : st.bs[k].val = .agg #[.int .i64 st.bs[k].size, .int .u32 st.bs[k].gen, .bool st.bs[k].live] := rfl
      rw [hvl] at hu
      have hwp : (Lit.int .i64 (st.bs[k].place : Int)).wf = true := WalkArith.wf_i64 (by omega)
      have hrl : (liveRefs (st.bs.take k)).length ≤ 16384 := by
        rw [liveRefs_len]
        have h1 := liveN_le (st.bs.take k)
        rw [List.length_take] at h1
        omega
      have htk' := Lib.hid htk
      generalize liveRefs (st.bs.take k) = lr at R2 hrl htk'
      generalize st.bs[k].ref = rf at cr htk'
      generalize st.bs[k].live = lv at cr htk' hu
      generalize st.bs[k].size = sz at cr hu
      generalize st.bs[k].gen = gn at cr hu
      generalize st.bs[k].place = pl at cr hu hc0 hwp
      have hu' := Lib.hid hu
      have P2 := Lib.hid hP
      have cr' := Lib.hid cr
      clear hu hP cr htk hpl hfit hBm href hvl
      cases lv with
      | true =>
        go_wp2_with (first
          | (at_lookup; refine wpList_look _ rfl _ _ 78 rfl 3 81 bvE Tryz.underlying3 Tryz.underlying78 ⟨0, 0, false⟩ (zero_bv _) mb (allF st) rfl P2.out.all pl rfl hwp _ hu'.out ?_)
          | (go_at_call 36; refine (cr'.out _).mono ?_; rintro e V ⟨rfl, hK⟩; have k3 := Lib.hid (((Keeps.refl (fun _ => False) wr).alloc (.cells #[.int .i64 sz, .int .u32 gn, .bool true] 81)).trans_ hK); have rA := Lib.hid (own_alloc R2.out k3.out (.cells #[.int .u64 (rf : Int)] 52)); clear hK)
          | (at_builtin; refine wpList_append_mine _ rfl _ _ 45 rfl 52 i0 (.int .u64 0) 8 Tryz.underlying45 hI.out.1 hI.out.2.1 hI.out.2.2.1 hI.out.2.2.2 rfl u3 lr.length (refVals lr) rfl rA.out ⟨V.heap.size, 0, none⟩ 1 (.int .u64 (rf : Int)) rfl (cell_one _ _ _) rfl (by unfold maxLen; omega) (by omega) ?_; intro g2 cap2 V2 hO hG hloc; have O4 := Lib.hid hO; have G4 := Lib.hid hG; have l4 := Lib.hid hloc; clear hO hG hloc))
        have RV := R2.out.keeps k3.out fun _ h => h.elim
        have MV := M2.out.keeps k3.out fun _ h => h.elim
        have hsz : w.heap.size ≤ V.heap.size := Nat.le_trans K2.out.size k3.out.size
        obtain ⟨g5, k5⟩ := RV.grown (y := .int .u64 (rf : Int)) hsz (fun x hx => by have := hold.out x hx; omega) ((Keeps.refl (fun _ => False) V).alloc _) (by rw [refVals_len]; exact O4.out) G4.out l4.out
        have M5 := Lib.hid (MV.still k5 fun q hq hs => MV.apart RV (by decide) q hq hs)
        rw [refVals_snoc, refVals_len, List.length_append, List.length_singleton] at g5
        have G5 := Lib.hid g5
        have K5 := Lib.hid (show Keeps (fun _ => False) w V2 from (K2.out.trans_ k3.out).trans k5 fun x hx hs => absurd (R2.out.2 x hs).2 (by omega))
        clear RV MV g5 k5 hsz
        go_roundw
        case rel => exact ⟨k + 1, by omega, by go_num, by rw [htk'.out]; exact G5.out, M5.out, K5.out⟩
        case measure => simp [intOf]; omega
      | false =>
        go_wp2_with (first
          | (at_lookup; refine wpList_look _ rfl _ _ 78 rfl 3 81 bvE Tryz.underlying3 Tryz.underlying78 ⟨0, 0, false⟩ (zero_bv _) mb (allF st) rfl P2.out.all pl rfl hwp _ hu'.out ?_))
        go_roundw
        case rel => exact ⟨k + 1, by omega, by go_num, by rw [htk'.out]; simp; exact R2.out.keeps ((Keeps.refl (fun _ => False) wr).alloc _) fun _ h => h.elim, M2.out.keeps ((Keeps.refl (fun _ => False) wr).alloc _) fun _ h => h.elim, K2.out.alloc _⟩
        case measure => simp [intOf]; omega
    · obtain rfl : k = st.bs.length := by omega
      go_wp2_with fail
      go_ret
      have hR := R2.out
      rw [List.take_length] at hR
      exact ⟨_, rfl, hR, K2.out⟩
end Go.Proofs.YtipogkgolbmgkaaGreatDoor
