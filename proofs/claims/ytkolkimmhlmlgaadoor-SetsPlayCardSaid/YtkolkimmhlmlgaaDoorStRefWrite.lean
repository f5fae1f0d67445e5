/-
  The document's sets: Write by contract (printed by gen/mkrwrite.py).
-/
import Derived.Test.YtkolkimmhlmlgaaDoorStRefRead
namespace Go.Proofs.YtkolkimmhlmlgaaDoor
open Go.RowKit Go.Maps Go.Extern.Stop Go.Stop Go.Extern

theorem put_all {T : Tl} {c v : Int} (h : ∀ x ∈ T, x.1 < c) : put T c v = T ++ [(c, v)] := by
  unfold put low high
  rw [List.filter_eq_self.2 (fun x hx => by simpa using h x hx), List.filter_eq_nil_iff.2 (fun x hx => by have := h x hx; simp; omega)]
theorem put_eq {T : Tl} {c u v : Int} (h : ∀ x ∈ T, x.1 < c) : put (T ++ [(c, u)]) c v = T ++ [(c, v)] := by
  unfold put low high
  rw [List.filter_append, List.filter_append, List.filter_eq_self.2 (fun x hx => by simpa using h x hx), show T.filter (fun p => decide (c < p.1)) = [] from List.filter_eq_nil_iff.2 (fun x hx => by have := h x hx; simp; omega)]
  simp
theorem put_gt {T : Tl} {c d u v : Int} (h : c < d) : put (T ++ [(d, u)]) c v = put T c v ++ [(d, u)] := by
  unfold put low high
  have h' : ¬ d < c := by omega
  simp [List.filter_append, h, h']

theorem up_at {W : Tl} (h : UpW W) {i j : Nat} {p q : Int × Int} (hp : W[i]? = some p) (hq : W[j]? = some q) (hij : i < j) : p.1 < q.1 := by
  have h' : W.Pairwise (fun a b => a.1 < b.1) := List.pairwise_map.1 h
  obtain ⟨hi, rfl⟩ := List.getElem?_eq_some_iff.1 hp
  obtain ⟨hj, rfl⟩ := List.getElem?_eq_some_iff.1 hq
  exact List.pairwise_iff_getElem.1 h' i j hi hj hij

/-- The list under way. -/
def wl (T : Tl) (c v : Int) (p : Bool) : Tl := if p = true then put T c v else T
/-- Whether the cell has been put. -/
def wp_ (T : Tl) (c : Int) (p : Bool) : Prop := (p = false → ∀ x ∈ T, x.1 < c) ∧ (p = true → ∃ x ∈ T, c ≤ x.1)

/-- A row under way: made since w0. -/
def Fresh (w0 w : World) (v : Value) (l : Tl) (n : Nat) : Prop := wroteK.Row w v l ∧ (∀ g, v.ownBlock = some g → w0.heap.size ≤ g) ∧ Keeps (fun _ => False) w0 w ∧ l.length = n

theorem fresh_app {w0 w w' : World} {v v' : Value} {l l' : Tl} {n n' : Nat} {o : Obj} (h : Fresh w0 w v l n) (hr : wroteK.Row w' v' l') (hg : (w.alloc o).grownBy w' v.ownBlock) (ho : v'.ownBlock = v.ownBlock ∨ v'.ownBlock = some (w.alloc o).heap.size) (hn : l'.length = n') : Fresh w0 w' v' l' n' := by
  obtain ⟨h1, h2, h3, _⟩ := h
  refine ⟨hr, fun g hg' => ?_, (h3.alloc o).trans ((Keeps.refl (fun x => v.ownBlock = some x) _).grown hg fun k hk _ => hk) fun x hx e => absurd hx (by have := h2 x e; omega), hn⟩
  rcases ho with e | e
  · exact h2 g (by rw [← e]; exact hg')
  · rw [e] at hg'
    injection hg' with hg'
    have := h3.size
    rw [World.size_alloc] at hg'
    omega
theorem Fresh.same {w0 w w' : World} {v : Value} {l : Tl} {n : Nat} (h : Fresh w0 w v l n) (k : Keeps (fun _ => False) w w') : Fresh w0 w' v l n :=
  ⟨ownsRow_keeps h.1 k fun _ _ => id, h.2.1, h.2.2.1.trans k fun _ _ => id, h.2.2.2⟩

set_option maxRecDepth 100000 in
set_option maxHeartbeats 2000000 in
theorem rwrite_any {w : World} {r : Nat} {A : AS} {Y : Nat → Prop} (h : RS w r A Y) (ok : A.Ok) (c v : Int) :
    Calls Tryd.prog 23 #[.pointer (some ⟨r, 0, none⟩), .int .u64 c, .int .u64 v] w fun e w' => e = .returned (.int .i64 ((aWrite A c v).2 : Nat)) ∧ RDid w w' r (aWrite A c v).1 Y := by
  have CF := Lib.hid (find_any h ok c)
  have h' := Lib.hid h
  obtain ⟨vR, vW, vM, ws, h⟩ := h
  have few := ok.wfew
  have up := Lib.hid ok.up
  obtain ⟨n, hn⟩ : ∃ n, A.W.length = n := ⟨_, rfl⟩
  obtain ⟨o, cap, rfl, ho⟩ := row2_cells h.writes hn
  have c1 : w.cell? ⟨r, 1, none⟩ = some (.slice o n cap) := h.blk.at_ 1
  have lr := h.blk.lt
  rw [hn] at few
  have hn' := Lib.hid hn
  have hP := Lib.hid h
  obtain ⟨z, hz⟩ : ∃ z, (plc A.W c : Int) - 1 = z := ⟨_, rfl⟩
  rw [hz] at CF
  by_cases hfull : look A.W c = none ∧ 500 ≤ A.W.length
  · have ea : aWrite A c v = (A, 8) := by unfold aWrite; rw [if_pos hfull]
    have E := Lib.hid ea
    have b1 : z < 0 := by rw [← hz, plc_zero.2 hfull.1]; decide
    have b2 : (500 : Int) ≤ (n : Int) := by have := hfull.2; omega
    clear ea hfull hz h ho hn
    go_enter Tryd.func23, Tryd.ntmps23
    go_wp2_with (first | (go_at_call 28; refine CF.out.mono ?_; rintro e w' ⟨rfl, rfl⟩))
    go_ret
    rw [E.out]
    exact ⟨rfl, RDid.same h'.out (Keeps.refl _ _)⟩
  have ea : aWrite A c v = ({ A with W := put A.W c v }, 0) := by unfold aWrite; rw [if_neg hfull]
  have E := Lib.hid ea
  have hsome : z < 0 → ¬ (500 : Int) ≤ (n : Int) := fun hz0 h5 => hfull ⟨plc_zero.1 (by omega), by omega⟩
  clear ea hfull h hn hz
  have fin : ∀ (W4 : World) (lo : Option Addr) (kk lc : Nat), Fresh w W4 (.slice lo kk lc) (put A.W c v) kk → RDid w (W4.setCell ⟨r, 1, none⟩ (.slice lo kk lc)) r (aWrite A c v).1 Y := fun W4 lo kk lc hF => by
    have ks : Keeps (fun x => x = r) W4 (W4.setCell ⟨r, 1, none⟩ (.slice lo kk lc)) := (Keeps.refl (fun x => x = r) W4).setCell (p := ⟨r, 1, none⟩) (fun _ => rfl) _
    obtain ⟨W5, hW5⟩ : ∃ W, W = W4.setCell ⟨r, 1, none⟩ (.slice lo kk lc) := ⟨_, rfl⟩
    rw [← hW5] at ks ⊢
    have kk' : Keeps (fun x => x = r) w W5 := (hF.2.2.1.mono fun _ _ => False.elim).trans ks fun _ _ e => e
    have nrow : ∀ {t : TypeId} {size : Nat} {v : Value} {m : Nat} {xs : List Value}, w.ownsRow 0 t size v m xs → t ≠ 32 → ∀ g, v.ownBlock = some g → ¬ g = r := fun hv n2 g hg e => row_ne hv hP.out.blk n2 (by rw [hg, e])
    have B4 : Whole W4 r 32 #[vR, .slice o n cap, vM] := hP.out.blk.keeps hF.2.2.1 id
    have R5 : Row2 .u64 60 W5 (.slice lo kk lc) (put A.W c v) := ownsRow_keeps hF.1 ks fun g hg e => by have := hF.2.1 g hg; omega
    rw [E.out]
    refine ⟨fun y => Y y ∨ (Value.slice lo kk lc).ownBlock = some y, ⟨vR, _, vM, ws, {
      blk := by rw [hW5]; exact B4.set_ 1 _
      reads := ownsRow_keeps hP.out.reads kk' (nrow hP.out.reads (by decide))
      writes := R5
      marks := ownsRow_keeps hP.out.marks kk' (nrow hP.out.marks (by decide))
      len := hP.out.len
      each := fun j v m hv hm => ownsRow_keeps (hP.out.each j v m hv hm) kk' (nrow (hP.out.each j v m hv hm) (by decide))
      inY := ⟨.inl hP.out.inY.1, fun g hg => .inl (hP.out.inY.2.1 g hg), fun g hg => .inr hg, fun g hg => .inl (hP.out.inY.2.2.2.1 g hg), fun v hv g hg => .inl (hP.out.inY.2.2.2.2 v hv g hg)⟩
      old := fun y hy => by
        rcases hy with hy | hy
        · exact Nat.lt_of_lt_of_le (hP.out.old y hy) kk'.size
        · exact (World.ownsRow.lt R5 y hy).2 }⟩, fun y hy => ?_, kk'.mono fun y _ hy => by rw [hy]; exact hP.out.inY.1⟩
    rcases hy with hy | hy
    · exact .inl hy
    · exact .inr (hF.2.1 y hy)
  have FIN := Lib.hid fin
  clear fin
  by_cases hz0 : z < 0
  · have b0 := hsome hz0
    clear hsome
    go_enter Tryd.func23, Tryd.ntmps23
    go_wp2_with (first | (go_at_call 28; refine CF.out.mono ?_; rintro e w' ⟨rfl, rfl⟩))
    go_loopw [9, 7, 8] (fun iv lv pv wr => ∃ (i : Nat) (lo : Option Addr) (kk lc : Nat) (p : Bool), iv = .int .i64 i ∧ lv = .slice lo kk lc ∧ pv = .bool p ∧ i ≤ n ∧ kk ≤ i + 1 ∧ Fresh w wr (.slice lo kk lc) (wl (A.W.take i) c v p) kk ∧ wp_ (A.W.take i) c p) (fun iv _ _ _ => n - (intOf iv).toNat)
    case atStart => exact ⟨0, none, 0, 0, false, rfl, rfl, rfl, Nat.zero_le _, Nat.zero_le _, ⟨World.ownsRow_nil .., fun g hg => by simp [Value.ownBlock] at hg, Keeps.refl _ _, rfl⟩, fun _ x hx => by simp at hx, fun h => by cases h⟩
    case round =>
      obtain ⟨i, lo, kk, lc, p, rfl, rfl, rfl, hi, hkk, hF, hp⟩ := hrel
      have d1 : wr.cell? ⟨r, 1, none⟩ = some (.slice o n cap) := (hF.2.2.1.cell lr id).trans c1
      have F1 := Lib.hid hF
      have P1 := Lib.hid hp
      by_cases hlt : i < n
      · have b1 : (i : Int) < (n : Int) := by omega
        obtain ⟨g, rfl, hc⟩ := ho (by omega)
        obtain ⟨d, u, hd⟩ : ∃ d u, A.W[i]? = some (d, u) := ⟨_, _, List.getElem?_eq_getElem (by rw [hn'.out]; exact hlt)⟩
        obtain ⟨q0, q1⟩ := hc i _ hd
        have d2 := (hF.2.2.1.cell (cell_lt q0) id).trans q0
        have d3 := (hF.2.2.1.cell (cell_lt q1) id).trans q1
        have ht : A.W.take (i + 1) = A.W.take i ++ [(d, u)] := by rw [List.take_add_one, hd]; rfl
        have hbef : ∀ x ∈ A.W.take i, x.1 < d := fun x hx => by
          obtain ⟨j, hj, rfl⟩ := List.getElem_of_mem hx
          have hj' : j < i := by rw [List.length_take] at hj; omega
          rw [List.getElem_take]
          exact up_at up.out (List.getElem?_eq_getElem (by rw [hn'.out]; omega)) hd hj'
        have HT := Lib.hid ht
        have HB := Lib.hid hbef
        simp only at d2 d3
        have Q0 := Lib.hid q0
        have Q1 := Lib.hid q1
        clear q0 q1 hc hd ht hbef hF hp ho
        rcases Int.lt_trichotomy d c with hdc | hdc | hdc
        · -- ahead of the cell: nothing is put yet
          have hpf : p = false := by
            cases p with
            | false => rfl
            | true =>
              obtain ⟨x, hx, hcx⟩ := P1.out.2 rfl
              have := HB.out x hx
              omega
          subst hpf
          have e1 : decide (c ≤ d) = false := decide_eq_false (by omega)
          have e2 : (d != c) = true := by simp; omega
          go_wp2_with (first
            | (at_builtin; refine wpList_append_k wroteK _ rfl _ _ rfl (.slice lo kk lc) _ [(d, u)] rfl (World.ownsRow.alloc F1.out.1 _) ⟨wr.heap.size, 0, none⟩ 1 _ rfl rfl (one_pair (Whole.made wr 60 #[.int .u64 (d, u).1, .int .u64 (d, u).2])) (kk + 1) (by rw [F1.out.2.2.2]) (by omega) ?_; intro aoA acA wA hrA hgA hoA; have RA := Lib.hid (fresh_app (n' := kk + 1) F1.out hrA hgA hoA (by rw [List.length_append, F1.out.2.2.2]; rfl)); clear hrA hgA hoA))
          go_roundw
          case rel => exact ⟨i + 1, aoA, kk + 1, acA, false, by go_num, rfl, rfl, by omega, by omega, by rw [HT.out]; exact RA.out, fun _ x hx => by
            rw [HT.out] at hx
            rcases List.mem_append.1 hx with hx | hx
            · exact P1.out.1 rfl x hx
            · simp at hx; subst hx; exact hdc, fun h => by cases h⟩
          case measure => simp [intOf]; omega
        · -- the cell itself
          subst hdc
          have hpf : p = false := by
            cases p with
            | false => rfl
            | true =>
              obtain ⟨x, hx, hcx⟩ := P1.out.2 rfl
              have := HB.out x hx
              omega
          subst hpf
          have e1 : d ≤ d := by omega
          have e2 : (d != d) = false := by simp
          go_wp2_with (first
            | (at_builtin; refine wpList_append_k wroteK _ rfl _ _ rfl (.slice lo kk lc) _ [(d, v)] rfl (World.ownsRow.alloc F1.out.1 _) ⟨wr.heap.size, 0, none⟩ 1 _ rfl rfl (one_pair (Whole.made wr 60 #[.int .u64 (d, v).1, .int .u64 (d, v).2])) (kk + 1) (by rw [F1.out.2.2.2]) (by omega) ?_; intro aoA acA wA hrA hgA hoA; have RA := Lib.hid (fresh_app (n' := kk + 1) F1.out hrA hgA hoA (by rw [List.length_append, F1.out.2.2.2]; rfl)); have z1 : wA.cell? ⟨r, 1, none⟩ = some (.slice (some ⟨g, 0, none⟩) n cap) := (RA.out.2.2.1.cell lr id).trans c1; have z2 : wA.cell? ⟨g, i * 2, none⟩ = some (.int .u64 d) := (RA.out.2.2.1.cell (cell_lt Q0.out) id).trans Q0.out; have z3 : wA.cell? ⟨g, i * 2 + 1, none⟩ = some (.int .u64 u) := (RA.out.2.2.1.cell (cell_lt Q1.out) id).trans Q1.out; clear hrA hgA hoA))
          go_roundw
          case rel => exact ⟨i + 1, aoA, kk + 1, acA, true, by go_num, rfl, rfl, by omega, by omega, by
            rw [HT.out]
            show Fresh w wA _ (put (A.W.take i ++ [(d, u)]) d v) _
            rw [put_eq HB.out]
            exact RA.out, (fun h => by cases h), fun _ => ⟨(d, u), by rw [HT.out]; simp, e1⟩⟩
          case measure => simp [intOf]; omega
        · have e1 : c ≤ d := by omega
          have e2 : (d != c) = true := by simp; omega
          cases p with
          | true =>
            go_wp2_with (first
              | (at_builtin; refine wpList_append_k wroteK _ rfl _ _ rfl (.slice lo kk lc) _ [(d, u)] rfl (World.ownsRow.alloc F1.out.1 _) ⟨wr.heap.size, 0, none⟩ 1 _ rfl rfl (one_pair (Whole.made wr 60 #[.int .u64 (d, u).1, .int .u64 (d, u).2])) (kk + 1) (by rw [F1.out.2.2.2]) (by omega) ?_; intro aoA acA wA hrA hgA hoA; have RA := Lib.hid (fresh_app (n' := kk + 1) F1.out hrA hgA hoA (by rw [List.length_append, F1.out.2.2.2]; rfl)); clear hrA hgA hoA))
            go_roundw
            case rel => exact ⟨i + 1, aoA, kk + 1, acA, true, by go_num, rfl, rfl, by omega, by omega, by
              rw [HT.out]
              show Fresh w wA _ (put (A.W.take i ++ [(d, u)]) c v) _
              rw [put_gt hdc]
              exact RA.out, (fun h => by cases h), fun _ => ⟨(d, u), by rw [HT.out]; simp, e1⟩⟩
            case measure => simp [intOf]; omega
          | false =>
            have hkk' : kk ≤ i := by
              have h1 := F1.out.2.2.2
              have h2 : (wl (A.W.take i) c v false).length = (A.W.take i).length := rfl
              rw [List.length_take] at h2
              omega
            go_wp2_with (first
              | (at_builtin; refine wpList_append_k wroteK _ rfl _ _ rfl (.slice aoA (kk + 1) acA) _ [(d, u)] rfl (World.ownsRow.alloc RA.out.1 _) ⟨wA.heap.size, 0, none⟩ 1 _ rfl rfl (one_pair (Whole.made wA 60 #[.int .u64 (d, u).1, .int .u64 (d, u).2])) (kk + 1 + 1) (by rw [RA.out.2.2.2]) (by omega) ?_; intro aoB acB wB hrB hgB hoB; have RB := Lib.hid (fresh_app (n' := kk + 1 + 1) RA.out hrB hgB hoB (by rw [List.length_append, RA.out.2.2.2]; rfl)); clear hrB hgB hoB)
              | (at_builtin; refine wpList_append_k wroteK _ rfl _ _ rfl (.slice lo kk lc) _ [(c, v)] rfl (World.ownsRow.alloc F1.out.1 _) ⟨wr.heap.size, 0, none⟩ 1 _ rfl rfl (one_pair (Whole.made wr 60 #[.int .u64 (c, v).1, .int .u64 (c, v).2])) (kk + 1) (by rw [F1.out.2.2.2]) (by omega) ?_; intro aoA acA wA hrA hgA hoA; have RA := Lib.hid (fresh_app (n' := kk + 1) F1.out hrA hgA hoA (by rw [List.length_append, F1.out.2.2.2]; rfl)); have z1 : wA.cell? ⟨r, 1, none⟩ = some (.slice (some ⟨g, 0, none⟩) n cap) := (RA.out.2.2.1.cell lr id).trans c1; have z2 : wA.cell? ⟨g, i * 2, none⟩ = some (.int .u64 d) := (RA.out.2.2.1.cell (cell_lt Q0.out) id).trans Q0.out; have z3 : wA.cell? ⟨g, i * 2 + 1, none⟩ = some (.int .u64 u) := (RA.out.2.2.1.cell (cell_lt Q1.out) id).trans Q1.out; clear hrA hgA hoA))
            go_roundw
            case rel => exact ⟨i + 1, aoB, kk + 1 + 1, acB, true, by go_num, rfl, rfl, by omega, by omega, by
              rw [HT.out]
              show Fresh w wB _ (put (A.W.take i ++ [(d, u)]) c v) _
              rw [put_gt hdc, put_all (P1.out.1 rfl)]
              exact RB.out, (fun h => by cases h), fun _ => ⟨(d, u), by rw [HT.out]; simp, e1⟩⟩
            case measure => simp [intOf]; omega
      · obtain rfl : i = n := by omega
        have b1 : ¬ (i : Int) < (i : Int) := by omega
        have ht : A.W.take i = A.W := by rw [← hn'.out, List.take_length]
        rw [ht] at F1 P1
        have f1 : wr.frozen? ⟨r, 1, none⟩ = false := (hP.out.blk.keeps hF.2.2.1 id).free 1
        cases p with
        | true =>
          have F := Lib.hid (FIN.out wr lo kk lc F1.out)
          clear hF hp ho
          go_wp2_with fail
          go_ret
          exact ⟨by rw [E.out]; rfl, F.out⟩
        | false =>
          clear hF hp ho f1
          go_wp2_with (first
            | (at_builtin; refine wpList_append_k wroteK _ rfl _ _ rfl (.slice lo kk lc) _ [(c, v)] rfl (World.ownsRow.alloc F1.out.1 _) ⟨wr.heap.size, 0, none⟩ 1 _ rfl rfl (one_pair (Whole.made wr 60 #[.int .u64 (c, v).1, .int .u64 (c, v).2])) (kk + 1) (by rw [F1.out.2.2.2]) (by omega) ?_; intro aoA acA wA hrA hgA hoA; have RA := Lib.hid (fresh_app (n' := kk + 1) F1.out hrA hgA hoA (by rw [List.length_append, F1.out.2.2.2]; rfl)); have d5 : wA.cell? ⟨r, 1, none⟩ = some (.slice o i cap) := (RA.out.2.2.1.cell lr id).trans c1; have f5 : wA.frozen? ⟨r, 1, none⟩ = false := (hP.out.blk.keeps RA.out.2.2.1 id).free 1; clear hrA hgA hoA))
          go_ret
          have F := FIN.out wA aoA (kk + 1) acA (by rw [put_all (P1.out.1 rfl)]; exact RA.out)
          exact ⟨by rw [E.out]; rfl, F⟩
  · have b0 : decide (z < 0) = false := decide_eq_false hz0
    clear hsome hz0
    go_enter Tryd.func23, Tryd.ntmps23
    go_wp2_with (first | (go_at_call 28; refine CF.out.mono ?_; rintro e w' ⟨rfl, rfl⟩))
    go_loopw [9, 7, 8] (fun iv lv pv wr => ∃ (i : Nat) (lo : Option Addr) (kk lc : Nat) (p : Bool), iv = .int .i64 i ∧ lv = .slice lo kk lc ∧ pv = .bool p ∧ i ≤ n ∧ kk ≤ i + 1 ∧ Fresh w wr (.slice lo kk lc) (wl (A.W.take i) c v p) kk ∧ wp_ (A.W.take i) c p) (fun iv _ _ _ => n - (intOf iv).toNat)
    case atStart => exact ⟨0, none, 0, 0, false, rfl, rfl, rfl, Nat.zero_le _, Nat.zero_le _, ⟨World.ownsRow_nil .., fun g hg => by simp [Value.ownBlock] at hg, Keeps.refl _ _, rfl⟩, fun _ x hx => by simp at hx, fun h => by cases h⟩
    case round =>
      obtain ⟨i, lo, kk, lc, p, rfl, rfl, rfl, hi, hkk, hF, hp⟩ := hrel
      have d1 : wr.cell? ⟨r, 1, none⟩ = some (.slice o n cap) := (hF.2.2.1.cell lr id).trans c1
      have F1 := Lib.hid hF
      have P1 := Lib.hid hp
      by_cases hlt : i < n
      · have b1 : (i : Int) < (n : Int) := by omega
        obtain ⟨g, rfl, hc⟩ := ho (by omega)
        obtain ⟨d, u, hd⟩ : ∃ d u, A.W[i]? = some (d, u) := ⟨_, _, List.getElem?_eq_getElem (by rw [hn'.out]; exact hlt)⟩
        obtain ⟨q0, q1⟩ := hc i _ hd
        have d2 := (hF.2.2.1.cell (cell_lt q0) id).trans q0
        have d3 := (hF.2.2.1.cell (cell_lt q1) id).trans q1
        have ht : A.W.take (i + 1) = A.W.take i ++ [(d, u)] := by rw [List.take_add_one, hd]; rfl
        have hbef : ∀ x ∈ A.W.take i, x.1 < d := fun x hx => by
          obtain ⟨j, hj, rfl⟩ := List.getElem_of_mem hx
          have hj' : j < i := by rw [List.length_take] at hj; omega
          rw [List.getElem_take]
          exact up_at up.out (List.getElem?_eq_getElem (by rw [hn'.out]; omega)) hd hj'
        have HT := Lib.hid ht
        have HB := Lib.hid hbef
        simp only at d2 d3
        have Q0 := Lib.hid q0
        have Q1 := Lib.hid q1
        clear q0 q1 hc hd ht hbef hF hp ho
        rcases Int.lt_trichotomy d c with hdc | hdc | hdc
        · -- ahead of the cell: nothing is put yet
          have hpf : p = false := by
            cases p with
            | false => rfl
            | true =>
              obtain ⟨x, hx, hcx⟩ := P1.out.2 rfl
              have := HB.out x hx
              omega
          subst hpf
          have e1 : decide (c ≤ d) = false := decide_eq_false (by omega)
          have e2 : (d != c) = true := by simp; omega
          go_wp2_with (first
            | (at_builtin; refine wpList_append_k wroteK _ rfl _ _ rfl (.slice lo kk lc) _ [(d, u)] rfl (World.ownsRow.alloc F1.out.1 _) ⟨wr.heap.size, 0, none⟩ 1 _ rfl rfl (one_pair (Whole.made wr 60 #[.int .u64 (d, u).1, .int .u64 (d, u).2])) (kk + 1) (by rw [F1.out.2.2.2]) (by omega) ?_; intro aoA acA wA hrA hgA hoA; have RA := Lib.hid (fresh_app (n' := kk + 1) F1.out hrA hgA hoA (by rw [List.length_append, F1.out.2.2.2]; rfl)); clear hrA hgA hoA))
          go_roundw
          case rel => exact ⟨i + 1, aoA, kk + 1, acA, false, by go_num, rfl, rfl, by omega, by omega, by rw [HT.out]; exact RA.out, fun _ x hx => by
            rw [HT.out] at hx
            rcases List.mem_append.1 hx with hx | hx
            · exact P1.out.1 rfl x hx
            · simp at hx; subst hx; exact hdc, fun h => by cases h⟩
          case measure => simp [intOf]; omega
        · -- the cell itself
          subst hdc
          have hpf : p = false := by
            cases p with
            | false => rfl
            | true =>
              obtain ⟨x, hx, hcx⟩ := P1.out.2 rfl
              have := HB.out x hx
              omega
          subst hpf
          have e1 : d ≤ d := by omega
          have e2 : (d != d) = false := by simp
          go_wp2_with (first
            | (at_builtin; refine wpList_append_k wroteK _ rfl _ _ rfl (.slice lo kk lc) _ [(d, v)] rfl (World.ownsRow.alloc F1.out.1 _) ⟨wr.heap.size, 0, none⟩ 1 _ rfl rfl (one_pair (Whole.made wr 60 #[.int .u64 (d, v).1, .int .u64 (d, v).2])) (kk + 1) (by rw [F1.out.2.2.2]) (by omega) ?_; intro aoA acA wA hrA hgA hoA; have RA := Lib.hid (fresh_app (n' := kk + 1) F1.out hrA hgA hoA (by rw [List.length_append, F1.out.2.2.2]; rfl)); have z1 : wA.cell? ⟨r, 1, none⟩ = some (.slice (some ⟨g, 0, none⟩) n cap) := (RA.out.2.2.1.cell lr id).trans c1; have z2 : wA.cell? ⟨g, i * 2, none⟩ = some (.int .u64 d) := (RA.out.2.2.1.cell (cell_lt Q0.out) id).trans Q0.out; have z3 : wA.cell? ⟨g, i * 2 + 1, none⟩ = some (.int .u64 u) := (RA.out.2.2.1.cell (cell_lt Q1.out) id).trans Q1.out; clear hrA hgA hoA))
          go_roundw
          case rel => exact ⟨i + 1, aoA, kk + 1, acA, true, by go_num, rfl, rfl, by omega, by omega, by
            rw [HT.out]
            show Fresh w wA _ (put (A.W.take i ++ [(d, u)]) d v) _
            rw [put_eq HB.out]
            exact RA.out, (fun h => by cases h), fun _ => ⟨(d, u), by rw [HT.out]; simp, e1⟩⟩
          case measure => simp [intOf]; omega
        · have e1 : c ≤ d := by omega
          have e2 : (d != c) = true := by simp; omega
          cases p with
          | true =>
            go_wp2_with (first
              | (at_builtin; refine wpList_append_k wroteK _ rfl _ _ rfl (.slice lo kk lc) _ [(d, u)] rfl (World.ownsRow.alloc F1.out.1 _) ⟨wr.heap.size, 0, none⟩ 1 _ rfl rfl (one_pair (Whole.made wr 60 #[.int .u64 (d, u).1, .int .u64 (d, u).2])) (kk + 1) (by rw [F1.out.2.2.2]) (by omega) ?_; intro aoA acA wA hrA hgA hoA; have RA := Lib.hid (fresh_app (n' := kk + 1) F1.out hrA hgA hoA (by rw [List.length_append, F1.out.2.2.2]; rfl)); clear hrA hgA hoA))
            go_roundw
            case rel => exact ⟨i + 1, aoA, kk + 1, acA, true, by go_num, rfl, rfl, by omega, by omega, by
              rw [HT.out]
              show Fresh w wA _ (put (A.W.take i ++ [(d, u)]) c v) _
              rw [put_gt hdc]
              exact RA.out, (fun h => by cases h), fun _ => ⟨(d, u), by rw [HT.out]; simp, e1⟩⟩
            case measure => simp [intOf]; omega
          | false =>
            have hkk' : kk ≤ i := by
              have h1 := F1.out.2.2.2
              have h2 : (wl (A.W.take i) c v false).length = (A.W.take i).length := rfl
              rw [List.length_take] at h2
              omega
            go_wp2_with (first
              | (at_builtin; refine wpList_append_k wroteK _ rfl _ _ rfl (.slice aoA (kk + 1) acA) _ [(d, u)] rfl (World.ownsRow.alloc RA.out.1 _) ⟨wA.heap.size, 0, none⟩ 1 _ rfl rfl (one_pair (Whole.made wA 60 #[.int .u64 (d, u).1, .int .u64 (d, u).2])) (kk + 1 + 1) (by rw [RA.out.2.2.2]) (by omega) ?_; intro aoB acB wB hrB hgB hoB; have RB := Lib.hid (fresh_app (n' := kk + 1 + 1) RA.out hrB hgB hoB (by rw [List.length_append, RA.out.2.2.2]; rfl)); clear hrB hgB hoB)
              | (at_builtin; refine wpList_append_k wroteK _ rfl _ _ rfl (.slice lo kk lc) _ [(c, v)] rfl (World.ownsRow.alloc F1.out.1 _) ⟨wr.heap.size, 0, none⟩ 1 _ rfl rfl (one_pair (Whole.made wr 60 #[.int .u64 (c, v).1, .int .u64 (c, v).2])) (kk + 1) (by rw [F1.out.2.2.2]) (by omega) ?_; intro aoA acA wA hrA hgA hoA; have RA := Lib.hid (fresh_app (n' := kk + 1) F1.out hrA hgA hoA (by rw [List.length_append, F1.out.2.2.2]; rfl)); have z1 : wA.cell? ⟨r, 1, none⟩ = some (.slice (some ⟨g, 0, none⟩) n cap) := (RA.out.2.2.1.cell lr id).trans c1; have z2 : wA.cell? ⟨g, i * 2, none⟩ = some (.int .u64 d) := (RA.out.2.2.1.cell (cell_lt Q0.out) id).trans Q0.out; have z3 : wA.cell? ⟨g, i * 2 + 1, none⟩ = some (.int .u64 u) := (RA.out.2.2.1.cell (cell_lt Q1.out) id).trans Q1.out; clear hrA hgA hoA))
            go_roundw
            case rel => exact ⟨i + 1, aoB, kk + 1 + 1, acB, true, by go_num, rfl, rfl, by omega, by omega, by
              rw [HT.out]
              show Fresh w wB _ (put (A.W.take i ++ [(d, u)]) c v) _
              rw [put_gt hdc, put_all (P1.out.1 rfl)]
              exact RB.out, (fun h => by cases h), fun _ => ⟨(d, u), by rw [HT.out]; simp, e1⟩⟩
            case measure => simp [intOf]; omega
      · obtain rfl : i = n := by omega
        have b1 : ¬ (i : Int) < (i : Int) := by omega
        have ht : A.W.take i = A.W := by rw [← hn'.out, List.take_length]
        rw [ht] at F1 P1
        have f1 : wr.frozen? ⟨r, 1, none⟩ = false := (hP.out.blk.keeps hF.2.2.1 id).free 1
        cases p with
        | true =>
          have F := Lib.hid (FIN.out wr lo kk lc F1.out)
          clear hF hp ho
          go_wp2_with fail
          go_ret
          exact ⟨by rw [E.out]; rfl, F.out⟩
        | false =>
          clear hF hp ho f1
          go_wp2_with (first
            | (at_builtin; refine wpList_append_k wroteK _ rfl _ _ rfl (.slice lo kk lc) _ [(c, v)] rfl (World.ownsRow.alloc F1.out.1 _) ⟨wr.heap.size, 0, none⟩ 1 _ rfl rfl (one_pair (Whole.made wr 60 #[.int .u64 (c, v).1, .int .u64 (c, v).2])) (kk + 1) (by rw [F1.out.2.2.2]) (by omega) ?_; intro aoA acA wA hrA hgA hoA; have RA := Lib.hid (fresh_app (n' := kk + 1) F1.out hrA hgA hoA (by rw [List.length_append, F1.out.2.2.2]; rfl)); have d5 : wA.cell? ⟨r, 1, none⟩ = some (.slice o i cap) := (RA.out.2.2.1.cell lr id).trans c1; have f5 : wA.frozen? ⟨r, 1, none⟩ = false := (hP.out.blk.keeps RA.out.2.2.1 id).free 1; clear hrA hgA hoA))
          go_ret
          have F := FIN.out wA aoA (kk + 1) acA (by rw [put_all (P1.out.1 rfl)]; exact RA.out)
          exact ⟨by rw [E.out]; rfl, F⟩
end Go.Proofs.YtkolkimmhlmlgaaDoor
