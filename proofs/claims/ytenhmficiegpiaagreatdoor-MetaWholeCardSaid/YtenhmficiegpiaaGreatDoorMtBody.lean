/-
  concordlaw06.Body's function by contract: it is a body that does the tree callsT.
-/
import Derived.Test.YtenhmficiegpiaaGreatDoorMtRows
import Derived.LoopTactic
import Derived.BigQuiet
namespace Go.Proofs.YtenhmficiegpiaaGreatDoor
open Go.RowKit Go.Extern.Stop Go.Stop Go.Extern

/-- What the body's function reads. -/
structure CapsAt (w : World) (p0 p1 p2 p3 o : Nat) (l : List Cal) (k cell : Nat) (R : Nat → Prop) : Prop where
  l : ∃ v, w.cell? ⟨p0, 0, none⟩ = some v ∧ CRow w v l ∧ ∀ g, v.ownBlock = some g → R g
  cells : ∃ g cp, w.cell? ⟨p1, 0, none⟩ = some (.slice (some ⟨g, 0, none⟩) 1 cp) ∧ w.cell? ⟨g, 0, none⟩ = some (.int .u64 (cell : Int)) ∧ R g
  clock : w.cell? ⟨p2, 0, none⟩ = some (.int .u64 (k : Int))
  out : w.cell? ⟨p3, 0, none⟩ = some (.pointer (some ⟨o, 0, none⟩))
  r : R p0 ∧ R p1 ∧ R p2 ∧ R p3

theorem CapsAt.keeps {w w' : World} {p0 p1 p2 p3 o : Nat} {l : List Cal} {k cell : Nat} {R S : Nat → Prop} (h : CapsAt w p0 p1 p2 p3 o l k cell R) (kp : Keeps S w w') (hS : ∀ y, R y → ¬ S y) : CapsAt w' p0 p1 p2 p3 o l k cell R := by
  obtain ⟨⟨v, h1, h2, h3⟩, ⟨g, cp, h4, h5, h6⟩, h7, h8, r0, r1, r2, r3⟩ := h
  exact ⟨⟨v, (kp.cell (p := ⟨p0, 0, none⟩) (cell_lt h1) (hS _ r0)).trans h1, h2.keeps kp fun g hg => hS _ (h3 g hg), h3⟩, ⟨g, cp, (kp.cell (p := ⟨p1, 0, none⟩) (cell_lt h4) (hS _ r1)).trans h4, (kp.cell (p := ⟨g, 0, none⟩) (cell_lt h5) (hS _ h6)).trans h5, h6⟩,
    (kp.cell (p := ⟨p2, 0, none⟩) (cell_lt h7) (hS _ r2)).trans h7, (kp.cell (p := ⟨p3, 0, none⟩) (cell_lt h8) (hS _ r3)).trans h8, r0, r1, r2, r3⟩

/-- What the body has of its own: where its answers come to. -/
structure OutP (p0 p1 p2 p3 o : Nat) (l : List Cal) (k cell : Nat) (R : Nat → Prop) (w : World) (Y : Nat → Prop) (x : Option (List Ans)) : Prop where
  caps : CapsAt w p0 p1 p2 p3 o l k cell R
  old : ∀ y, R y → y < w.heap.size
  out : ∃ v L, Whole w o 59 #[v] ∧ ARow w v L ∧ (∀ y, Y y ↔ y = o ∨ v.ownBlock = some y) ∧ ∀ L', x = some L' → L' = L

theorem Cont.at_ret {α : Type} {w wr : World} {c t b a pl : Nat} {bv : Value} {rd st : Int} {ev : Value} {Z Z' : Nat → Prop} {R0 : Option α × Rn} {s : Rn} {x : α} (h : Cont w wr c t b a pl bv rd st ev Z R0 (.ret x) s Z') : R0.1 = some x ∧ RunM wr c t b a pl bv rd st ev R0.2 Z' := by
  have e := h.same
  rw [show (Pr.ret x).run s = (some x, s) from rfl] at e
  subst e
  exact ⟨rfl, h.run⟩
theorem CRow.at_ {w : World} {g n cp : Nat} {l : List Cal} (h : CRow w (.slice (some ⟨g, 0, none⟩) n cp) l) {i : Nat} {x : Cal} (hx : l[i]? = some x) :
    w.cell? ⟨g, i * 5, none⟩ = some (.int .i64 (x.kind : Int)) ∧ w.cell? ⟨g, i * 5 + 1, none⟩ = some (.int .i64 0) ∧ w.cell? ⟨g, i * 5 + 2, none⟩ = some (.int .i64 (x.n : Int)) ∧ w.cell? ⟨g, i * 5 + 3, none⟩ = some (.int .i64 (x.own : Int)) ∧ w.cell? ⟨g, i * 5 + 4, none⟩ = some (.int .u64 (x.value : Int)) := by
  obtain ⟨o, c, hv, h⟩ := h
  have hi := (List.getElem?_eq_some_iff.1 hx).1
  obtain ⟨g', hg, h⟩ := h (by omega)
  cases hv
  cases hg
  exact h i hi x hx

theorem drop_cal {l : List Cal} {i : Nat} {x : Cal} (h : l[i]? = some x) : l.drop i = x :: l.drop (i + 1) := by
  obtain ⟨hi, rfl⟩ := List.getElem?_eq_some_iff.1 h
  exact List.drop_eq_getElem_cons hi

theorem callsT_stop {k cell : Nat} {x : Cal} {l : List Cal} {acc : List Ans} (h : x.kind = 9 ∧ lastErr acc ≠ 0) : callsT k cell (x :: l) acc = .ret acc := by rw [callsT, if_pos h]
theorem callsT_go {k cell : Nat} {x : Cal} {l : List Cal} {acc : List Ans} (h : ¬ (x.kind = 9 ∧ lastErr acc ≠ 0)) : callsT k cell (x :: l) acc = (callT k cell x).bind fun a => callsT k cell l (acc ++ [a]) := by rw [callsT, if_neg h]

theorem lastErr_at {acc : List Ans} {m : Nat} (h : acc.length = m + 1) : lastErr acc = (acc.getD m ⟨0, 0, 0⟩).err := by
  unfold lastErr
  rw [List.getLast?_eq_getElem?, h, Nat.add_sub_cancel, List.getD, List.getElem?_eq_getElem (by omega)]
  rfl

theorem OutP.cell {p0 p1 p2 p3 o : Nat} {l : List Cal} {k cell : Nat} {R Y Z Z' : Nat → Prop} {w wr : World} {x : Option (List Ans)} (h : OutP p0 p1 p2 p3 o l k cell R w Y x) (hm : Mv Z Z' w wr) (hd : ∀ y, Y y ∨ R y → ¬ Z y) : ∃ v, wr.cell? ⟨o, 0, none⟩ = some v ∧ wr.frozen? ⟨o, 0, none⟩ = false := by
  obtain ⟨v0, L0, hW, hA, hY, _⟩ := h.out
  have := hW.keeps hm.keeps (hd o (.inl ((hY o).2 (.inl rfl))))
  exact ⟨v0, this.at_ 0, this.free 0⟩
/-- The body is at its end. -/
theorem bodyTo_end {w W2 : World} {c t b a pl p0 p1 p2 p3 o : Nat} {bv : Value} {rd st : Int} {ev v allv : Value} {l : List Cal} {k cell : Nat} {R Z Y Z2 : Nat → Prop} {R0 : Option (List Ans) × Rn} {acc : List Ans}
    (hP : OutP p0 p1 p2 p3 o l k cell R w Y none) (hd : ∀ y, Y y ∨ R y → ¬ Z y) (hRo : ¬ R o) (hr : RunM W2 c t b a pl bv rd st ev R0.2 Z2) (hm : Mv Z Z2 w W2) (hrow : ARow W2 allv acc) (hown : ∀ g, allv.ownBlock = some g → w.heap.size ≤ g ∧ ¬ Z2 g) (hx : ∀ L', R0.1 = some L' → L' = acc) (hv : ErrV (W2.setCell ⟨o, 0, none⟩ allv) v (eaOf R0.1)) :
    ∃ Y' Z', BodyTo (OutP p0 p1 p2 p3 o l k cell R) w c t b a pl bv rd st ev Z Y R R0 v (W2.setCell ⟨o, 0, none⟩ allv) Y' Z' := by
  obtain ⟨hc, hold, v0, L0, hW, hA, hY, _⟩ := hP
  have hoY : Y o := (hY o).2 (.inl rfl)
  have hoZ : ¬ Z o := hd o (.inl hoY)
  have hol := hW.lt
  have ks : Keeps (fun x => x = o) W2 (W2.setCell ⟨o, 0, none⟩ allv) := (Keeps.refl (fun x => x = o) W2).setCell (p := ⟨o, 0, none⟩) (fun _ => rfl) _
  have hoZ2 : ¬ Z2 o := hm.apart hol hoZ
  have hg : etB ≠ o := fun e => by
    obtain ⟨_, _, hR⟩ := hr
    have hW2 := (hW.keeps hm.keeps hoZ).at_ 0
    have hg : W2.cell? ⟨etB, 0, none⟩ = _ := hR.glob
    obtain ⟨_, _, hv0, _⟩ := hA.shape
    rw [e, hW2, hv0] at hg
    cases hg
  refine ⟨fun y => y = o ∨ allv.ownBlock = some y, Z2, {
    err := hv
    run := hr.far ks (fun x hx e => hoZ2 (e ▸ hx)) hg
    own := ⟨(hc.keeps hm.keeps fun y hy => hd y (.inr hy)).keeps ks fun y hy e => hRo (e ▸ hy), fun y hy => Nat.lt_of_lt_of_le (hold y hy) (Nat.le_trans hm.keeps.size ks.size), allv, acc, ((hW.keeps hm.keeps hoZ).set_ 0 allv), hrow.keeps ks fun g hg e => by have := (hown g hg).1; omega, fun y => Iff.rfl, hx⟩
    keeps := ?_
    newZ := hm.new
    newY := fun x hx => hx.elim (fun e => .inl (e ▸ hoY)) fun h => .inr (hown x h).1
    apart := fun x hx => hx.elim (fun h => h.elim (fun e => e ▸ hoZ2) fun h => (hown x h).2) fun h => hm.apart (hold x h) (hd x (.inr h)) }⟩
  exact (hm.keeps.mono fun _ _ => .inl).trans ks fun x _ e => .inr (e ▸ hoY)

theorem BodyTo.stay {p0 p1 p2 p3 o : Nat} {l : List Cal} {k cell : Nat} {w w1 w2 : World} {c t b a pl : Nat} {bv : Value} {rd st : Int} {ev v : Value} {Z Y R Y' Z' : Nat → Prop} {r : Option (List Ans) × Rn}
    (h : BodyTo (OutP p0 p1 p2 p3 o l k cell R) w c t b a pl bv rd st ev Z Y R r v w1 Y' Z') (kp : Keeps (fun _ => False) w1 w2) : BodyTo (OutP p0 p1 p2 p3 o l k cell R) w c t b a pl bv rd st ev Z Y R r v w2 Y' Z' := by
  obtain ⟨h1, h2, ⟨hc, ho, v0, L0, hW, hA, hY, hx⟩, h4, h5, h6, h7⟩ := h
  exact ⟨h1.keeps kp fun _ _ _ => id, h2.same kp, ⟨hc.keeps kp fun _ _ => id, fun y hy => Nat.lt_of_lt_of_le (ho y hy) kp.size, v0, L0, hW.keeps kp id, hA.keeps kp fun _ _ => id, hY, hx⟩, h4.trans kp fun _ _ => False.elim, h5, h6, h7⟩

/-- What the body's loop has. -/
structure BodyL (w wr : World) (c t b a pl : Nat) (bv : Value) (rd st : Int) (ev : Value) (Z : Nat → Prop) (R0 : Option (List Ans) × Rn) (l : List Cal) (k cell : Nat) (allv : Value) (i : Nat) (acc : List Ans) (s : Rn) (Z' : Nat → Prop) : Prop where
  le : i ≤ l.length
  len : acc.length = i
  row : ARow wr allv acc
  own : ∀ g, allv.ownBlock = some g → w.heap.size ≤ g ∧ ¬ Z' g
  cont : Cont w wr c t b a pl bv rd st ev Z R0 (callsT k cell (l.drop i) acc) s Z'

/-- Behind an append. -/
theorem BodyL.next {w wr W3 V : World} {c t b a pl : Nat} {bv : Value} {rd st : Int} {ev : Value} {Z Z2 : Nat → Prop} {R0 : Option (List Ans) × Rn} {l : List Cal} {k cell : Nat} {allv v2 : Value} {i : Nat} {acc : List Ans} {sq : Rn} {x : Ans} (hge : etB < w.heap.size) (hi : i < l.length) (hal : acc.length = i)
    (hr : RunM W3 c t b a pl bv rd st ev sq Z2) (hm : Mv Z Z2 w W3) (hc : Cap sq) (hown : ∀ g, allv.ownBlock = some g → w.heap.size ≤ g ∧ ¬ Z2 g) (hsm : R0 = (callsT k cell (l.drop (i + 1)) (acc ++ [x])).run sq) (hg : (callsT k cell (l.drop (i + 1)) (acc ++ [x])).Good sq)
    (k3 : Keeps (fun _ => False) W3 wr) (hO : ARow V v2 (acc ++ [x])) (hG : wr.grownBy V allv.ownBlock) (hloc : v2.ownBlock = allv.ownBlock ∨ v2.ownBlock = some wr.heap.size) : BodyL w V c t b a pl bv rd st ev Z R0 l k cell v2 (i + 1) (acc ++ [x]) sq Z2 := by
  have kg := keeps_row hG
  have hz : ∀ y, Z2 y → y < W3.heap.size := hr.old
  have hgz : ¬ allv.ownBlock = some etB := fun e => by have h1 := (hown etB e).1; omega
  refine ⟨by omega, by simp [hal], hO, fun g hg => ?_, ⟨(hr.same k3).far kg (fun y hy e => (hown y e).2 hy) hgz, ⟨(hm.trans (Mv.stay k3)).keeps.trans kg fun y hy e => absurd hy (Nat.not_lt.2 (hown y e).1), hm.new⟩, hsm, hg, hc⟩⟩
  rcases hloc with e | e
  · exact hown g (by rw [← e]; exact hg)
  · rw [e] at hg
    injection hg with hg
    have h1 := hm.keeps.size
    have h2 := k3.size
    exact ⟨by omega, fun h => by have := hz _ h; omega⟩

set_option maxRecDepth 100000 in
set_option maxHeartbeats 8000000 in
theorem calls_does {w : World} {c t b a pl p0 p1 p2 p3 o : Nat} {bv : Value} {rd st : Int} {ev : Value} {s0 : Rn} {Z Y R : Nat → Prop} {l : List Cal} {k cell : Nat} (hk : ∀ x ∈ l, CalOk x) (hlen : l.length ≤ 10) (hRo : ¬ R o)
    (h : RunM w c t b a pl bv rd st ev s0 Z) (hP : OutP p0 p1 p2 p3 o l k cell R w Y none) (hd : ∀ y, Y y ∨ R y → ¬ Z y) (hcap : Cap s0) (hg : (callsT k cell l []).Good s0) :
    Calls Tryz.prog 28 (#[.pointer (some ⟨c, 0, none⟩), .int .i64 rd] ++ #[.pointer (some ⟨p0, 0, none⟩), .pointer (some ⟨p1, 0, none⟩), .pointer (some ⟨p2, 0, none⟩), .pointer (some ⟨p3, 0, none⟩)]) w fun e w' => ∃ v Y' Z', e = .returned v ∧ BodyTo (OutP p0 p1 p2 p3 o l k cell R) w c t b a pl bv rd st ev Z Y R ((callsT k cell l []).run s0) v w' Y' Z' := by
  have L0 := Lib.hid (show BodyL w w c t b a pl bv rd st ev Z ((callsT k cell l []).run s0) l k cell (.slice none 0 0) 0 [] s0 Z from ⟨Nat.zero_le _, rfl, ARow.nil _, fun g hg => (by cases hg), Cont.begin h hcap hg⟩)
  generalize (callsT k cell l []).run s0 = R0 at L0 ⊢
  have hk' := Lib.hid hk
  have hP' := Lib.hid hP
  have hd' := Lib.hid hd
  have hRo' := Lib.hid hRo
  have gl := Lib.hid h.gl
  obtain ⟨⟨lv, q0, qr, qR⟩, ⟨gc, cp, q1, q2, qc⟩, q3, q4, r0, r1, r2, r3⟩ := hP.caps
  obtain ⟨lo, lc, rfl, hrow⟩ := qr
  have hrow' := Lib.hid hrow
  have qR' := Lib.hid qR
  have Q1 := Lib.hid q1
  have Q2 := Lib.hid q2
  have Q3 := Lib.hid q3
  have Q4 := Lib.hid q4
  have rr := Lib.hid (And.intro r0 (And.intro r1 (And.intro r2 (And.intro r3 qc))))
  have hlb : (l.length : Int) ≤ 10 := by omega
  clear hk h hP hd hRo hcap hg qR hrow q1 q2 q3 q4 r0 r1 r2 r3 qc
  go_enter Tryz.func28, Tryz.ntmps28
  go_wp2_with fail
  go_loopw [9, 17] (fun av iv wr => ∃ (i : Nat) (acc : List Ans) (s : Rn) (Z' : Nat → Prop), iv = .int .i64 (i : Int) ∧ BodyL w wr c t b a pl bv rd st ev Z R0 l k cell av i acc s Z') (fun _ iv _ => l.length - (intOf iv).toNat)
  case atStart => exact ⟨0, [], s0, Z, rfl, L0.out⟩
  case round =>
    obtain ⟨i, acc, s, Z', rfl, hL⟩ := hrel
    obtain ⟨hi, hal, hrw, hown, hC⟩ := hL
    obtain ⟨ao, ac, rfl, hao⟩ := hrw.shape
    have M1 := Lib.hid hC.mv
    have C1 := Lib.hid hC
    have A1 := Lib.hid hrw
    have O1 := Lib.hid hown
    have c1 : wr.cell? ⟨p1, 0, none⟩ = some (.slice (some ⟨gc, 0, none⟩) 1 cp) := (M1.out.keeps.cell (p := ⟨p1, 0, none⟩) (cell_lt Q1.out) (hd'.out _ (.inr rr.out.2.1))).trans Q1.out
    have c2 : wr.cell? ⟨gc, 0, none⟩ = some (.int .u64 (cell : Int)) := (M1.out.keeps.cell (p := ⟨gc, 0, none⟩) (cell_lt Q2.out) (hd'.out _ (.inr rr.out.2.2.2.2))).trans Q2.out
    have c3 : wr.cell? ⟨p2, 0, none⟩ = some (.int .u64 (k : Int)) := (M1.out.keeps.cell (p := ⟨p2, 0, none⟩) (cell_lt Q3.out) (hd'.out _ (.inr rr.out.2.2.1))).trans Q3.out
    have c4 : wr.cell? ⟨p3, 0, none⟩ = some (.pointer (some ⟨o, 0, none⟩)) := (M1.out.keeps.cell (p := ⟨p3, 0, none⟩) (cell_lt Q4.out) (hd'.out _ (.inr rr.out.2.2.2.1))).trans Q4.out
    rw [hal] at A1 O1 hao ⊢
    have hal' := Lib.hid hal
    clear hal
    have l1 : p1 < wr.heap.size := cell_lt c1
    have l2 : gc < wr.heap.size := cell_lt c2
    have l3 : p2 < wr.heap.size := cell_lt c3
    have l4 : p3 < wr.heap.size := cell_lt c4
    clear hC hrw hown
    by_cases hlt : i < l.length
    · obtain ⟨g, rfl, hcs⟩ := hrow'.out (by omega)
      obtain ⟨x, hx⟩ : ∃ x, l[i]? = some x := ⟨_, List.getElem?_eq_getElem hlt⟩
      have hxk := Lib.hid (hk'.out x (List.mem_of_getElem? hx))
      have hgR : R g := qR'.out g rfl
      obtain ⟨y0, y1, y2, y3, y4⟩ := (CRow.keeps (w := w) ⟨_, _, rfl, hrow'.out⟩ M1.out.keeps (fun g' hg' => by cases hg'; exact hd'.out _ (.inr hgR)) : CRow wr (.slice (some ⟨g, 0, none⟩) l.length lc) l).at_ hx
      have C2 := C1.out
      rw [drop_cal hx] at C2
      have hi10 : (i : Int) ≤ 10 := by omega
      have hltI : (i : Int) < (l.length : Int) := by omega
      have hi0 : (0 : Int) ≤ (i : Int) := by omega
      by_cases hstop : x.kind = 9 ∧ lastErr acc ≠ 0
      · rw [callsT_stop hstop] at C2
        obtain ⟨hr, hE⟩ := C2.at_ret
        have fin := Lib.hid (fun v hv => bodyTo_end (v := v) hP'.out hd'.out hRo'.out hE M1.out A1.out O1.out (acc := acc) (fun L' hL' => by rw [hr] at hL'; exact (Option.some.inj hL').symm) hv)
        obtain ⟨ov, ho0, hof⟩ := hP'.out.cell M1.out hd'.out
        have m5 : o < wr.heap.size := cell_lt ho0
        obtain ⟨h9, hle⟩ := hstop
        have hpos : 0 < i := by
          rcases Nat.eq_zero_or_pos i with h0 | h0
          · obtain rfl : acc = [] := List.eq_nil_of_length_eq_zero (hal'.out.trans h0)
            exact absurd rfl hle
          · exact h0
        obtain ⟨m, rfl⟩ : ∃ m, i = m + 1 := ⟨i - 1, by omega⟩
        obtain ⟨ga, rfl⟩ := hao hpos
        have hc := A1.out.at_ (k := m) (by exact hal'.out) (by rw [hal'.out]; omega) (j := 0) (by omega)
        rw [lastErr_at hal'.out] at hle
        have hga : ga < wr.heap.size := A1.out.lt rfl
        have hc' : wr.cell? ⟨ga, m * 3, none⟩ = some (.int .i64 ((acc.getD m ⟨0, 0, 0⟩).err : Int)) := hc
        have hne : ¬ (((acc.getD m ⟨0, 0, 0⟩).err : Int) = 0) := by omega
        generalize (acc.getD m ⟨0, 0, 0⟩).err = er at hc' hne
        have hr' := Lib.hid hr
        have h9' := Lib.hid h9
        clear hE C2 C1 hle hc h9 hpos hr
        obtain ⟨kd, xn, xo, xv⟩ := x
        obtain rfl : kd = 9 := h9'.out
        go_wp2_with fail
        go_ret
        obtain ⟨Y', Z2, hB⟩ := fin.out .nilIface (by rw [hr'.out]; rfl)
        first | exact ⟨_, Y', Z2, rfl, hB.stay ((Keeps.refl _ _).alloc _)⟩ | exact ⟨_, rfl, Y', Z2, hB.stay ((Keeps.refl _ _).alloc _)⟩
      · rw [callsT_go hstop] at C2
        have C3 := Lib.hid C2
        obtain ⟨g1, g2⟩ := Pr.good_bind _ _ _ C2.good
        clear C2 C1
        obtain ⟨W1, hW1⟩ : ∃ V, V = wr.alloc (.cells #[.int .i64 (x.kind : Int), .int .i64 0, .int .i64 (x.n : Int), .int .i64 (x.own : Int), .int .u64 (x.value : Int)] 31) := ⟨_, rfl⟩
        have k1 : Keeps (fun _ => False) wr W1 := by rw [hW1]; exact (Keeps.refl _ wr).alloc _
        have mX : Whole W1 wr.heap.size 31 #[.int .i64 (x.kind : Int), .int .i64 0, .int .i64 (x.n : Int), .int .i64 (x.own : Int), .int .u64 (x.value : Int)] := by rw [hW1]; exact Whole.made _ _ _
        have kd : Keeps (fun _ => False) wr W1.drew := k1.drew
        have ca := Lib.hid (answerC_any k cell x hxk.out (C3.out.run.same kd) C3.out.cap g1)
        have d1 : W1.cell? ⟨p1, 0, none⟩ = some (.slice (some ⟨gc, 0, none⟩) 1 cp) := (k1.cell (p := ⟨p1, 0, none⟩) l1 id).trans c1
        have d2 : W1.cell? ⟨gc, 0, none⟩ = some (.int .u64 (cell : Int)) := (k1.cell (p := ⟨gc, 0, none⟩) l2 id).trans c2
        have d3 : W1.cell? ⟨p2, 0, none⟩ = some (.int .u64 (k : Int)) := (k1.cell (p := ⟨p2, 0, none⟩) l3 id).trans c3
        have dx : W1.cell? ⟨wr.heap.size, 1, none⟩ = some (.int .i64 0) := mX.at_ 1
        have x0 : W1.cell? ⟨wr.heap.size, 0, none⟩ = some (.int .i64 (x.kind : Int)) := mX.at_ 0
        have x2 : W1.cell? ⟨wr.heap.size, 2, none⟩ = some (.int .i64 (x.n : Int)) := mX.at_ 2
        have x3 : W1.cell? ⟨wr.heap.size, 3, none⟩ = some (.int .i64 (x.own : Int)) := mX.at_ 3
        have x4 : W1.cell? ⟨wr.heap.size, 4, none⟩ = some (.int .u64 (x.value : Int)) := mX.at_ 4
        have hW1' := Lib.hid hW1
        have K1 := Lib.hid k1
        have X1 := Lib.hid mX
        have hkd : ¬ (x.kind : Int) = 9 ∨ ((x.kind : Int) = 9 ∧ i = 0) ∨ ((x.kind : Int) = 9 ∧ ∃ m, i = m + 1 ∧ (acc.getD m ⟨0, 0, 0⟩).err = 0) := by
          by_cases h9 : x.kind = 9
          · rcases Nat.eq_zero_or_pos i with h0 | h0
            · exact .inr (.inl ⟨by omega, h0⟩)
            · refine .inr (.inr ⟨by omega, i - 1, by omega, ?_⟩)
              rw [← lastErr_at (acc := acc) (m := i - 1) (by rw [hal'.out]; omega)]
              by_cases hl : lastErr acc = 0
              · exact hl
              · exact absurd ⟨h9, hl⟩ hstop
          · exact .inl (by omega)
        have sm := C3.out.same
        rw [Pr.run_bind] at sm
        have fr : ∀ a s', (callT k cell x).run s = (some a, s') → a.err ≠ 11 := fun a s' hr => (callT_fair k cell x).run hr
        have run3 := Lib.hid (And.intro C3.out.run C3.out.mv)
        clear hW1 k1 mX kd hstop g1 C3
        generalize (callT k cell x).run s = Q at ca sm g2 fr
        obtain ⟨q, sq⟩ := Q
        have sm' := Lib.hid sm
        have g2' := Lib.hid g2
        have fr' := Lib.hid fr
        clear sm g2 fr
        have hel : i = 0 ∨ ∃ m ga, i = m + 1 ∧ ao = some ⟨ga, 0, none⟩ ∧ wr.cell? ⟨ga, m * 3, none⟩ = some (.int .i64 ((acc.getD m ⟨0, 0, 0⟩).err : Int)) ∧ ga < wr.heap.size := by
          rcases Nat.eq_zero_or_pos i with h0 | h0
          · exact .inl h0
          · obtain ⟨ga, rfl⟩ := hao h0
            have hc := A1.out.at_ (k := i - 1) (by exact hal'.out) (by rw [hal'.out]; omega) (j := 0) (by omega)
            exact .inr ⟨i - 1, ga, by omega, rfl, hc, A1.out.lt rfl⟩
        rcases hkd with hkd | ⟨hkd, rfl⟩ | ⟨hkd, m, rfl, he⟩
        · clear hel
          go_wp2_with fail
          rw [← hW1'.out]
          go_region
          go_wp2_with fail
          refine ca.out.mono ?_
          rintro e W3 ⟨rfl, hE⟩
          obtain ⟨⟨Z2, hr2, hm2⟩, hcap2⟩ := hE
          have kdr : Keeps (fun _ => False) wr W1.drew := K1.out.drew
          have row3 := Lib.hid ((A1.out.keeps kdr fun _ _ => id).keeps hm2.keeps fun g hg => (O1.out g hg).2)
          have own3 := Lib.hid (show ∀ g', (Value.slice ao _ ac).ownBlock = some g' → w.heap.size ≤ g' ∧ ¬ Z2 g' from fun g' hg' => ⟨(O1.out g' hg').1, hm2.apart (Nat.lt_of_lt_of_le (A1.out.lt hg') kdr.size) (O1.out g' hg').2⟩)
          have mv3 := Lib.hid ((run3.out.2.trans (Mv.stay kdr)).trans hm2)
          have run4 := Lib.hid hr2
          have cap3 := Lib.hid hcap2
          have e4 : W3.cell? ⟨p3, 0, none⟩ = some (.pointer (some ⟨o, 0, none⟩)) := (mv3.out.keeps.cell (p := ⟨p3, 0, none⟩) (cell_lt Q4.out) (hd'.out _ (.inr rr.out.2.2.2.1))).trans Q4.out
          have m4 : p3 < W3.heap.size := cell_lt e4
          obtain ⟨ov, ho0, hof⟩ := hP'.out.cell mv3.out hd'.out
          have m5 : o < W3.heap.size := cell_lt ho0
          clear hr2 hm2 hcap2 kdr ca d1 d2 d3 dx x0 x2 x3 x4 y0 y1 y2 y3 y4 c1 c2 c3 c4 l1 l2 l3 l4
          cases q with
          | none =>
            have hR0 := sm'.out
            dsimp only at hR0
            subst hR0
            dsimp only [ansOf, ansV]
            have fin := Lib.hid (fun v hv => bodyTo_end (R0 := (none, sq)) (v := v) hP'.out hd'.out hRo'.out run4.out mv3.out row3.out own3.out (acc := acc) (fun L' hL' => by cases hL') hv)
            go_wp2_with fail
            go_ret
            obtain ⟨Y', Z', hB⟩ := fin.out (.iface 71 (.int .i64 11)) rfl
            first | exact ⟨_, Y', Z', rfl, hB.stay ((Keeps.refl _ _).alloc _)⟩ | exact ⟨_, rfl, Y', Z', hB.stay ((Keeps.refl _ _).alloc _)⟩
          | some x1 =>
            have hR0 := Lib.hid (show R0 = (callsT k cell (l.drop (i + 1)) (acc ++ [x1])).run sq from sm'.out)
            have hGd := Lib.hid (g2'.out x1 sq rfl)
            have h11 : ¬ x1.err = 11 := fr'.out x1 sq rfl
            have hdec : decide ((ansOf (some x1, sq).fst).err = 11) = false := decide_eq_false h11
            have hbig : acc.length ≤ 10000 := by have := hal'.out; omega
            rw [hdec]
            dsimp only [ansOf, ansV]
            go_wp2_with (first
              | (at_builtin; refine wpList_append_ans _ rfl _ _ rfl (.slice ao _ ac) acc x1 rfl (row3.out.keeps (((Keeps.refl (fun _ => False) W3).alloc _).alloc _) fun _ _ => id) ⟨W3.heap.size + 1, 0, none⟩ 1 rfl (one_ans (by have := Whole.made (W3.alloc (.cells #[.int .i64 (x1.err : Int), .int .u64 (x1.value : Int), .int .i64 x1.n] 38)) 38 #[.int .i64 (x1.err : Int), .int .u64 (x1.value : Int), .int .i64 x1.n]; rw [World.size_alloc] at this; exact this)) hbig ?_; intro ao2 cap2 V hO hG hloc; have O5 := Lib.hid hO; have G5 := Lib.hid hG; have L5 := Lib.hid hloc; clear hO hG hloc))
            go_roundw
            case rel => exact ⟨i + 1, acc ++ [x1], sq, Z2, by go_num, BodyL.next gl.out hlt hal'.out run4.out mv3.out cap3.out own3.out hR0.out hGd.out (((Keeps.refl _ _).alloc _).alloc _) O5.out G5.out L5.out⟩
            case measure => simp [intOf]; omega
        · clear hel
          obtain ⟨kd, xn, xo, xv⟩ := x
          obtain rfl : kd = 9 := by simp only at hkd; omega
          have hW9 := hW1'.out
          rw [show ((9 : Nat) : Int) = 9 from rfl] at hW9
          clear hkd hW1'
          have hW1' := Lib.hid hW9
          clear hW9
          go_wp2_with fail
          rw [← hW1'.out]
          go_region
          go_wp2_with fail
          refine ca.out.mono ?_
          rintro e W3 ⟨rfl, hE⟩
          obtain ⟨⟨Z2, hr2, hm2⟩, hcap2⟩ := hE
          have kdr : Keeps (fun _ => False) wr W1.drew := K1.out.drew
          have row3 := Lib.hid ((A1.out.keeps kdr fun _ _ => id).keeps hm2.keeps fun g hg => (O1.out g hg).2)
          have own3 := Lib.hid (show ∀ g', (Value.slice ao _ ac).ownBlock = some g' → w.heap.size ≤ g' ∧ ¬ Z2 g' from fun g' hg' => ⟨(O1.out g' hg').1, hm2.apart (Nat.lt_of_lt_of_le (A1.out.lt hg') kdr.size) (O1.out g' hg').2⟩)
          have mv3 := Lib.hid ((run3.out.2.trans (Mv.stay kdr)).trans hm2)
          have run4 := Lib.hid hr2
          have cap3 := Lib.hid hcap2
          have e4 : W3.cell? ⟨p3, 0, none⟩ = some (.pointer (some ⟨o, 0, none⟩)) := (mv3.out.keeps.cell (p := ⟨p3, 0, none⟩) (cell_lt Q4.out) (hd'.out _ (.inr rr.out.2.2.2.1))).trans Q4.out
          have m4 : p3 < W3.heap.size := cell_lt e4
          obtain ⟨ov, ho0, hof⟩ := hP'.out.cell mv3.out hd'.out
          have m5 : o < W3.heap.size := cell_lt ho0
          clear hr2 hm2 hcap2 kdr ca d1 d2 d3 dx x0 x2 x3 x4 y0 y1 y2 y3 y4 c1 c2 c3 c4 l1 l2 l3 l4
          cases q with
          | none =>
            have hR0 := sm'.out
            dsimp only at hR0
            subst hR0
            dsimp only [ansOf, ansV]
            have fin := Lib.hid (fun v hv => bodyTo_end (R0 := (none, sq)) (v := v) hP'.out hd'.out hRo'.out run4.out mv3.out row3.out own3.out (acc := acc) (fun L' hL' => by cases hL') hv)
            go_wp2_with fail
            go_ret
            obtain ⟨Y', Z', hB⟩ := fin.out (.iface 71 (.int .i64 11)) rfl
            first | exact ⟨_, Y', Z', rfl, hB.stay ((Keeps.refl _ _).alloc _)⟩ | exact ⟨_, rfl, Y', Z', hB.stay ((Keeps.refl _ _).alloc _)⟩
          | some x1 =>
            have hR0 := Lib.hid (show R0 = (callsT k cell (l.drop (0 + 1)) (acc ++ [x1])).run sq from sm'.out)
            have hGd := Lib.hid (g2'.out x1 sq rfl)
            have h11 : ¬ x1.err = 11 := fr'.out x1 sq rfl
            have hdec : decide ((ansOf (some x1, sq).fst).err = 11) = false := decide_eq_false h11
            have hbig : acc.length ≤ 10000 := by have := hal'.out; omega
            rw [hdec]
            dsimp only [ansOf, ansV]
            go_wp2_with (first
              | (at_builtin; refine wpList_append_ans _ rfl _ _ rfl (.slice ao _ ac) acc x1 rfl (row3.out.keeps (((Keeps.refl (fun _ => False) W3).alloc _).alloc _) fun _ _ => id) ⟨W3.heap.size + 1, 0, none⟩ 1 rfl (one_ans (by have := Whole.made (W3.alloc (.cells #[.int .i64 (x1.err : Int), .int .u64 (x1.value : Int), .int .i64 x1.n] 38)) 38 #[.int .i64 (x1.err : Int), .int .u64 (x1.value : Int), .int .i64 x1.n]; rw [World.size_alloc] at this; exact this)) hbig ?_; intro ao2 cap2 V hO hG hloc; have O5 := Lib.hid hO; have G5 := Lib.hid hG; have L5 := Lib.hid hloc; clear hO hG hloc))
            go_roundw
            case rel => exact ⟨0 + 1, acc ++ [x1], sq, Z2, by go_num, BodyL.next gl.out hlt hal'.out run4.out mv3.out cap3.out own3.out hR0.out hGd.out (((Keeps.refl _ _).alloc _).alloc _) O5.out G5.out L5.out⟩
            case measure => simp [intOf]; omega
        · obtain ⟨m', ga, hm, rfl, hc, hga⟩ := hel.resolve_left (by omega)
          obtain rfl : m = m' := by omega
          rw [he] at hc
          obtain ⟨kd, xn, xo, xv⟩ := x
          obtain rfl : kd = 9 := by simp only at hkd; omega
          have hW9 := hW1'.out
          rw [show ((9 : Nat) : Int) = 9 from rfl] at hW9
          clear hkd hW1'
          have hW1' := Lib.hid hW9
          clear hW9
          go_wp2_with fail
          rw [← hW1'.out]
          go_region
          go_wp2_with fail
          refine ca.out.mono ?_
          rintro e W3 ⟨rfl, hE⟩
          obtain ⟨⟨Z2, hr2, hm2⟩, hcap2⟩ := hE
          have kdr : Keeps (fun _ => False) wr W1.drew := K1.out.drew
          have row3 := Lib.hid ((A1.out.keeps kdr fun _ _ => id).keeps hm2.keeps fun g hg => (O1.out g hg).2)
          have own3 := Lib.hid (show ∀ g', (Value.slice (some ⟨ga, 0, none⟩) _ ac).ownBlock = some g' → w.heap.size ≤ g' ∧ ¬ Z2 g' from fun g' hg' => ⟨(O1.out g' hg').1, hm2.apart (Nat.lt_of_lt_of_le (A1.out.lt hg') kdr.size) (O1.out g' hg').2⟩)
          have mv3 := Lib.hid ((run3.out.2.trans (Mv.stay kdr)).trans hm2)
          have run4 := Lib.hid hr2
          have cap3 := Lib.hid hcap2
          have e4 : W3.cell? ⟨p3, 0, none⟩ = some (.pointer (some ⟨o, 0, none⟩)) := (mv3.out.keeps.cell (p := ⟨p3, 0, none⟩) (cell_lt Q4.out) (hd'.out _ (.inr rr.out.2.2.2.1))).trans Q4.out
          have m4 : p3 < W3.heap.size := cell_lt e4
          obtain ⟨ov, ho0, hof⟩ := hP'.out.cell mv3.out hd'.out
          have m5 : o < W3.heap.size := cell_lt ho0
          clear hr2 hm2 hcap2 kdr ca d1 d2 d3 dx x0 x2 x3 x4 y0 y1 y2 y3 y4 c1 c2 c3 c4 l1 l2 l3 l4
          cases q with
          | none =>
            have hR0 := sm'.out
            dsimp only at hR0
            subst hR0
            dsimp only [ansOf, ansV]
            have fin := Lib.hid (fun v hv => bodyTo_end (R0 := (none, sq)) (v := v) hP'.out hd'.out hRo'.out run4.out mv3.out row3.out own3.out (acc := acc) (fun L' hL' => by cases hL') hv)
            go_wp2_with fail
            go_ret
            obtain ⟨Y', Z', hB⟩ := fin.out (.iface 71 (.int .i64 11)) rfl
            first | exact ⟨_, Y', Z', rfl, hB.stay ((Keeps.refl _ _).alloc _)⟩ | exact ⟨_, rfl, Y', Z', hB.stay ((Keeps.refl _ _).alloc _)⟩
          | some x1 =>
            have hR0 := Lib.hid (show R0 = (callsT k cell (l.drop (m + 1 + 1)) (acc ++ [x1])).run sq from sm'.out)
            have hGd := Lib.hid (g2'.out x1 sq rfl)
            have h11 : ¬ x1.err = 11 := fr'.out x1 sq rfl
            have hdec : decide ((ansOf (some x1, sq).fst).err = 11) = false := decide_eq_false h11
            have hbig : acc.length ≤ 10000 := by have := hal'.out; omega
            rw [hdec]
            dsimp only [ansOf, ansV]
            go_wp2_with (first
              | (at_builtin; refine wpList_append_ans _ rfl _ _ rfl (.slice (some ⟨ga, 0, none⟩) _ ac) acc x1 rfl (row3.out.keeps (((Keeps.refl (fun _ => False) W3).alloc _).alloc _) fun _ _ => id) ⟨W3.heap.size + 1, 0, none⟩ 1 rfl (one_ans (by have := Whole.made (W3.alloc (.cells #[.int .i64 (x1.err : Int), .int .u64 (x1.value : Int), .int .i64 x1.n] 38)) 38 #[.int .i64 (x1.err : Int), .int .u64 (x1.value : Int), .int .i64 x1.n]; rw [World.size_alloc] at this; exact this)) hbig ?_; intro ao2 cap2 V hO hG hloc; have O5 := Lib.hid hO; have G5 := Lib.hid hG; have L5 := Lib.hid hloc; clear hO hG hloc))
            go_roundw
            case rel => exact ⟨m + 1 + 1, acc ++ [x1], sq, Z2, by go_num, BodyL.next gl.out hlt hal'.out run4.out mv3.out cap3.out own3.out hR0.out hGd.out (((Keeps.refl _ _).alloc _).alloc _) O5.out G5.out L5.out⟩
            case measure => simp [intOf]; omega
    · obtain rfl : i = l.length := by omega
      have hdr : l.drop l.length = [] := List.drop_eq_nil_of_le (Nat.le_refl _)
      have C2 := C1.out
      rw [hdr] at C2
      obtain ⟨hr, hE⟩ := C2.at_ret
      have fin := Lib.hid (fun v hv => bodyTo_end (v := v) hP'.out hd'.out hRo'.out hE M1.out A1.out O1.out (acc := acc) (fun L' hL' => by rw [hr] at hL'; exact (Option.some.inj hL').symm) hv)
      obtain ⟨ov, ho0, hof⟩ := hP'.out.cell M1.out hd'.out
      clear hE C2
      go_wp2_with fail
      go_ret
      obtain ⟨Y', Z2, hB⟩ := fin.out .nilIface (by rw [hr]; rfl)
      first | exact ⟨_, Y', Z2, rfl, hB⟩ | exact ⟨_, rfl, Y', Z2, hB⟩
end Go.Proofs.YtenhmficiegpiaaGreatDoor
