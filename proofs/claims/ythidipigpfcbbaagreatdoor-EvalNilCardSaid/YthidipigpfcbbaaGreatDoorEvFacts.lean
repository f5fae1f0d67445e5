/-
  What statements do ('AllDoes'); a loop, an atomic by contract, for statements that do so.
  What a statement that is right is; a put or a del in a run.
-/
import Derived.Test.YthidipigpfcbbaaGreatDoorEvStop
import Derived.Test.YthidipigpfcbbaaGreatDoorEvList
import Derived.Test.YthidipigpfcbbaaGreatDoorPgWeight

namespace Go.Proofs.YthidipigpfcbbaaGreatDoor
open Go.RowKit Go.Maps Go.Extern.Stop Go.Stop Go.Extern

/-- What a call that does f leaves: its answer, the run. w0: what lies ahead of the run. -/
def Left11 (PM : PMem) (w0 w : World) (rb : Nat) (X : Nat → Prop) (z : RS × Nat × Nat) (e : Ending) (w' : World) : Prop := ∃ ev, e = .returned ev ∧ EndV w0.heap.size w' ev z.2.1 ∧ RDone PM w w' rb z.1 z.2.2 X
/-- The statements do what is done of them. -/
def AllDoes (PM : PMem) (K : List Int) (w0 : World) (F : Fo) : Prop := ∀ (w : World) (v : Value) (rb n : Nat) (r : RS) (X : Nat → Prop), SlOf w0 v F → Keeps (fun _ => False) w0 w → RunM PM w rb r n X → (∀ x, X x → w0.heap.size ≤ x) → r.Fine K n → n ≤ 1000 →
  Calls Tryz.prog 28 #[.pointer (some ⟨rb, 0, none⟩), v] w fun e w' => Left11 PM w0 w rb X (evF F r n) e w'

section
variable {PM : PMem} {w0 w w' w1 : World} {rb n m : Nat} {r : RS} {X : Nat → Prop} {K : List Int}
theorem mvs_ge (hX : ∀ x, X x → w0.heap.size ≤ x) (k0 : w0.heap.size ≤ w.heap.size) {X' : Nat → Prop} (h : Mvs w X X') : ∀ x, X' x → w0.heap.size ≤ x := fun x hx => (h x hx).elim (hX x) fun g => Nat.le_trans k0 g
theorem keeps_w0 (hX : ∀ x, X x → w0.heap.size ≤ x) (k0 : Keeps (fun _ => False) w0 w) (h : Keeps X w w') : Keeps (fun _ => False) w0 w' := k0.trans h fun x hx e => absurd hx (Nat.not_lt.2 (hX x e))

set_option maxRecDepth 100000 in
theorem loop_any11 {B : Fo} (hB : AllDoes PM K w0 B) (times : Nat) (few : times ≤ 100) {v : Value} (hv : SlOf w0 v B) (k0 : Keeps (fun _ => False) w0 w) (h : RunM PM w rb r n X) (hX : ∀ x, X x → w0.heap.size ≤ x) (hr : r.Fine K n) (hn : n ≤ 1000) :
    Calls Tryz.prog 80 #[.pointer (some ⟨rb, 0, none⟩), .int .i64 (times : Int), v] w fun e w' => Left11 PM w0 w rb X (timesF (evF B) times r n) e w' := by
  obtain ⟨z, hz⟩ : ∃ z, timesF (evF B) times r n = z := ⟨_, rfl⟩
  have HB := Lib.hid hB
  have HV := Lib.hid hv
  have H0 := Lib.hid (And.intro k0 (And.intro h (And.intro hX (And.intro hr hn))))
  have fB := Lib.hid (ev_fine K B)
  rw [hz]
  have HZ := Lib.hid hz
  obtain ⟨vo, vc, rfl, _⟩ := hv
  clear hB k0 h hX hr hn hz
  go_enter Tryz.func80, Tryz.ntmps80
  go_wp2_with fail
  go_loopw [9, 7] (fun iv ev wr => ∃ (i ni : Nat) (ri : RS) (X' : Nat → Prop), iv = .int .i64 (i : Int) ∧ i ≤ times ∧ timesF (evF B) (times - i) ri ni = z ∧ RunM PM wr rb ri ni X' ∧ Mvs w X X' ∧ Keeps X w wr ∧ ri.Fine K ni ∧ ni ≤ 1000) (fun iv _ _ => times - (intOf iv).toNat)
  case atStart => exact ⟨0, n, r, X, rfl, Nat.zero_le _, by simpa using HZ.out, H0.out.2.1, fun x hx => .inl hx, Keeps.refl _ _, H0.out.2.2.2.1, H0.out.2.2.2.2⟩
  case round =>
    obtain ⟨i, ni, ri, X', rfl, hi, hzi, hR, hM, hK, hf, hn⟩ := hrel
    have I := Lib.hid (And.intro hM hK)
    by_cases hlt : i < times
    · have b1 : (i : Int) < (times : Int) := by omega
      have k1 := keeps_w0 H0.out.2.2.1 H0.out.1 hK
      have hX' := mvs_ge H0.out.2.2.1 H0.out.1.size hM
      have C1 := Lib.hid (HB.out wr _ rb ni ri X' HV.out k1 hR hX' hf hn)
      obtain ⟨f1, _, f3⟩ := fB.out ri ni hf hn
      have F1 := Lib.hid (And.intro f1 f3)
      have HX' := Lib.hid hX'
      rw [show times - i = (times - (i + 1)) + 1 by omega] at hzi
      simp only [timesF] at hzi
      have HZI := Lib.hid hzi
      generalize evF B ri ni = y at *
      clear hzi hR hM hK hf hn k1 hX' f1 f3
      go_wp2_with fail
      refine C1.out.mono ?_
      rintro e w3 ⟨ev, rfl, hE, hD⟩
      have HE := Lib.hid hE
      have HD := Lib.hid hD
      have hsh := hE.shape
      clear C1 hD hE
      rcases hsh with ⟨h0, rfl⟩ | ⟨h0, t, x, rfl⟩
      · have hz' := HZI.out
        rw [if_pos h0] at hz'
        have HZ' := Lib.hid hz'
        clear hz' h0
        go_wp2_with fail
        go_roundw
        case rel =>
          obtain ⟨X2, p1, p2, p3⟩ := HD.out
          refine ⟨i + 1, y.2.2, y.1, X2, by go_num, by omega, HZ'.out, p1, fun x hx => ?_, ?_, F1.out.1, F1.out.2⟩
          · rcases p2 x hx with q | q
            · exact I.out.1 x q
            · exact .inr (Nat.le_trans I.out.2.size q)
          · refine I.out.2.trans p3 fun x hx q => ?_
            rcases I.out.1 x q with q | q
            · exact q
            · omega
        case measure => simp [intOf]; omega
      · have hz' := HZI.out
        rw [if_neg h0] at hz'
        have HZ' := Lib.hid hz'
        clear hz' h0
        go_wp2_with fail
        go_ret
        rw [← HZ'.out]
        exact ⟨_, rfl, HE.out, RDone.step I.out.1 I.out.2 HD.out⟩
    · obtain rfl : i = times := by omega
      have b1 : ¬ (i : Int) < (i : Int) := by omega
      rw [Nat.sub_self] at hzi
      simp only [timesF] at hzi
      have HZ' := Lib.hid hzi
      have HR := Lib.hid hR
      clear hzi hR hM hK hf hn
      go_wp2_with fail
      go_ret
      rw [← HZ'.out]
      exact ⟨_, rfl, .inl ⟨rfl, rfl⟩, X', HR.out, I.out.1, I.out.2⟩

/-- The state that a run has is another one. -/
theorem RunMt.setState {sb s2 : Nat} {tv : Value} {A : M8} {Xs Z : Nat → Prop} (h : RunMt PM w rb sb tv r n Xs X) (F : Face PM) (hZ : PM w s2 A Z) (hz : ∀ x, Z x → ¬ x = rb ∧ ¬ tv.ownBlock = some x) : RunMt PM (w.setCell ⟨rb, 0, none⟩ (.pointer (some ⟨s2, 0, none⟩))) rb s2 tv { r with A := A } n Z (fun x => X x ∨ Z x) := by
  have k : Keeps (fun x => x = rb) w (w.setCell ⟨rb, 0, none⟩ (.pointer (some ⟨s2, 0, none⟩))) := (Keeps.refl (fun x => x = rb) w).setCell (p := ⟨rb, 0, none⟩) (fun _ => rfl) _
  refine ⟨?_, F.keeps hZ k fun x hx e => (hz x hx).1 e, ownsRow_keeps h.told k fun g hg e => h.rb_told (e ▸ hg), ⟨.inl h.inX.1, fun x hx => .inr hx, fun g hg => .inl (h.inX.2.2 g hg)⟩, ⟨fun hx => (hz rb hx).1 rfl, fun g hg hx => (hz g hx).2 hg⟩, fun x hx => ?_⟩
  · show Whole _ rb _ (runCells s2 r.R tv n)
    rw [← runCells_st (sb := sb)]
    exact h.box.set_ 0 _
  · refine Nat.lt_of_lt_of_le ?_ k.size
    rcases hx with hx | hx
    · exact h.old x hx
    · exact F.old hZ x hx

set_option maxRecDepth 100000 in
theorem atomic_any11 (F : Face PM) {B : Fo} (hB : AllDoes PM K w0 B) {v : Value} (hv : SlOf w0 v B) (k0 : Keeps (fun _ => False) w0 w) (h : RunM PM w rb r n X) (hX : ∀ x, X x → w0.heap.size ≤ x) (hr : r.Fine K n) (hn : n ≤ 1000) :
    Calls Tryz.prog 81 #[.pointer (some ⟨rb, 0, none⟩), v] w fun e w' => Left11 PM w0 w rb X (if (evF B r n).2.1 = 2 then ({ (evF B r n).1 with A := r.A }, 0, (evF B r n).2.2) else evF B r n) e w' := by
  obtain ⟨sb, tv, Xs, h1⟩ := h
  have CC := Lib.hid (F.copy_ h1.st)
  have CB := Lib.hid (fun V (k : Keeps (fun _ => False) w V) => hB V v rb n r X hv (k0.trans k fun _ _ => id) (RunM.same F ⟨sb, tv, Xs, h1⟩ k) hX hr hn)
  have H1 := Lib.hid h1
  have HX := Lib.hid hX
  have HK0 := Lib.hid k0
  have c0 := h1.cell0
  generalize evF B r n = y at *
  obtain ⟨z, hz⟩ : ∃ z, (if y.2.1 = 2 then ({ y.1 with A := r.A }, 0, y.2.2) else y) = z := ⟨_, rfl⟩
  rw [hz]
  have HZ := Lib.hid hz
  clear hz
  obtain ⟨vo, vc, rfl, _⟩ := hv
  clear hB k0 h1 hX hr hn
  go_enter Tryz.func81, Tryz.ntmps81
  go_wp2_with fail
  refine CC.out.mono ?_
  rintro e w2 ⟨s2, Z, rfl, hP, hZ, hK⟩
  have K2 := Lib.hid hK
  have P2 := Lib.hid (And.intro hP hZ)
  have C1 := Lib.hid (CB.out w2 hK)
  clear hP hZ hK CC CB c0
  go_wp2_with fail
  refine C1.out.mono ?_
  rintro e w3 ⟨ev, rfl, hE, hD⟩
  have CI := Lib.hid (is_end hE (j := 2) (.inl rfl))
  have HE := Lib.hid hE
  have HD := Lib.hid hD
  have P3 : Hid (PM w3 s2 r.A Z) := Lib.hid (F.keeps P2.out.1 hD.keeps fun x hx g => by
    have := P2.out.2 x hx
    have := H1.out.old x g
    omega)
  rw [show stopC 2 = 14 from rfl] at CI
  have hsh := hE.shape
  clear C1 hD hE
  rcases hsh with ⟨h0, rfl⟩ | ⟨h0, t, x, rfl⟩
  · have b2 : ¬ y.2.1 = 2 := by omega
    have E := HZ.out
    rw [if_neg b2] at E
    have HZ := Lib.hid E
    clear E
    have b3 : (y.2.1 == 2) = false := by simpa using b2
    rw [b3] at CI
    clear b2 b3 h0
    go_wp2_with fail
    refine CI.out.mono ?_
    rintro e w4 ⟨rfl, hK⟩
    have K4 := Lib.hid hK
    clear hK
    go_wp2_with fail
    go_ret
    rw [← HZ.out]
    exact ⟨_, rfl, HE.out.same K4.out fun _ _ => id, RDone.after K2.out (HD.out.later F K4.out)⟩
  · by_cases b2 : y.2.1 = 2
    · have E := HZ.out
      rw [if_pos b2] at E
      have HZ := Lib.hid E
      clear E
      have b3 : (y.2.1 == 2) = true := by simpa using b2
      rw [b3] at CI
      clear b2 b3 h0
      go_wp2_with fail
      refine CI.out.mono ?_
      rintro e w4 ⟨rfl, hK⟩
      obtain ⟨X3, ⟨sb3, tv3, Xs3, q1⟩, q2, q3⟩ := HD.out.later F hK
      have Q1 := Lib.hid q1
      have P4 := Lib.hid (F.same P3.out hK)
      have hz : Hid (∀ x, Z x → ¬ x = rb ∧ ¬ tv3.ownBlock = some x) := Lib.hid fun x hx => by
        have z1 := P2.out.2 x hx
        have z2 := F.old P2.out.1 x hx
        refine ⟨fun e => ?_, fun e => ?_⟩
        · subst e
          have := H1.out.old x H1.out.inX.1
          omega
        · rcases q2 x (q1.inX.2.2 x e) with g | g
          · have := H1.out.old x g
            omega
          · omega
      have QX := Lib.hid (And.intro q2 q3)
      have c1 : w4.cell? ⟨rb, 0, none⟩ = some (.pointer (some ⟨sb3, 0, none⟩)) := q1.cell0
      have f1 : w4.frozen? ⟨rb, 0, none⟩ = false := q1.box.free 0
      clear hK q1 q2 q3
      go_wp2_with fail
      go_ret
      rw [← HZ.out]
      refine ⟨_, rfl, .inl ⟨rfl, rfl⟩, _, ⟨s2, tv3, Z, Q1.out.setState F P4.out hz.out⟩, fun x hx => ?_, ?_⟩
      · rcases hx with hx | hx
        · rcases QX.out.1 x hx with g | g
          · exact .inl g
          · exact .inr (Nat.le_trans K2.out.size g)
        · exact .inr (P2.out.2 x hx)
      · exact ((K2.out.mono fun _ _ => False.elim : Keeps X w w2).trans QX.out.2 fun _ _ => id).setCell (p := ⟨rb, 0, none⟩) (fun _ => H1.out.inX.1) _
    · have E := HZ.out
      rw [if_neg b2] at E
      have HZ := Lib.hid E
      clear E
      have b3 : (y.2.1 == 2) = false := by simpa using b2
      rw [b3] at CI
      clear b2 b3 h0
      go_wp2_with fail
      refine CI.out.mono ?_
      rintro e w4 ⟨rfl, hK⟩
      have K4 := Lib.hid hK
      clear hK
      go_wp2_with fail
      go_ret
      rw [← HZ.out]
      exact ⟨_, rfl, HE.out.same K4.out fun _ _ => id, RDone.after K2.out (HD.out.later F K4.out)⟩
end
end Go.Proofs.YthidipigpfcbbaaGreatDoor

namespace Go.Proofs.YthidipigpfcbbaaGreatDoor
open Go.RowKit Go.Maps Go.Extern.Stop Go.Stop Go.Extern

structure Facts (s : St7) (nb ne : Nat) (K : List Int) : Prop where
  k : 1 ≤ s.k ∧ s.k ≤ 16
  c : s.k ≤ 8 → 0 ≤ s.c ∧ s.c < (K.length : Int)
  ord : s.k = 6 ∨ s.k = 7 → K.getD s.c.toNat 0 = 3
  reg : s.k = 1 ∨ s.k = 4 ∨ s.k = 5 ∨ s.k = 6 ∨ s.k = 7 ∨ s.k = 9 ∨ s.k = 10 → 1 ≤ s.r ∧ s.r ≤ 8
  ar : 0 ≤ s.ar ∧ s.ar ≤ 8
  br : 0 ≤ s.br ∧ s.br ≤ 8
  an : -999 ≤ s.an ∧ s.an ≤ 999
  set_ : s.k = 9 → s.br = 0 ∧ s.bn = 0
  loop : s.k = 12 → 0 ≤ s.an ∧ s.an ≤ 5
theorem facts_of {s : St7} {nb ne : Nat} {K : List Int} (h : one s nb ne K = true) : Facts s nb ne K := by
  unfold one at h
  simp only [Bool.and_eq_true, decide_eq_true_eq] at h
  obtain ⟨⟨⟨⟨⟨⟨⟨⟨h1, h2⟩, h3⟩, h4⟩, h5⟩, h6⟩, h7⟩, _⟩, _⟩ := h
  have a5 : (0 ≤ s.ar ∧ s.ar ≤ 8) ∧ -999 ≤ s.an ∧ s.an ≤ 999 := by
    unfold argOk at h5
    split at h5
    · have := of_decide_eq_true h5; omega
    · have := of_decide_eq_true h5; omega
  have a6 : 0 ≤ s.br ∧ s.br ≤ 8 := by
    unfold argOk at h6
    split at h6
    · have := of_decide_eq_true h6; omega
    · have := of_decide_eq_true h6; omega
  refine ⟨h1, fun q => ?_, fun q => ?_, fun q => ?_, a5.1, a6, a5.2, fun q => ?_, fun q => ?_⟩
  · rw [if_pos q] at h2
    exact of_decide_eq_true h2
  · rw [if_pos q] at h3
    exact of_decide_eq_true h3
  · have : inL s.k [1, 4, 5, 6, 7, 9, 10] = true := by
      unfold inL
      simp
      omega
    rw [this] at h4
    simpa using h4
  · rw [q] at h6
    simpa [argOk, inL] using h6
  · rw [if_pos q] at h7
    have := of_decide_eq_true h7
    omega
theorem argv_in {R : List Int} {r n : Int} (h : -999 ≤ n ∧ n ≤ 999) : wrap64 (argv R r n) = argv R r n := by
  unfold argv
  split
  · exact IntWalk.wrap64_in _ ⟨by omega, by omega⟩
  · rw [wrap64_is]
    unfold wrap64
    omega

section
variable {PM : PMem} {w0 w w' w1 : World} {rb n m : Nat} {r : RS} {X : Nat → Prop} {K : List Int}
theorem there_of {s : St7} {nb ne : Nat} (hf : Facts s nb ne K) (hr : r.Fine K n) (hk : s.k ≤ 8) : r.A.there s.c := by
  have h1 := hf.c hk
  have h2 := hr.ok.len
  have h3 := hr.kinds
  unfold M8.there
  rw [← h2, h3]
  exact h1
theorem ord_of {s : St7} {nb ne : Nat} (hf : Facts s nb ne K) (hr : r.Fine K n) (hk : s.k = 6 ∨ s.k = 7) : r.A.kind s.c = 3 := by
  unfold M8.kind
  rw [hr.kinds]
  exact hf.ord hk
/-- A collection is turned. -/
theorem RunMt.did {sb : Nat} {tv : Value} {Xs : Nat → Prop} {A : M8} (h : RunMt PM w rb sb tv r n Xs X) (F : Face PM) (d : MDid PM w w' sb A Xs) : RDone PM w w' rb { r with A := A } n X := by
  obtain ⟨Y, d1, d2, d3⟩ := d
  have hrb := h.old rb h.inX.1
  refine ⟨fun x => X x ∨ Y x, ⟨sb, tv, Y, h.box.keeps d3 h.apart.1, d1, ownsRow_keeps h.told d3 fun g hg => h.apart.2 g hg, ⟨.inl h.inX.1, fun x hx => .inr hx, fun g hg => .inl (h.inX.2.2 g hg)⟩, ⟨fun hx => ?_, fun g hg hx => ?_⟩, fun x hx => ?_⟩, fun x hx => ?_, d3.mono fun x _ g => h.inX.2.1 x g⟩
  · rcases d2 rb hx with g | g
    · exact h.apart.1 g
    · omega
  · rcases d2 g hx with q | q
    · exact h.apart.2 g hg q
    · have := h.old g (h.inX.2.2 g hg)
      omega
  · rcases hx with hx | hx
    · exact Nat.lt_of_lt_of_le (h.old x hx) d3.size
    · exact F.old d1 x hx
  · rcases hx with hx | hx
    · exact .inl hx
    · rcases d2 x hx with q | q
      · exact .inl (h.inX.2.1 x q)
      · exact .inr q
end
end Go.Proofs.YthidipigpfcbbaaGreatDoor
