/-
  QueueGone: called with any timers, any timer and any number, concordlaw04.QueueGone returns true and changes nothing; the library's variable errors.errorType holds what the program's text lays in it (the card ties it). The card says nothing of code outside the pruned copy.
-/
import Derived.Test.YtjmkfloaagppdaaDoorQuTurned
import Derived.Lib.SmallJoins
namespace Go.Proofs.YtjmkfloaagppdaaDoor
open Go.RowKit Go.Extern.Stop Go.Stop Go.Extern
open Go.ChangeShapes Go.WideShapes Go.ChangeAt Go.Deep

/-- Three queues, apart from one another and from all that was there. -/
structure Three (w wr : World) (p q r : Nat) (LP LQ LR : List Tm) (XP XQ XR : Nat → Prop) : Prop where
  P : Qu wr p LP XP
  Q : Qu wr q LQ XQ
  R : Qu wr r LR XR
  nP : ∀ x, XP x → w.heap.size ≤ x
  nQ : ∀ x, XQ x → w.heap.size ≤ x
  nR : ∀ x, XR x → w.heap.size ≤ x
  pq : ∀ x, XP x → ¬ XQ x
  qr : ∀ x, XQ x → ¬ XR x
  rp : ∀ x, XR x → ¬ XP x
  keeps : Keeps (fun _ => False) w wr

section
variable {w wr w' : World} {p q r : Nat} {LP LQ LR L' : List Tm} {XP XQ XR : Nat → Prop}
theorem Three.rot (h : Three w wr p q r LP LQ LR XP XQ XR) : Three w wr q r p LQ LR LP XQ XR XP := ⟨h.Q, h.R, h.P, h.nQ, h.nR, h.nP, h.qr, h.rp, h.pq, h.keeps⟩
theorem Three.pushP (h : Three w wr p q r LP LQ LR XP XQ XR) (hW : Went wr p L' XP w') : ∃ X', Three w w' p q r L' LQ LR X' XQ XR := by
  obtain ⟨⟨X', hQ, hX⟩, hK⟩ := hW
  exact ⟨X', hQ, h.Q.keeps hK fun x hq hp => h.pq x hp hq, h.R.keeps hK fun x hr hp => h.rp x hr hp, fun x hx => (hX x hx).elim (h.nP x) fun g => Nat.le_trans h.keeps.size g, h.nQ, h.nR,
    fun x hx hq => (hX x hx).elim (fun g => h.pq x g hq) fun g => absurd (h.Q.old x hq) (Nat.not_lt.2 g), h.qr, fun x hr hx => (hX x hx).elim (fun g => h.rp x hr g) fun g => absurd (h.R.old x hr) (Nat.not_lt.2 g), h.keeps.trans hK fun x hx g => absurd hx (Nat.not_lt.2 (h.nP x g))⟩
theorem Three.pushQ (h : Three w wr p q r LP LQ LR XP XQ XR) (hW : Went wr q L' XQ w') : ∃ X', Three w w' p q r LP L' LR XP X' XR := by
  obtain ⟨X', h'⟩ := h.rot.pushP hW
  exact ⟨X', h'.rot.rot⟩
theorem Three.pushR (h : Three w wr p q r LP LQ LR XP XQ XR) (hW : Went wr r L' XR w') : ∃ X', Three w w' p q r LP LQ L' XP XQ X' := by
  obtain ⟨X', h'⟩ := h.rot.rot.pushP hW
  exact ⟨X', h'.rot⟩
theorem Three.same (h : Three w wr p q r LP LQ LR XP XQ XR) (k : Keeps (fun _ => False) wr w') : Three w w' p q r LP LQ LR XP XQ XR :=
  ⟨h.P.same k, h.Q.same k, h.R.same k, h.nP, h.nQ, h.nR, h.pq, h.qr, h.rp, h.keeps.trans k fun _ _ => False.elim⟩
end

/-- What a push does, whatever is there. -/
def pushL (L : List Tm) (t : Tm) : List Tm := if ∃ u ∈ L, u.2 = t.2 then L else ins t L

open Classical in
theorem push_any {w : World} {q : Nat} {L : List Tm} {X : Nat → Prop} (h : Qu w q L X) (t : Tm) (hw : wfT t) (few : L.length < 200) :
    Calls Tryd.prog 17 #[.pointer (some ⟨q, 0, none⟩), tmVal t] w fun e w' => (∃ er, e = .returned er) ∧ Went w q (pushL L t) X w' := by
  by_cases c : ∃ u ∈ L, u.2 = t.2
  · obtain ⟨u, hu, he⟩ := c
    refine (push_there h t hw u hu he).mono ?_
    rintro e w' ⟨er, rfl, _, hK⟩
    unfold pushL
    rw [if_pos ⟨u, hu, he⟩]
    exact ⟨⟨er, rfl⟩, ⟨X, h.same hK, fun _ h => .inl h⟩, hK.mono fun _ _ => False.elim⟩
  · refine (push_ok h t hw few fun u hu he => c ⟨u, hu, he⟩).mono ?_
    rintro e w' ⟨rfl, hW⟩
    unfold pushL
    rw [if_neg c]
    exact ⟨⟨_, rfl⟩, hW⟩
theorem pushL_len (L : List Tm) (t : Tm) : (pushL L t).length ≤ L.length + 1 := by
  unfold pushL
  split
  · omega
  · rw [ins_length]; omega
theorem pushL_lacks {L : List Tm} {t : Tm} {id : Int} (h : ∀ u ∈ L, u.2 ≠ id) (ht : t.2 ≠ id) : ∀ u ∈ pushL L t, u.2 ≠ id := by
  unfold pushL
  split
  · exact h
  · intro u hu
    rcases ins_mem.1 hu with rfl | hu
    · exact ht
    · exact h u hu

set_option maxRecDepth 100000 in
set_option maxHeartbeats 2000000 in
theorem queueGone_walk (a0 : Option Addr) (len0 cap0 : Nat) (x0 x1 a2 : Int) (w : World) (_w0 : Tms w a0 len0 cap0) (_w1 : wfT (x0, x1)) (_w2 : (Lit.int .i64 a2).wf = true) (hg : Glob w) :
    Calls Tryd.prog 6 #[.slice a0 len0 cap0, .agg #[.int .i64 x0, .int .i64 x1], .int .i64 a2] w fun e w' => e = .returned (.bool true) ∧ Below w.heap.size w w' := by
  obtain ⟨l, hl, hwf, hR⟩ := _w0.list
  have al := Lib.hid (fun W (k : Keeps (fun _ => False) w W) => alive4 W (hg.keeps k id))
  have R0 := Lib.hid hR
  have wf0 := Lib.hid hwf
  have hl0 := Lib.hid hl
  have wf1 := Lib.hid _w1
  have wf2 := Lib.hid _w2
  have mT := Lib.hid (Whole.made w 31 #[.int .i64 x0, .int .i64 x1])
  have kT := Lib.hid ((Keeps.refl (fun _ => False) w).alloc (.cells #[.int .i64 x0, .int .i64 x1] 31))
  have sT := Lib.hid (show (w.alloc (.cells #[.int .i64 x0, .int .i64 x1] 31)).heap.size = w.heap.size + 1 from World.size_alloc _ _)
  clear hg _w0 hR hwf hl _w1 _w2
  by_cases c0 : 60 < len0
  · have c0' : (60 : Int) < (len0 : Int) := by omega
    go_enter Tryd.func6, Tryd.ntmps6
    go_wp2_with (go_at_call 10; refine (al.out _ kT.out).mono ?_; rintro e w1 ⟨rfl, hK⟩)
    go_ret
    exact ⟨rfl, (kT.out.trans hK fun _ _ => False.elim).below (Nat.le_refl _) fun _ _ => id⟩
  · have c0' : ¬ (60 : Int) < (len0 : Int) := by omega
    go_enter Tryd.func6, Tryd.ntmps6
    go_wp2_with fail
    obtain ⟨W, hW⟩ : ∃ W, W = w.alloc (.cells #[.int .i64 x0, .int .i64 x1] 31) := ⟨_, rfl⟩
    rw [← hW] at mT kT sT ⊢
    clear hW
    refine (new_any _).mono ?_
    rintro e w1 ⟨p, XP, rfl, hQ, hX, hK⟩
    have P1 := Lib.hid hQ
    have N1 := Lib.hid hX
    have k1 := Lib.hid hK
    clear hQ hX hK
    go_wp2_with fail
    refine (new_any _).mono ?_
    rintro e w2 ⟨q, XQ, rfl, hQ, hX, hK⟩
    have B1 := Lib.hid (show Both W w2 p q [] [] XP XQ from ⟨P1.out.same hK, hQ, N1.out, fun x hx => Nat.le_trans k1.out.size (hX x hx), fun x hx hq => absurd (P1.out.old x hx) (Nat.not_lt.2 (hX x hq)), k1.out.trans hK fun _ _ => False.elim⟩)
    clear hQ hX hK P1 N1 k1
    go_wp2_with fail
    refine (new_any _).mono ?_
    rintro e w3 ⟨r, XR, rfl, hQ, hX, hK⟩
    have T1 := Lib.hid (show Three W w3 p q r [] [] [] XP XQ XR from ⟨B1.out.P.same hK, B1.out.Q.same hK, hQ, B1.out.nP, B1.out.nQ, fun x hx => Nat.le_trans B1.out.keeps.size (hX x hx), B1.out.ap, fun x hx hr => absurd (B1.out.Q.old x hx) (Nat.not_lt.2 (hX x hr)), fun x hr hx => absurd (B1.out.P.old x hx) (Nat.not_lt.2 (hX x hr)), B1.out.keeps.trans hK fun _ _ => False.elim⟩)
    clear hQ hX hK B1
    go_wp2_with fail
    go_loopw [36] (fun iv wr => ∃ (i : Nat) (L : List Tm) (XP XQ XR : Nat → Prop), iv = .int .i64 i ∧ i ≤ len0 ∧ L.length ≤ i ∧ (∀ u ∈ L, u.2 ≠ x1) ∧ Three W wr p q r L L L XP XQ XR) (fun iv _ => len0 - (intOf iv).toNat)
    case atStart => exact ⟨0, [], XP, XQ, XR, rfl, Nat.zero_le _, Nat.le_refl _, by simp, T1.out⟩
    case round =>
      clear T1
      obtain ⟨i, L, XP, XQ, XR, rfl, hi, hLi, hLx, hT⟩ := hrel
      have X2 := Lib.hid hLx
      have T2 := Lib.hid hT
      clear hLx hT
      by_cases hin : i < len0
      · have hin' : (i : Int) < (len0 : Int) := by omega
        obtain ⟨b, off, rfl, y0, y1⟩ := R0.out.at_ i (by rw [hl0.out]; exact hin)
        have kW := kT.out.trans T2.out.keeps fun _ _ => False.elim
        have z0 := (kW.cell (p := ⟨b, off + i * 2, none⟩) (cell_lt y0) id).trans y0
        have z1 := (kW.cell (p := ⟨b, off + i * 2 + 1, none⟩) (cell_lt y1) id).trans y1
        have mW := (mT.out.keeps T2.out.keeps id).alloc (.cells #[.int .i64 (at_ l i).1, .int .i64 (at_ l i).2] 31)
        have v1 : (wr.alloc (.cells #[.int .i64 (at_ l i).1, .int .i64 (at_ l i).2] 31)).cell? ⟨w.heap.size, 1, none⟩ = some (.int .i64 x1) := mW.at_ 1
        have wi := Lib.hid (wf0.out _ (at_mem (show i < l.length by rw [hl0.out]; exact hin)))
        have kA := Lib.hid ((Keeps.refl (fun _ => False) wr).alloc (.cells #[.int .i64 (at_ l i).1, .int .i64 (at_ l i).2] 31))
        have mA := Lib.hid (Whole.made wr 31 #[.int .i64 (at_ l i).1, .int .i64 (at_ l i).2])
        clear y0 y1 kW mW
        generalize at_ l i = t at z0 z1 v1 wi kA mA
        by_cases he : t.2 = x1
        · subst he
          have hb : (t.2 == t.2) = true := by simp
          go_wp2_with (go_at_call 10; refine (al.out _ ((kT.out.trans T2.out.keeps fun _ _ => False.elim).trans kA.out fun _ _ => False.elim)).mono ?_; rintro e w4 ⟨rfl, hK⟩)
          go_ret
          exact ⟨rfl, (((kT.out.trans T2.out.keeps fun _ _ => False.elim).trans kA.out fun _ _ => False.elim).trans hK fun _ _ => False.elim).below (Nat.le_refl _) fun _ _ => id⟩
        · have hb : (t.2 == x1) = false := by simpa using he
          have cP := Lib.hid (push_any (T2.out.P.same kA.out) t wi.out (by omega))
          unfold tmVal at cP
          go_wp2_with fail
          refine cP.out.mono ?_
          rintro e w4 ⟨⟨er, rfl⟩, hW⟩
          obtain ⟨XP', hT⟩ := (T2.out.same kA.out).pushP hW
          have T4 := Lib.hid hT
          have mA4 := mA.out.keeps hW.2 (fun hx => absurd (T2.out.P.old _ hx) (Nat.lt_irrefl _))
          have v0 : w4.cell? ⟨wr.heap.size, 0, none⟩ = some (.int .i64 t.1) := mA4.at_ 0
          have v2 : w4.cell? ⟨wr.heap.size, 1, none⟩ = some (.int .i64 t.2) := mA4.at_ 1
          have kQ := Lib.hid (show ∀ x, XQ x → x < wr.heap.size from T2.out.Q.old)
          have kR := Lib.hid (show ∀ x, XR x → x < wr.heap.size from T2.out.R.old)
          have M4 := Lib.hid mA4
          have cQ := Lib.hid (push_any T4.out.Q t wi.out (by omega))
          unfold tmVal at cQ
          clear hW hT cP mA4 z0 z1 v1 mA
          go_wp2_with fail
          refine cQ.out.mono ?_
          rintro e w5 ⟨⟨er', rfl⟩, hW⟩
          obtain ⟨XQ', hT⟩ := T4.out.pushQ hW
          have T5 := Lib.hid hT
          have mA4 := M4.out.keeps hW.2 (fun hx => absurd (kQ.out _ hx) (Nat.lt_irrefl _))
          clear v0 v2
          have v0 : w5.cell? ⟨wr.heap.size, 0, none⟩ = some (.int .i64 t.1) := mA4.at_ 0
          have v2 : w5.cell? ⟨wr.heap.size, 1, none⟩ = some (.int .i64 t.2) := mA4.at_ 1
          have cR := Lib.hid (push_any T5.out.R t wi.out (by omega))
          unfold tmVal at cR
          clear hW hT cQ mA4 M4
          go_wp2_with fail
          refine cR.out.mono ?_
          rintro e w6 ⟨⟨er'', rfl⟩, hW⟩
          obtain ⟨XR', hT⟩ := T5.out.pushR hW
          have T6 := Lib.hid hT
          clear hW hT cR v0 v2
          go_wp2_with fail
          go_roundw
          case rel => exact ⟨i + 1, pushL L t, XP', XQ', XR', by go_num, by omega, by have := pushL_len L t; omega, pushL_lacks X2.out he, T6.out⟩
          case measure => simp [intOf]; omega
      · have hin' : ¬ (i : Int) < (len0 : Int) := by omega
        have kD := Lib.hid ((Keeps.refl (fun _ => False) wr).drew)
        have T3 := Lib.hid (T2.out.same kD.out)
        have mW := mT.out.keeps T2.out.keeps id
        have s0 := Lib.hid (show wr.drew.cell? ⟨w.heap.size, 0, none⟩ = some (.int .i64 x0) ∧ wr.drew.cell? ⟨w.heap.size, 1, none⟩ = some (.int .i64 x1) from ⟨mW.at_ 0, mW.at_ 1⟩)
        have cA := Lib.hid (push_ok T3.out.Q (x0, x1) wf1.out (by omega) X2.out)
        have hdi := Lib.hid (del_ins (t := (x0, x1)) T2.out.P.up X2.out)
        have hi1 := Lib.hid (show (x0, x1) ∈ ins (x0, x1) L from ins_mem.2 (.inl rfl))
        have M3 := Lib.hid (show Whole wr.drew w.heap.size 31 #[.int .i64 x0, .int .i64 x1] from mW)
        have nT := Lib.hid (show ∀ X : Nat → Prop, (∀ x, X x → W.heap.size ≤ x) → ¬ X w.heap.size from fun X hX hx => by have := hX _ hx; rw [sT.out] at this; omega)
        unfold tmVal at cA
        clear mW
        go_wp2_with fail
        go_region_held3 (fun V => V.cell? ⟨w.heap.size, 0, none⟩ = some (.int .i64 x0) ∧ V.cell? ⟨w.heap.size, 1, none⟩ = some (.int .i64 x1)) (first | exact s0.out | exact s4.out | exact s5.out)
          (first
            | (go_at_call 17; refine cA.out.mono ?_; rintro e w4 ⟨rfl, hW⟩; obtain ⟨XQ4, hT⟩ := T3.out.pushQ hW; have T4 := Lib.hid hT; have M4 := Lib.hid (M3.out.keeps hW.2 (nT.out _ T3.out.nQ)); have s4 := Lib.hid (show w4.cell? ⟨w.heap.size, 0, none⟩ = some (.int .i64 x0) ∧ w4.cell? ⟨w.heap.size, 1, none⟩ = some (.int .i64 x1) from ⟨M4.out.at_ 0, M4.out.at_ 1⟩); clear hW hT)
            | (go_at_call 20; refine (cancel_ok T4.out.Q x1 (x0, x1) hi1.out rfl).mono ?_; rintro e w5 ⟨rfl, hS⟩; have hW := hS.went; obtain ⟨XQ5, hT⟩ := T4.out.pushQ hW; rw [hdi.out] at hT; have T5 := Lib.hid hT; have M5 := Lib.hid (M4.out.keeps hW.2 (nT.out _ T4.out.nQ)); have s5 := Lib.hid (show w5.cell? ⟨w.heap.size, 0, none⟩ = some (.int .i64 x0) ∧ w5.cell? ⟨w.heap.size, 1, none⟩ = some (.int .i64 x1) from ⟨M5.out.at_ 0, M5.out.at_ 1⟩); clear hW hT hS))
        all_goals
          rename_i hHd
          clear hHd s4 s5 M4 T4 cA
          go_wp2_with fail
          refine (no_nil _).mono ?_
          rintro e w' ⟨rfl, rfl⟩
          go_wp2_with fail
          refine (no_nil _).mono ?_
          rintro e w' ⟨rfl, rfl⟩
          go_wp2_with fail
          refine (all_any T5.out.P).mono ?_
          rintro e w6 ⟨u, rfl, hU, hK⟩
          have U6 := Lib.hid hU
          have T6 := Lib.hid (T5.out.same hK)
          have M6 := Lib.hid (M5.out.keeps hK id)
          clear hU hK
          go_wp2_with fail
          refine (all_any T6.out.Q).mono ?_
          rintro e w7 ⟨u', rfl, hU, hK⟩
          have V7 := Lib.hid hU
          have U7 := Lib.hid (U6.out.same hK)
          have T7 := Lib.hid (T6.out.same hK)
          have M7 := Lib.hid (M6.out.keeps hK id)
          clear hU hK
          go_wp2_with fail
          have cs := same_any _ L L u u' U7.out V7.out (by omega)
          rw [decide_eq_true rfl] at cs
          refine cs.mono ?_
          rintro e w8 ⟨rfl, hK⟩
          have T8 := Lib.hid ((T7.out.same hK).same (Keeps.refl (fun _ => False) w8).drew)
          have m8 := M7.out.keeps hK id
          have M8 := Lib.hid (show Whole w8.drew w.heap.size 31 #[.int .i64 x0, .int .i64 x1] from m8.drew)
          clear m8
          have s8 := Lib.hid (show w8.drew.cell? ⟨w.heap.size, 0, none⟩ = some (.int .i64 x0) ∧ w8.drew.cell? ⟨w.heap.size, 1, none⟩ = some (.int .i64 x1) from ⟨M8.out.at_ 0, M8.out.at_ 1⟩)
          clear hK cs U6 V7 U7 T5 T6 T7 M5 M6 M7
          have cA := Lib.hid (push_ok T8.out.Q (x0, x1) wf1.out (by omega) X2.out)
          unfold tmVal at cA
          have hdi' := Lib.hid (show del x1 (ins (x0, x1) L) = L from hdi.out)
          go_wp2_with fail
          go_region_held3 (fun V => V.cell? ⟨w.heap.size, 0, none⟩ = some (.int .i64 x0) ∧ V.cell? ⟨w.heap.size, 1, none⟩ = some (.int .i64 x1)) (first | exact s8.out | exact s9.out | exact s10.out | exact s11.out)
            (first
              | (go_at_call 17; refine cA.out.mono ?_; rintro e w9 ⟨rfl, hW⟩; clear cA; obtain ⟨XQ9, hT⟩ := T8.out.pushQ hW; have T9 := Lib.hid hT; have M9 := Lib.hid (M8.out.keeps hW.2 (nT.out _ T8.out.nQ)); have s9 := Lib.hid (show w9.cell? ⟨w.heap.size, 0, none⟩ = some (.int .i64 x0) ∧ w9.cell? ⟨w.heap.size, 1, none⟩ = some (.int .i64 x1) from ⟨M9.out.at_ 0, M9.out.at_ 1⟩); clear hW hT)
              | (go_at_call 21; refine (move_ok T9.out.Q x1 a2 wf2.out (x0, x1) hi1.out rfl).mono ?_; rintro e w10 ⟨rfl, hS⟩; have hW := hS.went; obtain ⟨XQ10, hT⟩ := T9.out.pushQ hW; rw [hdi'.out] at hT; have T10 := Lib.hid hT; have M10 := Lib.hid (M9.out.keeps hW.2 (nT.out _ T9.out.nQ)); have s10 := Lib.hid (show w10.cell? ⟨w.heap.size, 0, none⟩ = some (.int .i64 x0) ∧ w10.cell? ⟨w.heap.size, 1, none⟩ = some (.int .i64 x1) from ⟨M10.out.at_ 0, M10.out.at_ 1⟩); clear hW hT hS)
              | (go_at_call 17; refine (push_ok T10.out.R (a2, x1) ⟨wf2.out, wf1.out.2⟩ (by omega) X2.out).mono ?_; rintro e w11 ⟨rfl, hW⟩; obtain ⟨XR11, hT⟩ := T10.out.pushR hW; have T11 := Lib.hid hT; have M11 := Lib.hid (M10.out.keeps hW.2 (nT.out _ T10.out.nR)); have s11 := Lib.hid (show w11.cell? ⟨w.heap.size, 0, none⟩ = some (.int .i64 x0) ∧ w11.cell? ⟨w.heap.size, 1, none⟩ = some (.int .i64 x1) from ⟨M11.out.at_ 0, M11.out.at_ 1⟩); clear hW hT))
          all_goals
            rename_i hHd
            clear hHd
            go_wp2_with fail
            refine (no_nil _).mono ?_
            rintro e w' ⟨rfl, rfl⟩
            go_wp2_with fail
            refine (no_nil _).mono ?_
            rintro e w' ⟨rfl, rfl⟩
            go_wp2_with fail
            refine (no_nil _).mono ?_
            rintro e w' ⟨rfl, rfl⟩
            go_wp2_with fail
            refine (all_any T11.out.Q).mono ?_
            rintro e w12 ⟨v, rfl, hU, hK⟩
            have U12 := Lib.hid hU
            have T12 := Lib.hid (T11.out.same hK)
            clear hU hK
            go_wp2_with fail
            refine (all_any T12.out.R).mono ?_
            rintro e w13 ⟨v', rfl, hU, hK⟩
            have V13 := Lib.hid hU
            have U13 := Lib.hid (U12.out.same hK)
            have T13 := Lib.hid (T12.out.same hK)
            clear hU hK
            go_wp2_with fail
            have cs := same_any _ _ _ v v' U13.out V13.out (by rw [ins_length]; omega)
            rw [decide_eq_true rfl] at cs
            refine cs.mono ?_
            rintro e w14 ⟨rfl, hK⟩
            have T14 := Lib.hid (T13.out.same hK)
            clear hK cs
            go_wp2_with (go_at_call 10; refine (al.out _ (kT.out.trans T14.out.keeps fun _ _ => False.elim)).mono ?_; rintro e w15 ⟨rfl, hK⟩)
            go_ret
            exact ⟨rfl, ((kT.out.trans T14.out.keeps fun _ _ => False.elim).trans hK fun _ _ => False.elim).below (Nat.le_refl _) fun _ _ => id⟩

theorem queueGone_et : Tryd.prog.globalNamed "errors.errorType" = some 0 := by kernel_rfl
theorem queueGone_rt : (Tryd.prog.cutTypes.find? (·.1 == "internal/reflectlite.rtype")).map (·.2) = some 113 := by kernel_rfl
theorem queueGone_oneRow : ((List.range 176).filter fun t => Tryd.prog.rowNamed t [101, 114, 114, 111, 114]) = [44] := by kernel_rfl
theorem queueGone_size : Tryd.prog.types.size = 176 := by kernel_rfl

/-- What the listed variable gives the walk. -/
theorem queueGone_glob {W : World} (h : laidMetH Tryd.prog Rows.queueGoneRow.laid W) : Glob W := by
  have h' : laidMet Tryd.prog [] W ∧ handlesMet Tryd.prog Rows.queueGoneRow.laid W := h
  obtain ⟨name, u, ty, e1, e2, e3, e4, e5⟩ := h'.2 _ (List.mem_singleton.2 rfl)
  have en : name = [101, 114, 114, 111, 114] := (Option.some.inj e1).symm
  subst en
  obtain rfl := Option.some.inj (queueGone_rt.symm.trans e2)
  have hm : ty ∈ (List.range 176).filter fun t => Tryd.prog.rowNamed t [101, 114, 114, 111, 114] := List.mem_filter.2 ⟨List.mem_range.2 (by rw [← queueGone_size]; exact e3), e4⟩
  rw [queueGone_oneRow] at hm
  obtain rfl := List.mem_singleton.1 hm
  have hh : typeHandle Tryd.prog 44 = .pointer (some ⟨1, 44, none⟩) := by kernel_rfl
  rw [hh] at e5
  unfold Glob
  simpa using World.var?_cell queueGone_et e5 0

/-- A world that meets the condition: the settled one, the variable's cell laid. -/
noncomputable def queueGone_laidWorld (os : Os) : World :=
  let w0 := World.holding Tryd.prog os ⟨#[], #[], []⟩
  { w0 with heap := w0.heap.modify 0 fun
      | .cells _ t frozen => .cells #[.iface 113 (.agg #[.pointer (some ⟨1, 44, none⟩)])] t frozen
      | o => o }
theorem queueGone_met (os : Os) (args : Array Value) : laidMetH Tryd.prog Rows.queueGoneRow.laid ((queueGone_laidWorld os).forCall (fun _ _ => 0) ⟨#[], args, []⟩).memory :=
  laidMetH_of_parts (laidMet_nil _ _) (by kernel_rfl)

theorem queueGone_own : ownKnob Tryd.prog.godebug = none := by kernel_rfl
theorem queueGone_laidOut : laidOutB Tryd.prog = true := by kernel_rfl

set_option maxRecDepth 100000 in
theorem queueGone_lifted (os : Os) (started : os.Started) (H : Type) (enc : TypeId × Value → H) :
    ReturnsInHanded {} Tryd.checked os 6 .any (fun w args => (Rows.queueGoneSpec.pre enc Tryd.prog Tryd.f6 [] false w args ∧ laidMetH Tryd.prog Rows.queueGoneRow.laid w) ∧ sizedMet enc Tryd.prog Tryd.f6 (OpenSpec.ofChange Rows.queueGoneSpec) false w args)
      (Rows.queueGoneSpec.post enc Tryd.prog Tryd.f6 false true false false) := by
  refine returnsInHanded_of_change_and (C := Tryd.checked) (X := fun w _ => laidMetH Tryd.prog Rows.queueGoneRow.laid w) (fun _ _ _ hh h => h.of_heap hh) queueGone_own started (by kernel_rfl) Tryd.func6
    (ChangeSpec.witness_at (enc := enc) (C := Tryd.checked) (os := os) (X := fun w _ => laidMetH Tryd.prog Rows.queueGoneRow.laid w) false (queueGone_laidWorld os) #[.slice none 0 0, .agg #[.int .i64 0, .int .i64 0], .int .i64 0] 8 rfl (by kernel_rfl) (by kernel_rfl) (by kernel_rfl) (by kernel_rfl) (by kernel_rfl) (queueGone_met os _)) ?_
  intro W base args ds gs before hval0 hW hcnd _ hL _
  have hGl := queueGone_glob hL
  clear hcnd
  have hval : ∀ (j : Nat) t v, Tryd.f6.params[j]? = some t → args[j]? = some v → Value.okWide Tryd.prog W .any base t v := hval0
  have hW' := hW
  obtain ⟨p, q, hA0, hV, rfl, hfz, hnd⟩ := hW
  have hA : DataW.TrodAll enc Tryd.prog W 0 (fun _ => true) true Tryd.f6.params.toList args.toList ds p := hA0
  rw [Tryd.params6] at hA hval
  obtain ⟨v0, vs0, d0, ds0, p0, q0, hargs, rfl, rfl, h0, r0⟩ := trodAll_cons hA
  obtain ⟨v1, vs1, d1, ds1, p1, q1, rfl, rfl, rfl, h1, r1⟩ := trodAll_cons r0
  obtain ⟨v2, vs2, d2, ds2, p2, q2, rfl, rfl, rfl, h2, r2⟩ := trodAll_cons r1
  obtain ⟨rfl, rfl, rfl⟩ := trodAll_nil r2
  obtain rfl : args = #[v0, v1, v2] := by cases args; simp_all
  obtain ⟨rfl, rfl⟩ := trodVars_none hV
  have k0 := h0
  have lt0 : ∀ x ∈ p0, x.block < W.heap.size := by obtain ⟨m, hm⟩ := k0; exact DataW.trod_lt m _ _ _ hm
  obtain ⟨a0, len0, cap0, rfl⟩ := okWide_slice Tryd.underlying27 (hval 0 27 v0 rfl rfl)
  have w0 : Tms W a0 len0 cap0 := by
    obtain ⟨fuel, hf⟩ := h0
    rcases open_slice_fields Tryd.underlying27 Tryd.underlying31 (by kernel_rfl) (by kernel_rfl) hf with ⟨hcs, _⟩ | ⟨x, l, c, m, D, Pl, hcs, _, hl, hm, hmm, _, hi⟩
    · simp [Value.cells] at hcs
      obtain ⟨rfl, rfl, rfl⟩ := hcs
      exact .inl ⟨rfl, rfl, rfl⟩
    · simp [Value.cells] at hcs
      obtain ⟨rfl, rfl, rfl⟩ := hcs
      refine .inr ⟨_, rfl, hl, hm, fun i hlt => ?_⟩
      obtain ⟨ys, n, _, _, _, hf⟩ := hi i (by rw [hmm]; split <;> omega)
      obtain ⟨u0, y0, c0, _, t0⟩ := hf 0 _ rfl
      obtain ⟨z0, e0, _, f0⟩ := DataW.trod_int (k := .i64) (by kernel_rfl) t0
      simp at e0
      subst e0
      obtain ⟨u1, y1, c1, _, t1⟩ := hf 1 _ rfl
      obtain ⟨z1, e1, _, f1⟩ := DataW.trod_int (k := .i64) (by kernel_rfl) t1
      simp at e1
      subst e1
      exact ⟨z0, z1, c0, c1, f0, f1⟩
  have k1 := h1
  have lt1 : ∀ x ∈ p1, x.block < W.heap.size := by obtain ⟨m, hm⟩ := k1; exact DataW.trod_lt m _ _ _ hm
  obtain ⟨b10, b11, y10, y11, m1, rfl, rfl, rfl, t10, t11⟩ := Joins.open_agg2 Tryd.underlying31 (by kernel_rfl) (by kernel_rfl) (hval 1 31 v1 rfl rfl) h1
  obtain ⟨a10, e10, _, w10⟩ := DataW.trod_int (k := .i64) (by kernel_rfl) t10
  obtain ⟨a11, e11, _, w11⟩ := DataW.trod_int (k := .i64) (by kernel_rfl) t11
  simp at e10 e11
  subst e10 e11
  have k2 := h2
  have lt2 : ∀ x ∈ p2, x.block < W.heap.size := by obtain ⟨m, hm⟩ := k2; exact DataW.trod_lt m _ _ _ hm
  obtain ⟨a2, rfl, e2, f2, w2⟩ := open_int Tryd.underlying3 (hval 2 3 v2 rfl rfl) h2
  clear e2 f2
  clear hA0 hval0
  refine (queueGone_walk a0 len0 cap0 a10 a11 a2 W w0 ⟨w10, w11⟩ w2 hGl).mono fun e W' ⟨he, bel⟩ => ?_
  subst he
  exact ⟨_, rfl, _, _, _, [], _, [], hW', trodAll_mk1 (shut_bool Tryd.underlying4 _), (trodAll_cons_mk (Below.trod queueGone_laidOut (by kernel_rfl) (of_decide_eq_true (by kernel_rfl)) k0 bel lt0) (trodAll_cons_mk (Below.trod queueGone_laidOut (by kernel_rfl) (of_decide_eq_true (by kernel_rfl)) k1 bel lt1) (trodAll_cons_mk (Below.trod queueGone_laidOut (by kernel_rfl) (of_decide_eq_true (by kernel_rfl)) k2 bel lt2) trodAll_mk0))), rfl, bel.frame _, fun h => by cases h⟩

/-- The statement QueueGone. -/
theorem queueGone_holds : Rows.QueueGoneSaid :=
  OpenClaim.holds_of_wide 6 Tryd.f6 rfl rfl rfl rfl rfl rfl rfl ⟨rfl, rfl, rfl, rfl, rfl⟩ rfl rfl rfl rfl rfl (by kernel_rfl) Tryd.func6 (by kernel_rfl)
    (of_decide_eq_true (by kernel_rfl)) (by unfold Func.isWrapper; first | (rw [if_pos (by decide +kernel)]; kernel_rfl) | (rw [if_neg (by decide +kernel)]; exact ⟨rfl, rfl⟩))
    (fun os started H enc _ => queueGone_lifted os started H enc)
#print axioms queueGone_holds

/-- The card: the row, what it lists tied to the program's text. -/
theorem queueGone_card : Rows.QueueGoneCardSaid :=
  Claim7.holds_tied_plain_at .later [] [.handle] true Rows.queueGoneCard.stood.harness true
    queueGone_holds (fun _ h => by cases h) (by kernel_rfl) (fun _ h => by cases h) queueGone_row_tie rfl ⟨rfl, rfl⟩ (by kernel_rfl) rfl
    (fun f fn hf hfn => by
      obtain rfl : f = 6 := Option.some.inj ((show Tryd.prog.funcNamed "concord/concordlaw04.QueueGone" = some 6 by kernel_rfl).symm.trans hf) |>.symm
      obtain rfl : fn = Tryd.f6 := (Option.some.inj (Tryd.func6.symm.trans hfn)).symm
      exact ⟨by kernel_rfl, fun j t ht => by
        rw [Tryd.params6] at ht
        have hm : t ∈ Tryd.f6.params.toList := by rw [Tryd.params6]; simpa using Array.mem_of_getElem? ht
        have hall : (Tryd.f6.params.toList.all fun u => !Tryd.prog.wantsStandIn u) = true := by kernel_rfl
        exact (show Tryd.prog.wantsStandIn t = false by simpa using List.all_eq_true.1 hall t hm)⟩)
    (by kernel_rfl)
#print axioms queueGone_card

end Go.Proofs.YtjmkfloaagppdaaDoor
