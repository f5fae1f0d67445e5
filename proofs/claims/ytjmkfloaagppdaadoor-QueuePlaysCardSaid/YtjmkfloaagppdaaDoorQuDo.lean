/-
  concordlaw04.do by contract: true; both have the same timers behind it.
-/
import Derived.Test.YtjmkfloaagppdaaDoorQuDoState
import Derived.Test.YtjmkfloaagppdaaDoorWdTail
import Derived.Deep.DeepCutAuto
import Derived.Deep.CutBlock
import Derived.WalkKit
import Derived.Deep.RegionHeld3
namespace Go.Proofs.YtjmkfloaagppdaaDoor
open Go.RowKit Go.Extern.Stop Go.Stop Go.Extern

theorem went_drew {W w2 : World} {q : Nat} {L' : List Tm} {X : Nat → Prop} (h : Went W.drew q L' X w2) : Went W q L' X w2 := by
  obtain ⟨h1, h2⟩ := h
  exact ⟨h1, ((Keeps.refl X W).drew).trans_ h2⟩
theorem rwent_drew {W w2 : World} {r : Nat} {L' : List Tm} {Y : Nat → Prop} (h : RWent W.drew r L' Y w2) : RWent W r L' Y w2 := by
  obtain ⟨h1, h2⟩ := h
  exact ⟨h1, ((Keeps.refl (fun x => x = r) W).drew).trans_ h2⟩

/-- Behind a call of both, ahead of the comparison. -/
def Both4 (W : World) (q r n : Nat) (X Y : Nat → Prop) (id : Int) (e g : Value) (w' : World) : Prop :=
  ∃ (L' : List Tm) (f : Nat), g = .int .i64 f ∧ L'.length ≤ n + 1 ∧ Tells w' 0 id e f ∧ Did W q r L' X Y w'

set_option maxRecDepth 100000 in
set_option maxHeartbeats 4000000 in
theorem do_any {w : World} {q r : Nat} {L : List Tm} {X Y : Nat → Prop} (hQ : Qu w q L X) (hR : RQ w r L Y) (hap : ∀ x, X x → ¬ Y x) (few : L.length < 200) (hg : Glob w) (hng : ¬ (X 0 ∨ Y 0)) (kind : Int) (t : Tm) (hw : wfT t) :
    Calls Tryd.prog 11 #[.pointer (some ⟨q, 0, none⟩), .pointer (some ⟨r, 0, none⟩), .agg #[.int .i64 kind, .int .i64 t.1, .int .i64 t.2]] w fun e w' => e = .returned (.bool true) ∧ ∃ L', L'.length ≤ L.length + 1 ∧ Did w q r L' X Y w' := by
  have ho := Lib.hid hQ.once
  obtain ⟨W1, hW1⟩ : ∃ W, W = w.alloc (.cells #[.int .i64 kind, .int .i64 t.1, .int .i64 t.2] 33) := ⟨_, rfl⟩
  have k1 : Keeps (fun _ => False) w W1 := by rw [hW1]; exact (Keeps.refl _ w).alloc _
  have mB : Whole W1 w.heap.size 33 #[.int .i64 kind, .int .i64 t.1, .int .i64 t.2] := by rw [hW1]; exact Whole.made _ _ _
  have Q1 := Lib.hid (hQ.same k1)
  have R1 := Lib.hid (hR.same k1)
  have nb : ∀ x, (X x ∨ Y x) → x < w.heap.size := fun x hx => hx.elim (hQ.old x) (hR.old x)
  have rY := Lib.hid hR.inY
  have rl := Lib.hid (show r < W1.heap.size from Nat.lt_of_lt_of_le (hR.old r hR.inY) k1.size)
  have ap := Lib.hid hap
  have nq := Lib.hid (show ∀ x, Y x → ¬ X x from fun x hy hx => hap x hx hy)
  have nr := Lib.hid (show ∀ x, X x → ¬ x = r from fun x hx e => hap x hx (e ▸ hR.inY))
  have S0 := Lib.hid (fun V (K : Keeps (fun x => X x ∨ Y x) W1 V) => (⟨(mB.keeps K fun h => Nat.lt_irrefl _ (nb _ h)).at_ 1, (mB.keeps K fun h => Nat.lt_irrefl _ (nb _ h)).at_ 2⟩ : V.cell? ⟨w.heap.size, 1, none⟩ = some (.int .i64 t.1) ∧ V.cell? ⟨w.heap.size, 2, none⟩ = some (.int .i64 t.2)))
  have G1 := Lib.hid (fun V (K : Keeps (fun x => X x ∨ Y x) W1 V) => (hg.keeps ((k1.mono fun _ _ => False.elim : Keeps (fun x => X x ∨ Y x) w W1).trans_ K) hng : Glob V))
  have b0 : W1.cell? ⟨w.heap.size, 0, none⟩ = some (.int .i64 kind) := mB.at_ 0
  have s1 := S0.out W1 (Keeps.refl _ _)
  have s0 := Lib.hid (S0.out W1.drew (Keeps.refl _ _).drew)
  have hW1' := Lib.hid hW1
  have k1' := Lib.hid k1
  have hlt := Lib.hid (show L.length < 200 from few)
  clear hQ hR hap hg hng nb mB k1 hW1 few
  go_enter Tryd.func11, Tryd.ntmps11
  go_upto_block 0 with fail
  rw [← hW1'.out]
  go_cut [7, 8] (fun s7 s8 wx => Both4 W1 q r L.length X Y t.2 s7 s8 wx)
  case first =>
    by_cases h0 : kind = 0
    · subst h0
      have hc : ∃ (L' : List Tm) (f : Nat), (f = 7 ∧ L' = L ∧ ∃ u ∈ L, u.2 = t.2) ∨ (f = 0 ∧ L' = ins t L ∧ ∀ u ∈ L, u.2 ≠ t.2) := by
        by_cases c : ∃ u ∈ L, u.2 = t.2
        · exact ⟨L, 7, .inl ⟨rfl, rfl, c⟩⟩
        · exact ⟨ins t L, 0, .inr ⟨rfl, rfl, fun u hu e => c ⟨u, hu, e⟩⟩⟩
      obtain ⟨L', f, hc⟩ := hc
      have hlen := Lib.hid (show L'.length ≤ L.length + 1 by rcases hc with ⟨_, e, _⟩ | ⟨_, e, _⟩ <;> (rw [e]; try rw [ins_length]); all_goals omega)
      have hc := Lib.hid hc
      go_wp2_with fail
      go_region_held3 (fun V => V.cell? ⟨w.heap.size, 1, none⟩ = some (.int .i64 t.1) ∧ V.cell? ⟨w.heap.size, 2, none⟩ = some (.int .i64 t.2)) (first | exact sB.out | exact sA.out | exact s0.out)
        (first
          | (go_at_call 17; refine (q_push (Q1.out.keeps Wr2.out.2 nr.out) t hw hlt.out L' f hc.out).mono ?_; rintro e w3 ⟨er, rfl, hT, hW⟩; have D3 := Lib.hid ((did_rq Q1.out R1.out ap.out Wr2.out hW)); have T3 := Lib.hid (hT.less (Nat.zero_le _)); have sB := Lib.hid (S0.out _ D3.out.keeps); clear hT hW)
          | (go_at_call 23; refine (r_push (R1.out.keeps Wq2.out.2 nq.out) t hlt.out L' f hc.out).mono ?_; rintro e w3 ⟨rfl, hW⟩; have D3 := Lib.hid (did_qr R1.out ap.out Wq2.out hW); have T3 := Lib.hid ((T2.out.keeps hW.2 fun x hx e => absurd rl.out (by subst e; omega)).less (Nat.zero_le _)); have sB := Lib.hid (S0.out _ D3.out.keeps); clear hW)
          | (go_at_call 17; refine (q_push (Q1.out.same (Keeps.refl _ _).drew) t hw hlt.out L' f hc.out).mono ?_; rintro e w2 ⟨er, rfl, hT, hW⟩; have Wq2 := Lib.hid (went_drew hW); have T2 := Lib.hid (show Tells w2 W1.heap.size _ er f from hT); have sA := Lib.hid (S0.out _ (Wq2.out.2.mono fun _ _ g => .inl g)); clear hT hW)
          | (go_at_call 23; refine (r_push (R1.out.same (Keeps.refl _ _).drew) t hlt.out L' f hc.out).mono ?_; rintro e w2 ⟨rfl, hW⟩; have Wr2 := Lib.hid (rwent_drew hW); have sA := Lib.hid (S0.out _ (Wr2.out.2.mono fun _ _ g => .inr (g ▸ rY.out))); clear hW))
      all_goals (go_wp2_with fail; go_meet; exact ⟨L', f, rfl, hlen.out, T3.out, D3.out⟩)
    by_cases h1 : kind = 1
    · subst h1
      have hc : ∃ (L' : List Tm) (f : Nat), (f = 7 ∧ L' = L ∧ ∃ u ∈ L, u.2 = t.2) ∨ (f = 0 ∧ L' = ins t L ∧ ∀ u ∈ L, u.2 ≠ t.2) := by
        by_cases c : ∃ u ∈ L, u.2 = t.2
        · exact ⟨L, 7, .inl ⟨rfl, rfl, c⟩⟩
        · exact ⟨ins t L, 0, .inr ⟨rfl, rfl, fun u hu e => c ⟨u, hu, e⟩⟩⟩
      obtain ⟨L', f, hc⟩ := hc
      have hlen := Lib.hid (show L'.length ≤ L.length + 1 by rcases hc with ⟨_, e, _⟩ | ⟨_, e, _⟩ <;> (rw [e]; try rw [ins_length]); all_goals omega)
      have hc := Lib.hid hc
      go_wp2_with fail
      go_region_held3 (fun V => V.cell? ⟨w.heap.size, 1, none⟩ = some (.int .i64 t.1) ∧ V.cell? ⟨w.heap.size, 2, none⟩ = some (.int .i64 t.2)) (first | exact sB.out | exact sA.out | exact s0.out)
        (first
          | (go_at_call 17; refine (q_push (Q1.out.keeps Wr2.out.2 nr.out) t hw hlt.out L' f hc.out).mono ?_; rintro e w3 ⟨er, rfl, hT, hW⟩; have D3 := Lib.hid ((did_rq Q1.out R1.out ap.out Wr2.out hW)); have T3 := Lib.hid (hT.less (Nat.zero_le _)); have sB := Lib.hid (S0.out _ D3.out.keeps); clear hT hW)
          | (go_at_call 23; refine (r_push (R1.out.keeps Wq2.out.2 nq.out) t hlt.out L' f hc.out).mono ?_; rintro e w3 ⟨rfl, hW⟩; have D3 := Lib.hid (did_qr R1.out ap.out Wq2.out hW); have T3 := Lib.hid ((T2.out.keeps hW.2 fun x hx e => absurd rl.out (by subst e; omega)).less (Nat.zero_le _)); have sB := Lib.hid (S0.out _ D3.out.keeps); clear hW)
          | (go_at_call 17; refine (q_push (Q1.out.same (Keeps.refl _ _).drew) t hw hlt.out L' f hc.out).mono ?_; rintro e w2 ⟨er, rfl, hT, hW⟩; have Wq2 := Lib.hid (went_drew hW); have T2 := Lib.hid (show Tells w2 W1.heap.size _ er f from hT); have sA := Lib.hid (S0.out _ (Wq2.out.2.mono fun _ _ g => .inl g)); clear hT hW)
          | (go_at_call 23; refine (r_push (R1.out.same (Keeps.refl _ _).drew) t hlt.out L' f hc.out).mono ?_; rintro e w2 ⟨rfl, hW⟩; have Wr2 := Lib.hid (rwent_drew hW); have sA := Lib.hid (S0.out _ (Wr2.out.2.mono fun _ _ g => .inr (g ▸ rY.out))); clear hW))
      all_goals (go_wp2_with fail; go_meet; exact ⟨L', f, rfl, hlen.out, T3.out, D3.out⟩)
    by_cases h2 : kind = 2
    · subst h2
      have hc : ∃ (L' : List Tm) (f : Nat), (f = 6 ∧ L' = L ∧ ∀ u ∈ L, u.2 ≠ t.2) ∨ (f = 0 ∧ L' = ins (t.1, t.2) (del t.2 L) ∧ ∃ u ∈ L, u.2 = t.2) := by
        by_cases c : ∃ u ∈ L, u.2 = t.2
        · exact ⟨ins (t.1, t.2) (del t.2 L), 0, .inr ⟨rfl, rfl, c⟩⟩
        · exact ⟨L, 6, .inl ⟨rfl, rfl, fun u hu e => c ⟨u, hu, e⟩⟩⟩
      obtain ⟨L', f, hc⟩ := hc
      have hlen := Lib.hid (show L'.length ≤ L.length + 1 by
        have hd : (del t.2 L).length ≤ L.length := List.length_filter_le _ _
        rcases hc with ⟨_, e, _⟩ | ⟨_, e, _⟩ <;> (rw [e]; try rw [ins_length])
        all_goals omega)
      have hc := Lib.hid hc
      go_wp2_with fail
      go_region_held3 (fun V => V.cell? ⟨w.heap.size, 1, none⟩ = some (.int .i64 t.1) ∧ V.cell? ⟨w.heap.size, 2, none⟩ = some (.int .i64 t.2)) (first | exact sB.out | exact sA.out | exact s0.out)
        (first
          | (go_at_call 21; refine (q_move (Q1.out.keeps Wr2.out.2 nr.out) t.2 t.1 hw.1 hw.2 L' f hc.out).mono ?_; rintro e w3 ⟨er, rfl, hT, hW⟩; have D3 := Lib.hid ((did_rq Q1.out R1.out ap.out Wr2.out hW)); have T3 := Lib.hid (hT.less (Nat.zero_le _)); have sB := Lib.hid (S0.out _ D3.out.keeps); clear hT hW)
          | (go_at_call 24; refine (r_move (R1.out.keeps Wq2.out.2 nq.out) hlt.out ho.out t.2 t.1 L' f hc.out).mono ?_; rintro e w3 ⟨rfl, hW⟩; have D3 := Lib.hid (did_qr R1.out ap.out Wq2.out hW); have T3 := Lib.hid ((T2.out.keeps hW.2 fun x hx e => absurd rl.out (by subst e; omega)).less (Nat.zero_le _)); have sB := Lib.hid (S0.out _ D3.out.keeps); clear hW)
          | (go_at_call 21; refine (q_move (Q1.out.same (Keeps.refl _ _).drew) t.2 t.1 hw.1 hw.2 L' f hc.out).mono ?_; rintro e w2 ⟨er, rfl, hT, hW⟩; have Wq2 := Lib.hid (went_drew hW); have T2 := Lib.hid (show Tells w2 W1.heap.size _ er f from hT); have sA := Lib.hid (S0.out _ (Wq2.out.2.mono fun _ _ g => .inl g)); clear hT hW)
          | (go_at_call 24; refine (r_move (R1.out.same (Keeps.refl _ _).drew) hlt.out ho.out t.2 t.1 L' f hc.out).mono ?_; rintro e w2 ⟨rfl, hW⟩; have Wr2 := Lib.hid (rwent_drew hW); have sA := Lib.hid (S0.out _ (Wr2.out.2.mono fun _ _ g => .inr (g ▸ rY.out))); clear hW))
      all_goals (go_wp2_with fail; go_meet; exact ⟨L', f, rfl, hlen.out, T3.out, D3.out⟩)
    by_cases h3 : kind = 3
    · subst h3
      have hc : ∃ (L' : List Tm) (f : Nat), (f = 6 ∧ L' = L ∧ ∀ u ∈ L, u.2 ≠ t.2) ∨ (f = 0 ∧ L' = del t.2 L ∧ ∃ u ∈ L, u.2 = t.2) := by
        by_cases c : ∃ u ∈ L, u.2 = t.2
        · exact ⟨del t.2 L, 0, .inr ⟨rfl, rfl, c⟩⟩
        · exact ⟨L, 6, .inl ⟨rfl, rfl, fun u hu e => c ⟨u, hu, e⟩⟩⟩
      obtain ⟨L', f, hc⟩ := hc
      have hlen := Lib.hid (show L'.length ≤ L.length + 1 by
        have hd : (del t.2 L).length ≤ L.length := List.length_filter_le _ _
        rcases hc with ⟨_, e, _⟩ | ⟨_, e, _⟩ <;> (rw [e]; try rw [ins_length])
        all_goals omega)
      have hc := Lib.hid hc
      go_wp2_with fail
      go_region_held3 (fun V => V.cell? ⟨w.heap.size, 1, none⟩ = some (.int .i64 t.1) ∧ V.cell? ⟨w.heap.size, 2, none⟩ = some (.int .i64 t.2)) (first | exact sB.out | exact sA.out | exact s0.out)
        (first
          | (go_at_call 20; refine (q_cancel (Q1.out.keeps Wr2.out.2 nr.out) t.2 hw.2 L' f hc.out).mono ?_; rintro e w3 ⟨er, rfl, hT, hW⟩; have D3 := Lib.hid ((did_rq Q1.out R1.out ap.out Wr2.out hW)); have T3 := Lib.hid (hT.less (Nat.zero_le _)); have sB := Lib.hid (S0.out _ D3.out.keeps); clear hT hW)
          | (go_at_call 25; refine (r_cancel (R1.out.keeps Wq2.out.2 nq.out) hlt.out ho.out t.2 L' f hc.out).mono ?_; rintro e w3 ⟨rfl, hW⟩; have D3 := Lib.hid (did_qr R1.out ap.out Wq2.out hW); have T3 := Lib.hid ((T2.out.keeps hW.2 fun x hx e => absurd rl.out (by subst e; omega)).less (Nat.zero_le _)); have sB := Lib.hid (S0.out _ D3.out.keeps); clear hW)
          | (go_at_call 20; refine (q_cancel (Q1.out.same (Keeps.refl _ _).drew) t.2 hw.2 L' f hc.out).mono ?_; rintro e w2 ⟨er, rfl, hT, hW⟩; have Wq2 := Lib.hid (went_drew hW); have T2 := Lib.hid (show Tells w2 W1.heap.size _ er f from hT); have sA := Lib.hid (S0.out _ (Wq2.out.2.mono fun _ _ g => .inl g)); clear hT hW)
          | (go_at_call 25; refine (r_cancel (R1.out.same (Keeps.refl _ _).drew) hlt.out ho.out t.2 L' f hc.out).mono ?_; rintro e w2 ⟨rfl, hW⟩; have Wr2 := Lib.hid (rwent_drew hW); have sA := Lib.hid (S0.out _ (Wr2.out.2.mono fun _ _ g => .inr (g ▸ rY.out))); clear hW))
      all_goals (go_wp2_with fail; go_meet; exact ⟨L', f, rfl, hlen.out, T3.out, D3.out⟩)
    have n0 : (kind == 0) = false := by simpa using h0
    have n1 : (kind == 1) = false := by simpa using h1
    have n2 : (kind == 2) = false := by simpa using h2
    have n3 : (kind == 3) = false := by simpa using h3
    by_cases h4 : kind = 4
    · subst h4
      have hld : (due t.1 L).length ≤ 100000 := by
        have := congrArg List.length (due_undue t.1 L)
        rw [List.length_append] at this
        have := hlt.out
        omega
      have hlu := Lib.hid (show (undue t.1 L).length ≤ L.length + 1 by
        have := congrArg List.length (due_undue t.1 L)
        rw [List.length_append] at this
        omega)
      go_wp2_with fail
      go_region_held3 (fun V => V.cell? ⟨w.heap.size, 1, none⟩ = some (.int .i64 t.1) ∧ V.cell? ⟨w.heap.size, 2, none⟩ = some (.int .i64 t.2)) (first | exact sC.out | exact sB.out | exact sA.out | exact s0.out)
        (first
          | (go_at_call 14; refine (same_any _ (due t.1 L) (due t.1 L) _ _ O3.out U3.out hld).mono ?_; rw [decide_eq_true rfl]; rintro e w4 ⟨rfl, hK⟩; have D4 := Lib.hid (D3.out.later hK); have sC := Lib.hid (S0.out _ D4.out.keeps); clear hK)
          | (go_at_call 18; refine (due_any (Q1.out.keeps Wr2.out.2 nr.out) t.1).mono ?_; rintro e w3 ⟨v, rfl, hO, hQ, hK⟩; have D3 := Lib.hid (did_rq Q1.out R1.out ap.out Wr2.out ⟨⟨X, hQ, fun _ h => .inl h⟩, hK⟩); have O3 := Lib.hid hO.rd; have U3 := Lib.hid (U2.out.1.keeps hK fun b off n c e => nq.out b (U2.out.2 b off n c e)); have sB := Lib.hid (S0.out _ D3.out.keeps); clear hO hQ hK)
          | (go_at_call 26; refine (ref_due (R1.out.keeps Wq2.out.2 nq.out) (by have := hlt.out; omega) t.1).mono ?_; rintro e w3 ⟨u, rfl, hU, hW⟩; have D3 := Lib.hid (did_qr R1.out ap.out Wq2.out hW); have O3 := Lib.hid ((O2.out.keeps hW.2 fun x hx e => absurd rl.out (by subst e; omega)).rd); have U3 := Lib.hid hU.1; have sB := Lib.hid (S0.out _ D3.out.keeps); clear hU hW)
          | (go_at_call 18; refine (due_any (Q1.out.same (Keeps.refl _ _).drew) t.1).mono ?_; rintro e w2 ⟨v, rfl, hO, hQ, hK⟩; have Wq2 := Lib.hid (went_drew ⟨⟨X, hQ, fun _ h => .inl h⟩, hK⟩); have O2 := Lib.hid (show Own w2 v (due t.1 L) W1.heap.size from hO); have sA := Lib.hid (S0.out _ (Wq2.out.2.mono fun _ _ g => .inl g)); clear hO hQ hK)
          | (go_at_call 26; refine (ref_due (R1.out.same (Keeps.refl _ _).drew) (by have := hlt.out; omega) t.1).mono ?_; rintro e w2 ⟨u, rfl, hU, hW⟩; have Wr2 := Lib.hid (rwent_drew hW); have U2 := Lib.hid hU; have sA := Lib.hid (S0.out _ (Wr2.out.2.mono fun _ _ g => .inr (g ▸ rY.out))); clear hU hW))
      all_goals (go_wp2_with fail; go_meet; exact ⟨undue t.1 L, 0, rfl, hlu.out, .inl ⟨rfl, rfl⟩, D4.out⟩)
    · have n4 : (kind == 4) = false := by simpa using h4
      have D3 := Lib.hid (did_same Q1.out R1.out ap.out (Keeps.refl _ _))
      go_wp2_with fail
      go_meet
      exact ⟨L, 0, rfl, Nat.le_succ _, .inl ⟨rfl, rfl⟩, D3.out⟩
  case rest =>
    obtain ⟨L', f, rfl, hlen, hT, hD⟩ := hcut
    have KD := Lib.hid hD.keeps
    have D0 := Lib.hid hD
    have hlen := Lib.hid hlen
    clear hD
    rcases hT with ⟨rfl, rfl⟩ | ⟨hf, hF⟩
    · go_wp2_with fail
      refine AnyT.begin (S := fun V => V.cell? ⟨w.heap.size, 2, none⟩ = some (.int .i64 t.2)) (by kernel_rfl) (S0.out _ KD.out.drew).2 (fun hHeld => ?_)
      first
        | (refine AnyT.take (i := 0) (v := ?_) rfl (by kernel_rfl) (fun _ _ _ h => h) (Or.inl ⟨by rfl, ?_⟩) (by assumption) ?_; rotate_left; (· (intro V hSV; (try dsimp only at hSV); (first | (go_simp; done) | (go_simp; with_reducible rfl)))); simp only [Act.put, List.setIfInBounds_toArray, List.set_cons_zero, List.set_cons_succ])
        | (refine AnyT.take (i := 0) (v := undef) rfl (by kernel_rfl) (fun _ _ _ h => h) (Or.inr ⟨by rfl, rfl⟩) (by assumption) ?_; simp only [Act.put, List.setIfInBounds_toArray, List.set_cons_zero, List.set_cons_succ])
      first
        | (refine AnyT.take (i := 2) (v := ?_) rfl (by kernel_rfl) (fun _ _ _ h => h) (Or.inl ⟨by rfl, ?_⟩) (by assumption) ?_; rotate_left; (· (intro V hSV; (try dsimp only at hSV); (first | (go_simp; done) | (go_simp; with_reducible rfl)))); simp only [Act.put, List.setIfInBounds_toArray, List.set_cons_zero, List.set_cons_succ])
        | (refine AnyT.take (i := 2) (v := undef) rfl (by kernel_rfl) (fun _ _ _ h => h) (Or.inr ⟨by rfl, rfl⟩) (by assumption) ?_; simp only [Act.put, List.setIfInBounds_toArray, List.set_cons_zero, List.set_cons_succ])
      refine AnyT.ready (rs := [1]) (by kernel_rfl) (by simp) (ReadyT.cons rfl (fun K hK => ?_) ReadyT.nil)
      go_simp
      refine (no_nil _).mono ?_
      rintro e w2 ⟨rfl, rfl⟩
      go_wp2_with fail
      refine hK.out _ _ (fun _ => hHeld) (fun _ => ?_)
      clear hK K
      try simp only [Act.put, List.setIfInBounds_toArray, List.set_cons_zero, List.set_cons_succ]
      first
        | (refine AnyT.take (i := 3) (v := ?_) rfl (by kernel_rfl) (fun _ _ _ h => h) (Or.inl ⟨by rfl, ?_⟩) (by assumption) ?_; rotate_left; (· (intro V hSV; (try dsimp only at hSV); (first | (go_simp; done) | (go_simp; with_reducible rfl)))); simp only [Act.put, List.setIfInBounds_toArray, List.set_cons_zero, List.set_cons_succ])
        | (refine AnyT.take (i := 3) (v := undef) rfl (by kernel_rfl) (fun _ _ _ h => h) (Or.inr ⟨by rfl, rfl⟩) (by assumption) ?_; simp only [Act.put, List.setIfInBounds_toArray, List.set_cons_zero, List.set_cons_succ])
      first
        | (refine AnyT.take (i := 4) (v := ?_) rfl (by kernel_rfl) (fun _ _ _ h => h) (Or.inl ⟨by rfl, ?_⟩) (by assumption) ?_; rotate_left; (· (intro V hSV; (try dsimp only at hSV); (first | (go_simp; done) | (go_simp; with_reducible rfl)))); simp only [Act.put, List.setIfInBounds_toArray, List.set_cons_zero, List.set_cons_succ])
        | (refine AnyT.take (i := 4) (v := undef) rfl (by kernel_rfl) (fun _ _ _ h => h) (Or.inr ⟨by rfl, rfl⟩) (by assumption) ?_; simp only [Act.put, List.setIfInBounds_toArray, List.set_cons_zero, List.set_cons_succ])
      first
        | (refine AnyT.take (i := 5) (v := ?_) rfl (by kernel_rfl) (fun _ _ _ h => h) (Or.inl ⟨by rfl, ?_⟩) (by assumption) ?_; rotate_left; (· (intro V hSV; (try dsimp only at hSV); (first | (go_simp; done) | (go_simp; with_reducible rfl)))); simp only [Act.put, List.setIfInBounds_toArray, List.set_cons_zero, List.set_cons_succ])
        | (refine AnyT.take (i := 5) (v := undef) rfl (by kernel_rfl) (fun _ _ _ h => h) (Or.inr ⟨by rfl, rfl⟩) (by assumption) ?_; simp only [Act.put, List.setIfInBounds_toArray, List.set_cons_zero, List.set_cons_succ])
      first
        | (refine AnyT.take (i := 6) (v := ?_) rfl (by kernel_rfl) (fun _ _ _ h => h) (Or.inl ⟨by rfl, ?_⟩) (by assumption) ?_; rotate_left; (· (intro V hSV; (try dsimp only at hSV); (first | (go_simp; done) | (go_simp; with_reducible rfl)))); simp only [Act.put, List.setIfInBounds_toArray, List.set_cons_zero, List.set_cons_succ])
        | (refine AnyT.take (i := 6) (v := undef) rfl (by kernel_rfl) (fun _ _ _ h => h) (Or.inr ⟨by rfl, rfl⟩) (by assumption) ?_; simp only [Act.put, List.setIfInBounds_toArray, List.set_cons_zero, List.set_cons_succ])
      first
        | (refine AnyT.take (i := 7) (v := ?_) rfl (by kernel_rfl) (fun _ _ _ h => h) (Or.inl ⟨by rfl, ?_⟩) (by assumption) ?_; rotate_left; (· (intro V hSV; (try dsimp only at hSV); (first | (go_simp; done) | (go_simp; with_reducible rfl)))); simp only [Act.put, List.setIfInBounds_toArray, List.set_cons_zero, List.set_cons_succ])
        | (refine AnyT.take (i := 7) (v := undef) rfl (by kernel_rfl) (fun _ _ _ h => h) (Or.inr ⟨by rfl, rfl⟩) (by assumption) ?_; simp only [Act.put, List.setIfInBounds_toArray, List.set_cons_zero, List.set_cons_succ])
      first
        | (refine AnyT.take (i := 8) (v := ?_) rfl (by kernel_rfl) (fun _ _ _ h => h) (Or.inl ⟨by rfl, ?_⟩) (by assumption) ?_; rotate_left; (· (intro V hSV; (try dsimp only at hSV); (first | (go_simp; done) | (go_simp; with_reducible rfl)))); simp only [Act.put, List.setIfInBounds_toArray, List.set_cons_zero, List.set_cons_succ])
        | (refine AnyT.take (i := 8) (v := undef) rfl (by kernel_rfl) (fun _ _ _ h => h) (Or.inr ⟨by rfl, rfl⟩) (by assumption) ?_; simp only [Act.put, List.setIfInBounds_toArray, List.set_cons_zero, List.set_cons_succ])
      first
        | (refine AnyT.take (i := 9) (v := ?_) rfl (by kernel_rfl) (fun _ _ _ h => h) (Or.inl ⟨by rfl, ?_⟩) (by assumption) ?_; rotate_left; (· (intro V hSV; (try dsimp only at hSV); (first | (go_simp; done) | (go_simp; with_reducible rfl)))); simp only [Act.put, List.setIfInBounds_toArray, List.set_cons_zero, List.set_cons_succ])
        | (refine AnyT.take (i := 9) (v := undef) rfl (by kernel_rfl) (fun _ _ _ h => h) (Or.inr ⟨by rfl, rfl⟩) (by assumption) ?_; simp only [Act.put, List.setIfInBounds_toArray, List.set_cons_zero, List.set_cons_succ])
      first
        | (refine AnyT.take (i := 10) (v := ?_) rfl (by kernel_rfl) (fun _ _ _ h => h) (Or.inl ⟨by rfl, ?_⟩) (by assumption) ?_; rotate_left; (· (intro V hSV; (try dsimp only at hSV); (first | (go_simp; done) | (go_simp; with_reducible rfl)))); simp only [Act.put, List.setIfInBounds_toArray, List.set_cons_zero, List.set_cons_succ])
        | (refine AnyT.take (i := 10) (v := undef) rfl (by kernel_rfl) (fun _ _ _ h => h) (Or.inr ⟨by rfl, rfl⟩) (by assumption) ?_; simp only [Act.put, List.setIfInBounds_toArray, List.set_cons_zero, List.set_cons_succ])
      first
        | (refine AnyT.take (i := 11) (v := ?_) rfl (by kernel_rfl) (fun _ _ _ h => h) (Or.inl ⟨by rfl, ?_⟩) (by assumption) ?_; rotate_left; (· (intro V hSV; (try dsimp only at hSV); (first | (go_simp; done) | (go_simp; with_reducible rfl)))); simp only [Act.put, List.setIfInBounds_toArray, List.set_cons_zero, List.set_cons_succ])
        | (refine AnyT.take (i := 11) (v := undef) rfl (by kernel_rfl) (fun _ _ _ h => h) (Or.inr ⟨by rfl, rfl⟩) (by assumption) ?_; simp only [Act.put, List.setIfInBounds_toArray, List.set_cons_zero, List.set_cons_succ])
      first
        | (refine AnyT.take (i := 12) (v := ?_) rfl (by kernel_rfl) (fun _ _ _ h => h) (Or.inl ⟨by rfl, ?_⟩) (by assumption) ?_; rotate_left; (· (intro V hSV; (try dsimp only at hSV); (first | (go_simp; done) | (go_simp; with_reducible rfl)))); simp only [Act.put, List.setIfInBounds_toArray, List.set_cons_zero, List.set_cons_succ])
        | (refine AnyT.take (i := 12) (v := undef) rfl (by kernel_rfl) (fun _ _ _ h => h) (Or.inr ⟨by rfl, rfl⟩) (by assumption) ?_; simp only [Act.put, List.setIfInBounds_toArray, List.set_cons_zero, List.set_cons_succ])
      first
        | (refine AnyT.take (i := 13) (v := ?_) rfl (by kernel_rfl) (fun _ _ _ h => h) (Or.inl ⟨by rfl, ?_⟩) (by assumption) ?_; rotate_left; (· (intro V hSV; (try dsimp only at hSV); (first | (go_simp; done) | (go_simp; with_reducible rfl)))); simp only [Act.put, List.setIfInBounds_toArray, List.set_cons_zero, List.set_cons_succ])
        | (refine AnyT.take (i := 13) (v := undef) rfl (by kernel_rfl) (fun _ _ _ h => h) (Or.inr ⟨by rfl, rfl⟩) (by assumption) ?_; simp only [Act.put, List.setIfInBounds_toArray, List.set_cons_zero, List.set_cons_succ])
      first
        | (refine AnyT.take (i := 14) (v := ?_) rfl (by kernel_rfl) (fun _ _ _ h => h) (Or.inl ⟨by rfl, ?_⟩) (by assumption) ?_; rotate_left; (· (intro V hSV; (try dsimp only at hSV); (first | (go_simp; done) | (go_simp; with_reducible rfl)))); simp only [Act.put, List.setIfInBounds_toArray, List.set_cons_zero, List.set_cons_succ])
        | (refine AnyT.take (i := 14) (v := undef) rfl (by kernel_rfl) (fun _ _ _ h => h) (Or.inr ⟨by rfl, rfl⟩) (by assumption) ?_; simp only [Act.put, List.setIfInBounds_toArray, List.set_cons_zero, List.set_cons_succ])
      first
        | (refine AnyT.take (i := 15) (v := ?_) rfl (by kernel_rfl) (fun _ _ _ h => h) (Or.inl ⟨by rfl, ?_⟩) (by assumption) ?_; rotate_left; (· (intro V hSV; (try dsimp only at hSV); (first | (go_simp; done) | (go_simp; with_reducible rfl)))); simp only [Act.put, List.setIfInBounds_toArray, List.set_cons_zero, List.set_cons_succ])
        | (refine AnyT.take (i := 15) (v := undef) rfl (by kernel_rfl) (fun _ _ _ h => h) (Or.inr ⟨by rfl, rfl⟩) (by assumption) ?_; simp only [Act.put, List.setIfInBounds_toArray, List.set_cons_zero, List.set_cons_succ])
      first
        | (refine AnyT.take (i := 16) (v := ?_) rfl (by kernel_rfl) (fun _ _ _ h => h) (Or.inl ⟨by rfl, ?_⟩) (by assumption) ?_; rotate_left; (· (intro V hSV; (try dsimp only at hSV); (first | (go_simp; done) | (go_simp; with_reducible rfl)))); simp only [Act.put, List.setIfInBounds_toArray, List.set_cons_zero, List.set_cons_succ])
        | (refine AnyT.take (i := 16) (v := undef) rfl (by kernel_rfl) (fun _ _ _ h => h) (Or.inr ⟨by rfl, rfl⟩) (by assumption) ?_; simp only [Act.put, List.setIfInBounds_toArray, List.set_cons_zero, List.set_cons_succ])
      first
        | (refine AnyT.take (i := 17) (v := ?_) rfl (by kernel_rfl) (fun _ _ _ h => h) (Or.inl ⟨by rfl, ?_⟩) (by assumption) ?_; rotate_left; (· (intro V hSV; (try dsimp only at hSV); (first | (go_simp; done) | (go_simp; with_reducible rfl)))); simp only [Act.put, List.setIfInBounds_toArray, List.set_cons_zero, List.set_cons_succ])
        | (refine AnyT.take (i := 17) (v := undef) rfl (by kernel_rfl) (fun _ _ _ h => h) (Or.inr ⟨by rfl, rfl⟩) (by assumption) ?_; simp only [Act.put, List.setIfInBounds_toArray, List.set_cons_zero, List.set_cons_succ])
      first
        | (refine AnyT.take (i := 18) (v := ?_) rfl (by kernel_rfl) (fun _ _ _ h => h) (Or.inl ⟨by rfl, ?_⟩) (by assumption) ?_; rotate_left; (· (intro V hSV; (try dsimp only at hSV); (first | (go_simp; done) | (go_simp; with_reducible rfl)))); simp only [Act.put, List.setIfInBounds_toArray, List.set_cons_zero, List.set_cons_succ])
        | (refine AnyT.take (i := 18) (v := undef) rfl (by kernel_rfl) (fun _ _ _ h => h) (Or.inr ⟨by rfl, rfl⟩) (by assumption) ?_; simp only [Act.put, List.setIfInBounds_toArray, List.set_cons_zero, List.set_cons_succ])
      first
        | (refine AnyT.take (i := 19) (v := ?_) rfl (by kernel_rfl) (fun _ _ _ h => h) (Or.inl ⟨by rfl, ?_⟩) (by assumption) ?_; rotate_left; (· (intro V hSV; (try dsimp only at hSV); (first | (go_simp; done) | (go_simp; with_reducible rfl)))); simp only [Act.put, List.setIfInBounds_toArray, List.set_cons_zero, List.set_cons_succ])
        | (refine AnyT.take (i := 19) (v := undef) rfl (by kernel_rfl) (fun _ _ _ h => h) (Or.inr ⟨by rfl, rfl⟩) (by assumption) ?_; simp only [Act.put, List.setIfInBounds_toArray, List.set_cons_zero, List.set_cons_succ])
      refine AnyT.ready (rs := [20]) (by kernel_rfl) (by simp) (ReadyT.cons rfl (fun K hK => ?_) ReadyT.nil)
      go_simp
      refine hK.out _ _ (fun h => absurd h (by simp)) (fun _ => ?_)
      clear hK K
      try simp only [Act.put, List.setIfInBounds_toArray, List.set_cons_zero, List.set_cons_succ]
      refine AnyT.done (by kernel_rfl) ?_ _
      go_wp2_with fail
      go_ret
      exact ⟨rfl, L', hlen.out, (D0.out.later (Keeps.refl _ _).drew).after k1'.out⟩
    · have F0 := Lib.hid hF
      clear hF
      rcases hf with rfl | rfl
      · go_wp2_with fail
        refine AnyT.begin (S := fun V => V.cell? ⟨w.heap.size, 2, none⟩ = some (.int .i64 t.2)) (by kernel_rfl) (S0.out _ KD.out.drew).2 (fun hHeld => ?_)
        first
          | (refine AnyT.take (i := 0) (v := ?_) rfl (by kernel_rfl) (fun _ _ _ h => h) (Or.inl ⟨by rfl, ?_⟩) (by assumption) ?_; rotate_left; (· (intro V hSV; (try dsimp only at hSV); (first | (go_simp; done) | (go_simp; with_reducible rfl)))); simp only [Act.put, List.setIfInBounds_toArray, List.set_cons_zero, List.set_cons_succ])
          | (refine AnyT.take (i := 0) (v := undef) rfl (by kernel_rfl) (fun _ _ _ h => h) (Or.inr ⟨by rfl, rfl⟩) (by assumption) ?_; simp only [Act.put, List.setIfInBounds_toArray, List.set_cons_zero, List.set_cons_succ])
        first
          | (refine AnyT.take (i := 2) (v := ?_) rfl (by kernel_rfl) (fun _ _ _ h => h) (Or.inl ⟨by rfl, ?_⟩) (by assumption) ?_; rotate_left; (· (intro V hSV; (try dsimp only at hSV); (first | (go_simp; done) | (go_simp; with_reducible rfl)))); simp only [Act.put, List.setIfInBounds_toArray, List.set_cons_zero, List.set_cons_succ])
          | (refine AnyT.take (i := 2) (v := undef) rfl (by kernel_rfl) (fun _ _ _ h => h) (Or.inr ⟨by rfl, rfl⟩) (by assumption) ?_; simp only [Act.put, List.setIfInBounds_toArray, List.set_cons_zero, List.set_cons_succ])
        refine AnyT.ready (rs := [1]) (by kernel_rfl) (by simp) (ReadyT.cons rfl (fun K hK => ?_) ReadyT.nil)
        go_simp
        refine (no_isFault F0.out (by decide) (by decide) (Keeps.refl _ _).drew).mono ?_
        rintro e w2 ⟨rfl, rfl⟩
        go_wp2_with fail
        refine hK.out _ _ (fun _ => hHeld) (fun _ => ?_)
        clear hK K
        try simp only [Act.put, List.setIfInBounds_toArray, List.set_cons_zero, List.set_cons_succ]
        first
          | (refine AnyT.take (i := 3) (v := ?_) rfl (by kernel_rfl) (fun _ _ _ h => h) (Or.inl ⟨by rfl, ?_⟩) (by assumption) ?_; rotate_left; (· (intro V hSV; (try dsimp only at hSV); (first | (go_simp; done) | (go_simp; with_reducible rfl)))); simp only [Act.put, List.setIfInBounds_toArray, List.set_cons_zero, List.set_cons_succ])
          | (refine AnyT.take (i := 3) (v := undef) rfl (by kernel_rfl) (fun _ _ _ h => h) (Or.inr ⟨by rfl, rfl⟩) (by assumption) ?_; simp only [Act.put, List.setIfInBounds_toArray, List.set_cons_zero, List.set_cons_succ])
        first
          | (refine AnyT.take (i := 4) (v := ?_) rfl (by kernel_rfl) (fun _ _ _ h => h) (Or.inl ⟨by rfl, ?_⟩) (by assumption) ?_; rotate_left; (· (intro V hSV; (try dsimp only at hSV); (first | (go_simp; done) | (go_simp; with_reducible rfl)))); simp only [Act.put, List.setIfInBounds_toArray, List.set_cons_zero, List.set_cons_succ])
          | (refine AnyT.take (i := 4) (v := undef) rfl (by kernel_rfl) (fun _ _ _ h => h) (Or.inr ⟨by rfl, rfl⟩) (by assumption) ?_; simp only [Act.put, List.setIfInBounds_toArray, List.set_cons_zero, List.set_cons_succ])
        first
          | (refine AnyT.take (i := 5) (v := ?_) rfl (by kernel_rfl) (fun _ _ _ h => h) (Or.inl ⟨by rfl, ?_⟩) (by assumption) ?_; rotate_left; (· (intro V hSV; (try dsimp only at hSV); (first | (go_simp; done) | (go_simp; with_reducible rfl)))); simp only [Act.put, List.setIfInBounds_toArray, List.set_cons_zero, List.set_cons_succ])
          | (refine AnyT.take (i := 5) (v := undef) rfl (by kernel_rfl) (fun _ _ _ h => h) (Or.inr ⟨by rfl, rfl⟩) (by assumption) ?_; simp only [Act.put, List.setIfInBounds_toArray, List.set_cons_zero, List.set_cons_succ])
        first
          | (refine AnyT.take (i := 6) (v := ?_) rfl (by kernel_rfl) (fun _ _ _ h => h) (Or.inl ⟨by rfl, ?_⟩) (by assumption) ?_; rotate_left; (· (intro V hSV; (try dsimp only at hSV); (first | (go_simp; done) | (go_simp; with_reducible rfl)))); simp only [Act.put, List.setIfInBounds_toArray, List.set_cons_zero, List.set_cons_succ])
          | (refine AnyT.take (i := 6) (v := undef) rfl (by kernel_rfl) (fun _ _ _ h => h) (Or.inr ⟨by rfl, rfl⟩) (by assumption) ?_; simp only [Act.put, List.setIfInBounds_toArray, List.set_cons_zero, List.set_cons_succ])
        first
          | (refine AnyT.take (i := 7) (v := ?_) rfl (by kernel_rfl) (fun _ _ _ h => h) (Or.inl ⟨by rfl, ?_⟩) (by assumption) ?_; rotate_left; (· (intro V hSV; (try dsimp only at hSV); (first | (go_simp; done) | (go_simp; with_reducible rfl)))); simp only [Act.put, List.setIfInBounds_toArray, List.set_cons_zero, List.set_cons_succ])
          | (refine AnyT.take (i := 7) (v := undef) rfl (by kernel_rfl) (fun _ _ _ h => h) (Or.inr ⟨by rfl, rfl⟩) (by assumption) ?_; simp only [Act.put, List.setIfInBounds_toArray, List.set_cons_zero, List.set_cons_succ])
        first
          | (refine AnyT.take (i := 8) (v := ?_) rfl (by kernel_rfl) (fun _ _ _ h => h) (Or.inl ⟨by rfl, ?_⟩) (by assumption) ?_; rotate_left; (· (intro V hSV; (try dsimp only at hSV); (first | (go_simp; done) | (go_simp; with_reducible rfl)))); simp only [Act.put, List.setIfInBounds_toArray, List.set_cons_zero, List.set_cons_succ])
          | (refine AnyT.take (i := 8) (v := undef) rfl (by kernel_rfl) (fun _ _ _ h => h) (Or.inr ⟨by rfl, rfl⟩) (by assumption) ?_; simp only [Act.put, List.setIfInBounds_toArray, List.set_cons_zero, List.set_cons_succ])
        first
          | (refine AnyT.take (i := 9) (v := ?_) rfl (by kernel_rfl) (fun _ _ _ h => h) (Or.inl ⟨by rfl, ?_⟩) (by assumption) ?_; rotate_left; (· (intro V hSV; (try dsimp only at hSV); (first | (go_simp; done) | (go_simp; with_reducible rfl)))); simp only [Act.put, List.setIfInBounds_toArray, List.set_cons_zero, List.set_cons_succ])
          | (refine AnyT.take (i := 9) (v := undef) rfl (by kernel_rfl) (fun _ _ _ h => h) (Or.inr ⟨by rfl, rfl⟩) (by assumption) ?_; simp only [Act.put, List.setIfInBounds_toArray, List.set_cons_zero, List.set_cons_succ])
        first
          | (refine AnyT.take (i := 10) (v := ?_) rfl (by kernel_rfl) (fun _ _ _ h => h) (Or.inl ⟨by rfl, ?_⟩) (by assumption) ?_; rotate_left; (· (intro V hSV; (try dsimp only at hSV); (first | (go_simp; done) | (go_simp; with_reducible rfl)))); simp only [Act.put, List.setIfInBounds_toArray, List.set_cons_zero, List.set_cons_succ])
          | (refine AnyT.take (i := 10) (v := undef) rfl (by kernel_rfl) (fun _ _ _ h => h) (Or.inr ⟨by rfl, rfl⟩) (by assumption) ?_; simp only [Act.put, List.setIfInBounds_toArray, List.set_cons_zero, List.set_cons_succ])
        first
          | (refine AnyT.take (i := 11) (v := ?_) rfl (by kernel_rfl) (fun _ _ _ h => h) (Or.inl ⟨by rfl, ?_⟩) (by assumption) ?_; rotate_left; (· (intro V hSV; (try dsimp only at hSV); (first | (go_simp; done) | (go_simp; with_reducible rfl)))); simp only [Act.put, List.setIfInBounds_toArray, List.set_cons_zero, List.set_cons_succ])
          | (refine AnyT.take (i := 11) (v := undef) rfl (by kernel_rfl) (fun _ _ _ h => h) (Or.inr ⟨by rfl, rfl⟩) (by assumption) ?_; simp only [Act.put, List.setIfInBounds_toArray, List.set_cons_zero, List.set_cons_succ])
        first
          | (refine AnyT.take (i := 12) (v := ?_) rfl (by kernel_rfl) (fun _ _ _ h => h) (Or.inl ⟨by rfl, ?_⟩) (by assumption) ?_; rotate_left; (· (intro V hSV; (try dsimp only at hSV); (first | (go_simp; done) | (go_simp; with_reducible rfl)))); simp only [Act.put, List.setIfInBounds_toArray, List.set_cons_zero, List.set_cons_succ])
          | (refine AnyT.take (i := 12) (v := undef) rfl (by kernel_rfl) (fun _ _ _ h => h) (Or.inr ⟨by rfl, rfl⟩) (by assumption) ?_; simp only [Act.put, List.setIfInBounds_toArray, List.set_cons_zero, List.set_cons_succ])
        first
          | (refine AnyT.take (i := 14) (v := ?_) rfl (by kernel_rfl) (fun _ _ _ h => h) (Or.inl ⟨by rfl, ?_⟩) (by assumption) ?_; rotate_left; (· (intro V hSV; (try dsimp only at hSV); (first | (go_simp; done) | (go_simp; with_reducible rfl)))); simp only [Act.put, List.setIfInBounds_toArray, List.set_cons_zero, List.set_cons_succ])
          | (refine AnyT.take (i := 14) (v := undef) rfl (by kernel_rfl) (fun _ _ _ h => h) (Or.inr ⟨by rfl, rfl⟩) (by assumption) ?_; simp only [Act.put, List.setIfInBounds_toArray, List.set_cons_zero, List.set_cons_succ])
        first
          | (refine AnyT.take (i := 15) (v := ?_) rfl (by kernel_rfl) (fun _ _ _ h => h) (Or.inl ⟨by rfl, ?_⟩) (by assumption) ?_; rotate_left; (· (intro V hSV; (try dsimp only at hSV); (first | (go_simp; done) | (go_simp; with_reducible rfl)))); simp only [Act.put, List.setIfInBounds_toArray, List.set_cons_zero, List.set_cons_succ])
          | (refine AnyT.take (i := 15) (v := undef) rfl (by kernel_rfl) (fun _ _ _ h => h) (Or.inr ⟨by rfl, rfl⟩) (by assumption) ?_; simp only [Act.put, List.setIfInBounds_toArray, List.set_cons_zero, List.set_cons_succ])
        first
          | (refine AnyT.take (i := 16) (v := ?_) rfl (by kernel_rfl) (fun _ _ _ h => h) (Or.inl ⟨by rfl, ?_⟩) (by assumption) ?_; rotate_left; (· (intro V hSV; (try dsimp only at hSV); (first | (go_simp; done) | (go_simp; with_reducible rfl)))); simp only [Act.put, List.setIfInBounds_toArray, List.set_cons_zero, List.set_cons_succ])
          | (refine AnyT.take (i := 16) (v := undef) rfl (by kernel_rfl) (fun _ _ _ h => h) (Or.inr ⟨by rfl, rfl⟩) (by assumption) ?_; simp only [Act.put, List.setIfInBounds_toArray, List.set_cons_zero, List.set_cons_succ])
        refine AnyT.ready (rs := [13]) (by kernel_rfl) (by simp) (ReadyT.cons rfl (fun K hK => ?_) ReadyT.nil)
        go_simp
        refine (place_isFault F0.out (Keeps.refl _ _).drew (G1.out _ KD.out.drew)).mono ?_
        rintro e w5 ⟨rfl, hK5⟩
        go_wp2_with fail
        have k5 := Lib.hid ((Keeps.refl (fun _ => False) wc).drew.trans hK5 fun _ _ => False.elim)
        have hHeld := (S0.out w5 (KD.out.trans k5.out fun _ _ => False.elim)).2
        clear hK5
        refine hK.out _ _ (fun _ => hHeld) (fun _ => ?_)
        clear hK K
        try simp only [Act.put, List.setIfInBounds_toArray, List.set_cons_zero, List.set_cons_succ]
        first
          | (refine AnyT.take (i := 17) (v := ?_) rfl (by kernel_rfl) (fun _ _ _ h => h) (Or.inl ⟨by rfl, ?_⟩) (by assumption) ?_; rotate_left; (· (intro V hSV; (try dsimp only at hSV); (first | (go_simp; done) | (go_simp; with_reducible rfl)))); simp only [Act.put, List.setIfInBounds_toArray, List.set_cons_zero, List.set_cons_succ])
          | (refine AnyT.take (i := 17) (v := undef) rfl (by kernel_rfl) (fun _ _ _ h => h) (Or.inr ⟨by rfl, rfl⟩) (by assumption) ?_; simp only [Act.put, List.setIfInBounds_toArray, List.set_cons_zero, List.set_cons_succ])
        first
          | (refine AnyT.take (i := 18) (v := ?_) rfl (by kernel_rfl) (fun _ _ _ h => h) (Or.inl ⟨by rfl, ?_⟩) (by assumption) ?_; rotate_left; (· (intro V hSV; (try dsimp only at hSV); (first | (go_simp; done) | (go_simp; with_reducible rfl)))); simp only [Act.put, List.setIfInBounds_toArray, List.set_cons_zero, List.set_cons_succ])
          | (refine AnyT.take (i := 18) (v := undef) rfl (by kernel_rfl) (fun _ _ _ h => h) (Or.inr ⟨by rfl, rfl⟩) (by assumption) ?_; simp only [Act.put, List.setIfInBounds_toArray, List.set_cons_zero, List.set_cons_succ])
        first
          | (refine AnyT.take (i := 19) (v := ?_) rfl (by kernel_rfl) (fun _ _ _ h => h) (Or.inl ⟨by rfl, ?_⟩) (by assumption) ?_; rotate_left; (· (intro V hSV; (try dsimp only at hSV); (first | (go_simp; done) | (go_simp; with_reducible rfl)))); simp only [Act.put, List.setIfInBounds_toArray, List.set_cons_zero, List.set_cons_succ])
          | (refine AnyT.take (i := 19) (v := undef) rfl (by kernel_rfl) (fun _ _ _ h => h) (Or.inr ⟨by rfl, rfl⟩) (by assumption) ?_; simp only [Act.put, List.setIfInBounds_toArray, List.set_cons_zero, List.set_cons_succ])
        refine AnyT.ready (rs := [20]) (by kernel_rfl) (by simp) (ReadyT.cons rfl (fun K hK => ?_) ReadyT.nil)
        go_simp
        refine hK.out _ _ (fun h => absurd h (by simp)) (fun _ => ?_)
        clear hK K
        try simp only [Act.put, List.setIfInBounds_toArray, List.set_cons_zero, List.set_cons_succ]
        refine AnyT.done (by kernel_rfl) ?_ _
        go_wp2_with fail
        go_ret
        exact ⟨rfl, L', hlen.out, (D0.out.later k5.out).after k1'.out⟩
      · go_wp2_with fail
        refine AnyT.begin (S := fun V => V.cell? ⟨w.heap.size, 2, none⟩ = some (.int .i64 t.2)) (by kernel_rfl) (S0.out _ KD.out.drew).2 (fun hHeld => ?_)
        first
          | (refine AnyT.take (i := 0) (v := ?_) rfl (by kernel_rfl) (fun _ _ _ h => h) (Or.inl ⟨by rfl, ?_⟩) (by assumption) ?_; rotate_left; (· (intro V hSV; (try dsimp only at hSV); (first | (go_simp; done) | (go_simp; with_reducible rfl)))); simp only [Act.put, List.setIfInBounds_toArray, List.set_cons_zero, List.set_cons_succ])
          | (refine AnyT.take (i := 0) (v := undef) rfl (by kernel_rfl) (fun _ _ _ h => h) (Or.inr ⟨by rfl, rfl⟩) (by assumption) ?_; simp only [Act.put, List.setIfInBounds_toArray, List.set_cons_zero, List.set_cons_succ])
        first
          | (refine AnyT.take (i := 2) (v := ?_) rfl (by kernel_rfl) (fun _ _ _ h => h) (Or.inl ⟨by rfl, ?_⟩) (by assumption) ?_; rotate_left; (· (intro V hSV; (try dsimp only at hSV); (first | (go_simp; done) | (go_simp; with_reducible rfl)))); simp only [Act.put, List.setIfInBounds_toArray, List.set_cons_zero, List.set_cons_succ])
          | (refine AnyT.take (i := 2) (v := undef) rfl (by kernel_rfl) (fun _ _ _ h => h) (Or.inr ⟨by rfl, rfl⟩) (by assumption) ?_; simp only [Act.put, List.setIfInBounds_toArray, List.set_cons_zero, List.set_cons_succ])
        refine AnyT.ready (rs := [1]) (by kernel_rfl) (by simp) (ReadyT.cons rfl (fun K hK => ?_) ReadyT.nil)
        go_simp
        refine (no_isFault F0.out (by decide) (by decide) (Keeps.refl _ _).drew).mono ?_
        rintro e w2 ⟨rfl, rfl⟩
        go_wp2_with fail
        refine hK.out _ _ (fun _ => hHeld) (fun _ => ?_)
        clear hK K
        try simp only [Act.put, List.setIfInBounds_toArray, List.set_cons_zero, List.set_cons_succ]
        first
          | (refine AnyT.take (i := 3) (v := ?_) rfl (by kernel_rfl) (fun _ _ _ h => h) (Or.inl ⟨by rfl, ?_⟩) (by assumption) ?_; rotate_left; (· (intro V hSV; (try dsimp only at hSV); (first | (go_simp; done) | (go_simp; with_reducible rfl)))); simp only [Act.put, List.setIfInBounds_toArray, List.set_cons_zero, List.set_cons_succ])
          | (refine AnyT.take (i := 3) (v := undef) rfl (by kernel_rfl) (fun _ _ _ h => h) (Or.inr ⟨by rfl, rfl⟩) (by assumption) ?_; simp only [Act.put, List.setIfInBounds_toArray, List.set_cons_zero, List.set_cons_succ])
        first
          | (refine AnyT.take (i := 4) (v := ?_) rfl (by kernel_rfl) (fun _ _ _ h => h) (Or.inl ⟨by rfl, ?_⟩) (by assumption) ?_; rotate_left; (· (intro V hSV; (try dsimp only at hSV); (first | (go_simp; done) | (go_simp; with_reducible rfl)))); simp only [Act.put, List.setIfInBounds_toArray, List.set_cons_zero, List.set_cons_succ])
          | (refine AnyT.take (i := 4) (v := undef) rfl (by kernel_rfl) (fun _ _ _ h => h) (Or.inr ⟨by rfl, rfl⟩) (by assumption) ?_; simp only [Act.put, List.setIfInBounds_toArray, List.set_cons_zero, List.set_cons_succ])
        first
          | (refine AnyT.take (i := 5) (v := ?_) rfl (by kernel_rfl) (fun _ _ _ h => h) (Or.inl ⟨by rfl, ?_⟩) (by assumption) ?_; rotate_left; (· (intro V hSV; (try dsimp only at hSV); (first | (go_simp; done) | (go_simp; with_reducible rfl)))); simp only [Act.put, List.setIfInBounds_toArray, List.set_cons_zero, List.set_cons_succ])
          | (refine AnyT.take (i := 5) (v := undef) rfl (by kernel_rfl) (fun _ _ _ h => h) (Or.inr ⟨by rfl, rfl⟩) (by assumption) ?_; simp only [Act.put, List.setIfInBounds_toArray, List.set_cons_zero, List.set_cons_succ])
        first
          | (refine AnyT.take (i := 6) (v := ?_) rfl (by kernel_rfl) (fun _ _ _ h => h) (Or.inl ⟨by rfl, ?_⟩) (by assumption) ?_; rotate_left; (· (intro V hSV; (try dsimp only at hSV); (first | (go_simp; done) | (go_simp; with_reducible rfl)))); simp only [Act.put, List.setIfInBounds_toArray, List.set_cons_zero, List.set_cons_succ])
          | (refine AnyT.take (i := 6) (v := undef) rfl (by kernel_rfl) (fun _ _ _ h => h) (Or.inr ⟨by rfl, rfl⟩) (by assumption) ?_; simp only [Act.put, List.setIfInBounds_toArray, List.set_cons_zero, List.set_cons_succ])
        first
          | (refine AnyT.take (i := 7) (v := ?_) rfl (by kernel_rfl) (fun _ _ _ h => h) (Or.inl ⟨by rfl, ?_⟩) (by assumption) ?_; rotate_left; (· (intro V hSV; (try dsimp only at hSV); (first | (go_simp; done) | (go_simp; with_reducible rfl)))); simp only [Act.put, List.setIfInBounds_toArray, List.set_cons_zero, List.set_cons_succ])
          | (refine AnyT.take (i := 7) (v := undef) rfl (by kernel_rfl) (fun _ _ _ h => h) (Or.inr ⟨by rfl, rfl⟩) (by assumption) ?_; simp only [Act.put, List.setIfInBounds_toArray, List.set_cons_zero, List.set_cons_succ])
        first
          | (refine AnyT.take (i := 8) (v := ?_) rfl (by kernel_rfl) (fun _ _ _ h => h) (Or.inl ⟨by rfl, ?_⟩) (by assumption) ?_; rotate_left; (· (intro V hSV; (try dsimp only at hSV); (first | (go_simp; done) | (go_simp; with_reducible rfl)))); simp only [Act.put, List.setIfInBounds_toArray, List.set_cons_zero, List.set_cons_succ])
          | (refine AnyT.take (i := 8) (v := undef) rfl (by kernel_rfl) (fun _ _ _ h => h) (Or.inr ⟨by rfl, rfl⟩) (by assumption) ?_; simp only [Act.put, List.setIfInBounds_toArray, List.set_cons_zero, List.set_cons_succ])
        first
          | (refine AnyT.take (i := 9) (v := ?_) rfl (by kernel_rfl) (fun _ _ _ h => h) (Or.inl ⟨by rfl, ?_⟩) (by assumption) ?_; rotate_left; (· (intro V hSV; (try dsimp only at hSV); (first | (go_simp; done) | (go_simp; with_reducible rfl)))); simp only [Act.put, List.setIfInBounds_toArray, List.set_cons_zero, List.set_cons_succ])
          | (refine AnyT.take (i := 9) (v := undef) rfl (by kernel_rfl) (fun _ _ _ h => h) (Or.inr ⟨by rfl, rfl⟩) (by assumption) ?_; simp only [Act.put, List.setIfInBounds_toArray, List.set_cons_zero, List.set_cons_succ])
        first
          | (refine AnyT.take (i := 10) (v := ?_) rfl (by kernel_rfl) (fun _ _ _ h => h) (Or.inl ⟨by rfl, ?_⟩) (by assumption) ?_; rotate_left; (· (intro V hSV; (try dsimp only at hSV); (first | (go_simp; done) | (go_simp; with_reducible rfl)))); simp only [Act.put, List.setIfInBounds_toArray, List.set_cons_zero, List.set_cons_succ])
          | (refine AnyT.take (i := 10) (v := undef) rfl (by kernel_rfl) (fun _ _ _ h => h) (Or.inr ⟨by rfl, rfl⟩) (by assumption) ?_; simp only [Act.put, List.setIfInBounds_toArray, List.set_cons_zero, List.set_cons_succ])
        first
          | (refine AnyT.take (i := 11) (v := ?_) rfl (by kernel_rfl) (fun _ _ _ h => h) (Or.inl ⟨by rfl, ?_⟩) (by assumption) ?_; rotate_left; (· (intro V hSV; (try dsimp only at hSV); (first | (go_simp; done) | (go_simp; with_reducible rfl)))); simp only [Act.put, List.setIfInBounds_toArray, List.set_cons_zero, List.set_cons_succ])
          | (refine AnyT.take (i := 11) (v := undef) rfl (by kernel_rfl) (fun _ _ _ h => h) (Or.inr ⟨by rfl, rfl⟩) (by assumption) ?_; simp only [Act.put, List.setIfInBounds_toArray, List.set_cons_zero, List.set_cons_succ])
        first
          | (refine AnyT.take (i := 12) (v := ?_) rfl (by kernel_rfl) (fun _ _ _ h => h) (Or.inl ⟨by rfl, ?_⟩) (by assumption) ?_; rotate_left; (· (intro V hSV; (try dsimp only at hSV); (first | (go_simp; done) | (go_simp; with_reducible rfl)))); simp only [Act.put, List.setIfInBounds_toArray, List.set_cons_zero, List.set_cons_succ])
          | (refine AnyT.take (i := 12) (v := undef) rfl (by kernel_rfl) (fun _ _ _ h => h) (Or.inr ⟨by rfl, rfl⟩) (by assumption) ?_; simp only [Act.put, List.setIfInBounds_toArray, List.set_cons_zero, List.set_cons_succ])
        first
          | (refine AnyT.take (i := 14) (v := ?_) rfl (by kernel_rfl) (fun _ _ _ h => h) (Or.inl ⟨by rfl, ?_⟩) (by assumption) ?_; rotate_left; (· (intro V hSV; (try dsimp only at hSV); (first | (go_simp; done) | (go_simp; with_reducible rfl)))); simp only [Act.put, List.setIfInBounds_toArray, List.set_cons_zero, List.set_cons_succ])
          | (refine AnyT.take (i := 14) (v := undef) rfl (by kernel_rfl) (fun _ _ _ h => h) (Or.inr ⟨by rfl, rfl⟩) (by assumption) ?_; simp only [Act.put, List.setIfInBounds_toArray, List.set_cons_zero, List.set_cons_succ])
        first
          | (refine AnyT.take (i := 15) (v := ?_) rfl (by kernel_rfl) (fun _ _ _ h => h) (Or.inl ⟨by rfl, ?_⟩) (by assumption) ?_; rotate_left; (· (intro V hSV; (try dsimp only at hSV); (first | (go_simp; done) | (go_simp; with_reducible rfl)))); simp only [Act.put, List.setIfInBounds_toArray, List.set_cons_zero, List.set_cons_succ])
          | (refine AnyT.take (i := 15) (v := undef) rfl (by kernel_rfl) (fun _ _ _ h => h) (Or.inr ⟨by rfl, rfl⟩) (by assumption) ?_; simp only [Act.put, List.setIfInBounds_toArray, List.set_cons_zero, List.set_cons_succ])
        first
          | (refine AnyT.take (i := 16) (v := ?_) rfl (by kernel_rfl) (fun _ _ _ h => h) (Or.inl ⟨by rfl, ?_⟩) (by assumption) ?_; rotate_left; (· (intro V hSV; (try dsimp only at hSV); (first | (go_simp; done) | (go_simp; with_reducible rfl)))); simp only [Act.put, List.setIfInBounds_toArray, List.set_cons_zero, List.set_cons_succ])
          | (refine AnyT.take (i := 16) (v := undef) rfl (by kernel_rfl) (fun _ _ _ h => h) (Or.inr ⟨by rfl, rfl⟩) (by assumption) ?_; simp only [Act.put, List.setIfInBounds_toArray, List.set_cons_zero, List.set_cons_succ])
        refine AnyT.ready (rs := [13]) (by kernel_rfl) (by simp) (ReadyT.cons rfl (fun K hK => ?_) ReadyT.nil)
        go_simp
        refine (place_isFault F0.out (Keeps.refl _ _).drew (G1.out _ KD.out.drew)).mono ?_
        rintro e w5 ⟨rfl, hK5⟩
        go_wp2_with fail
        have k5 := Lib.hid ((Keeps.refl (fun _ => False) wc).drew.trans hK5 fun _ _ => False.elim)
        have hHeld := (S0.out w5 (KD.out.trans k5.out fun _ _ => False.elim)).2
        clear hK5
        refine hK.out _ _ (fun _ => hHeld) (fun _ => ?_)
        clear hK K
        try simp only [Act.put, List.setIfInBounds_toArray, List.set_cons_zero, List.set_cons_succ]
        first
          | (refine AnyT.take (i := 17) (v := ?_) rfl (by kernel_rfl) (fun _ _ _ h => h) (Or.inl ⟨by rfl, ?_⟩) (by assumption) ?_; rotate_left; (· (intro V hSV; (try dsimp only at hSV); (first | (go_simp; done) | (go_simp; with_reducible rfl)))); simp only [Act.put, List.setIfInBounds_toArray, List.set_cons_zero, List.set_cons_succ])
          | (refine AnyT.take (i := 17) (v := undef) rfl (by kernel_rfl) (fun _ _ _ h => h) (Or.inr ⟨by rfl, rfl⟩) (by assumption) ?_; simp only [Act.put, List.setIfInBounds_toArray, List.set_cons_zero, List.set_cons_succ])
        first
          | (refine AnyT.take (i := 18) (v := ?_) rfl (by kernel_rfl) (fun _ _ _ h => h) (Or.inl ⟨by rfl, ?_⟩) (by assumption) ?_; rotate_left; (· (intro V hSV; (try dsimp only at hSV); (first | (go_simp; done) | (go_simp; with_reducible rfl)))); simp only [Act.put, List.setIfInBounds_toArray, List.set_cons_zero, List.set_cons_succ])
          | (refine AnyT.take (i := 18) (v := undef) rfl (by kernel_rfl) (fun _ _ _ h => h) (Or.inr ⟨by rfl, rfl⟩) (by assumption) ?_; simp only [Act.put, List.setIfInBounds_toArray, List.set_cons_zero, List.set_cons_succ])
        first
          | (refine AnyT.take (i := 19) (v := ?_) rfl (by kernel_rfl) (fun _ _ _ h => h) (Or.inl ⟨by rfl, ?_⟩) (by assumption) ?_; rotate_left; (· (intro V hSV; (try dsimp only at hSV); (first | (go_simp; done) | (go_simp; with_reducible rfl)))); simp only [Act.put, List.setIfInBounds_toArray, List.set_cons_zero, List.set_cons_succ])
          | (refine AnyT.take (i := 19) (v := undef) rfl (by kernel_rfl) (fun _ _ _ h => h) (Or.inr ⟨by rfl, rfl⟩) (by assumption) ?_; simp only [Act.put, List.setIfInBounds_toArray, List.set_cons_zero, List.set_cons_succ])
        refine AnyT.ready (rs := [20]) (by kernel_rfl) (by simp) (ReadyT.cons rfl (fun K hK => ?_) ReadyT.nil)
        go_simp
        refine hK.out _ _ (fun h => absurd h (by simp)) (fun _ => ?_)
        clear hK K
        try simp only [Act.put, List.setIfInBounds_toArray, List.set_cons_zero, List.set_cons_succ]
        refine AnyT.done (by kernel_rfl) ?_ _
        go_wp2_with fail
        go_ret
        exact ⟨rfl, L', hlen.out, (D0.out.later k5.out).after k1'.out⟩
end Go.Proofs.YtjmkfloaagppdaaDoor
