/-
  prog.check, Right by contract.
-/
import Derived.Test.YthidipigpfcbbaaGreatDoorPvRight
import Derived.Test.YthidipigpfcbbaaGreatDoorPvSmall
import Derived.Test.YthidipigpfcbbaaGreatDoorErU
namespace Go.Proofs.YthidipigpfcbbaaGreatDoor
open Go.RowKit Go.Extern.Stop Go.Stop Go.Extern

/-- What is wrong with a statement that has a number and lies so deep. -/
def chk (n d : Nat) (q : Bool) : Nat := if 100 < n then 8 else if 8 < d then 10 else if q = false then 9 else 0

set_option maxRecDepth 100000 in
theorem check_any {w : World} (n d : Nat) (s : St7) (b e : Sl) {ko : Option Addr} {kn kc : Nat} {K : List Int} (hK : IntL w ko kn K) (few : kn ≤ 1000) :
    Calls Tryz.prog 48 #[.int .i64 (n : Int), .int .i64 (d : Int), .agg (stAgg s b e), .slice ko kn kc] w fun e' w' => e' = .returned (.int .i64 (chk n d (one s b.2.1 e.2.1 K) : Nat)) ∧ Keeps (fun _ => False) w w' := by
  have CR := Lib.hid (fun V (q : Keeps (fun _ => False) w V) => right_any (w := V) s b e (kc := kc) (hK.same q) few)
  generalize one s b.2.1 e.2.1 K = q at *
  obtain ⟨k, c, r, ar, an, br, bn⟩ := s
  obtain ⟨x1, x2, x3⟩ := b
  obtain ⟨y1, y2, y3⟩ := e
  unfold stAgg slv at CR
  unfold stAgg slv
  simp only at CR ⊢
  have k1 : Hid (Keeps (fun _ => False) w (w.alloc (.cells #[.int .i64 k, .int .i64 c, .int .i64 r, .int .i64 ar, .int .i64 an, .int .i64 br, .int .i64 bn, .slice x1 x2 x3, .slice y1 y2 y3] 40))) := Lib.hid ((Keeps.refl _ w).alloc _)
  clear hK few
  by_cases h1 : 100 < n
  · have e1 : chk n d q = 8 := by unfold chk; rw [if_pos h1]
    rw [e1]
    have b1 : (100 : Int) < (n : Int) := by omega
    clear e1 CR
    go_enter Tryz.func48, Tryz.ntmps48
    go_wp2_with fail
    go_ret
    exact ⟨rfl, k1.out⟩
  · have b1 : ¬ (100 : Int) < (n : Int) := by omega
    by_cases h2 : 8 < d
    · have e1 : chk n d q = 10 := by unfold chk; rw [if_neg h1, if_pos h2]
      rw [e1]
      have b2 : (8 : Int) < (d : Int) := by omega
      clear e1 CR
      go_enter Tryz.func48, Tryz.ntmps48
      go_wp2_with fail
      go_ret
      exact ⟨rfl, k1.out⟩
    · have b2 : ¬ (8 : Int) < (d : Int) := by omega
      have e1 : chk n d q = if q = false then 9 else 0 := by unfold chk; rw [if_neg h1, if_neg h2]
      rw [e1]
      clear e1
      go_enter Tryz.func48, Tryz.ntmps48
      go_wp2_with fail
      refine (CR.out _ k1.out).mono ?_
      rintro e w2 ⟨rfl, hK⟩
      have K2 := Lib.hid (k1.out.trans hK fun _ _ => id)
      clear hK CR
      cases q with
      | false =>
        go_wp2_with fail
        go_ret
        exact ⟨rfl, K2.out⟩
      | true =>
        go_wp2_with fail
        go_ret
        exact ⟨rfl, K2.out⟩

theorem IntL.keeps {w w' : World} {a : Option Addr} {n : Nat} {K : List Int} {S : Nat → Prop} (h : IntL w a n K) (k : Keeps S w w') (hS : ∀ x, x < w.heap.size → ¬ S x) : IntL w' a n K :=
  ⟨h.len, h.fit, h.none_, fun h0 => by
    obtain ⟨b, o, e, hc⟩ := h.at_ h0
    exact ⟨b, o, e, fun i x hx => (k.cell (cell_lt (hc i x hx)) (hS _ (cell_lt (hc i x hx)))).trans (hc i x hx)⟩⟩
theorem chk_le (n d : Nat) (q : Bool) : chk n d q ≤ 17 := by unfold chk; split <;> (try split) <;> (try split) <;> omega
theorem chk_right (K : List Int) (l : Ln) (t : List Ln) (i : Nat) : rightL K (l :: t) i = if chk (i + 1) l.d (one l.s l.B.len l.E.len K) = 0 then rightL K t (i + 1) else (chk (i + 1) l.d (one l.s l.B.len l.E.len K), i + 1) := by
  unfold chk
  simp only [rightL]
  by_cases h1 : 100 ≤ i
  · rw [if_pos h1, if_pos (show 100 < i + 1 by omega)]; rfl
  · rw [if_neg h1, if_neg (show ¬ 100 < i + 1 by omega)]
    by_cases h2 : 8 < l.d
    · rw [if_pos h2, if_pos h2]; rfl
    · rw [if_neg h2, if_neg h2]
      cases one l.s l.B.len l.E.len K <;> rfl

set_option maxRecDepth 100000 in
theorem right1_any {W : World} (n d : Nat) (s : St7) (b e : Sl) {ko : Option Addr} {kn kc : Nat} {K : List Int} {kb fb : Nat} (hK : IntL W ko kn K) (few : kn ≤ 1000) (hk : Whole W kb 22 #[.slice ko kn kc]) (hf : Whole W fb 34 #[.nilIface]) :
    Calls Tryz.prog 47 #[.int .i64 (n : Int), .int .i64 (d : Int), .agg (stAgg s b e), .pointer (some ⟨kb, 0, none⟩), .pointer (some ⟨fb, 0, none⟩)] W fun e' W' => Keeps (fun x => x = fb) W W' ∧
      ((chk n d (one s b.2.1 e.2.1 K) = 0 ∧ e' = .returned (.bool true) ∧ Whole W' fb 34 #[.nilIface]) ∨ (chk n d (one s b.2.1 e.2.1 K) ≠ 0 ∧ e' = .returned (.bool false) ∧ ∃ ev, Whole W' fb 34 #[ev] ∧ ErrU W.heap.size W' ev (chk n d (one s b.2.1 e.2.1 K)) (n : Int))) := by
  have CC := Lib.hid (fun V (q : Keeps (fun _ => False) W V) => check_any (w := V) n d s b e (kc := kc) (hK.same q) few)
  have cle := chk_le n d (one s b.2.1 e.2.1 K)
  generalize chk n d (one s b.2.1 e.2.1 K) = c at *
  obtain ⟨k, cc, r, ar, an, br, bn⟩ := s
  obtain ⟨x1, x2, x3⟩ := b
  obtain ⟨y1, y2, y3⟩ := e
  unfold stAgg slv at CC
  unfold stAgg slv
  simp only at CC ⊢
  have k1 : Hid (Keeps (fun _ => False) W (W.alloc (.cells #[.int .i64 k, .int .i64 cc, .int .i64 r, .int .i64 ar, .int .i64 an, .int .i64 br, .int .i64 bn, .slice x1 x2 x3, .slice y1 y2 y3] 40))) := Lib.hid ((Keeps.refl _ W).alloc _)
  have c0 : W.cell? ⟨kb, 0, none⟩ = some (.slice ko kn kc) := hk.at_ 0
  have HF := Lib.hid hf
  have lk := hk.lt
  have lf := hf.lt
  clear hK few hk hf
  go_enter Tryz.func47, Tryz.ntmps47
  go_wp2_with fail
  refine (CC.out _ k1.out).mono ?_
  rintro e w2 ⟨rfl, hK⟩
  have K2 := Lib.hid (k1.out.trans hK fun _ _ => id)
  have F2 := Lib.hid (HF.out.keeps K2.out id)
  have f0 : w2.cell? ⟨fb, 0, none⟩ = some .nilIface := F2.out.at_ 0
  have f1 : w2.frozen? ⟨fb, 0, none⟩ = false := F2.out.free 0
  clear hK CC
  by_cases h0 : c = 0
  · have b1 : ((c : Int) != 0) = false := by simp [h0]
    have H0 := Lib.hid h0
    clear h0
    go_wp2_with fail
    go_ret
    exact ⟨K2.out.mono fun _ _ => False.elim, .inl ⟨H0.out, rfl, F2.out⟩⟩
  · have b1 : ((c : Int) != 0) = true := by simp; omega
    have H0 := Lib.hid h0
    have lf2 := F2.out.lt
    clear h0
    go_wp2_with fail
    go_ret
    obtain ⟨ev, hev⟩ : ∃ ev, ev = Value.iface 103 (.pointer (some ⟨w2.heap.size, 0, none⟩)) := ⟨_, rfl⟩
    rw [← hev]
    have kS : Keeps (fun x => x = fb) w2 ((w2.setCell ⟨fb, 0, none⟩ ev).alloc (.cells #[.int .i64 (n : Int), .int .i64 (c : Int)] 105)) := ((Keeps.refl (fun x => x = fb) w2).setCell (p := ⟨fb, 0, none⟩) (fun _ => rfl) _).alloc _
    refine ⟨(K2.out.mono fun _ _ => False.elim : Keeps (fun x => x = fb) W w2).trans kS fun _ _ => id, .inr ⟨H0.out, rfl, ev, (F2.out.set_ 0 ev).alloc _, .inr (.inr ⟨by have := H0.out; omega, cle, w2.heap.size, K2.out.size, hev, ?_⟩)⟩⟩
    have hm := Whole.made (w2.setCell ⟨fb, 0, none⟩ ev) 105 #[.int .i64 (n : Int), .int .i64 (c : Int)]
    have hz : (w2.setCell ⟨fb, 0, none⟩ ev).heap.size = w2.heap.size := by simp [World.setCell]
    rwa [hz] at hm

set_option maxRecDepth 100000 in
theorem right_call {w : World} {v : Value} {F : Fo} {ko : Option Addr} {kn kc : Nat} {K : List Int} (h : SlOf w v F) (hK : IntL w ko kn K) (fk : kn ≤ 20) (few : F.size ≤ 20000) (hd : F.deep ≤ 20000) :
    Calls Tryz.prog 24 #[v, .slice ko kn kc] w fun e w' => ∃ ev, e = .returned ev ∧ ErrU w.heap.size w' ev (right F K).1 ((right F K).2 : Nat) ∧ Keeps (fun _ => False) w w' := by
  obtain ⟨W1, hW1⟩ : ∃ V, V = (w.alloc (.cells #[.slice ko kn kc] 22)).alloc (.cells #[.nilIface] 34) := ⟨_, rfl⟩
  have K1 : Keeps (fun _ => False) w W1 := by rw [hW1]; exact ((Keeps.refl _ w).alloc _).alloc _
  have M1 : Whole W1 w.heap.size 22 #[.slice ko kn kc] := by rw [hW1]; exact (Whole.made _ _ _).alloc _
  have N1 : Whole W1 (w.heap.size + 1) 34 #[.nilIface] := by rw [hW1]; exact made_two w _ _ _
  have s1 : W1.heap.size = w.heap.size + 1 + 1 := by rw [hW1, World.size_alloc, World.size_alloc]
  have LK : Look w W1.heap.size (lin F 1) 47 #[.pointer (some ⟨w.heap.size, 0, none⟩), .pointer (some ⟨w.heap.size + 1, 0, none⟩)]
      (fun i Z W => (Z = fun x => x = w.heap.size + 1) ∧ Whole W (w.heap.size + 1) 34 #[.nilIface] ∧ Whole W w.heap.size 22 #[.slice ko kn kc] ∧ rightL K (lin F 1) 0 = rightL K ((lin F 1).drop i) i)
      (fun W => ∃ ev, Whole W (w.heap.size + 1) 34 #[ev] ∧ ErrU w.heap.size W ev (right F K).1 ((right F K).2 : Nat)) :=
    { enters := enters_of Tryz.func47 (by kernel_rfl) rfl
      low := fun i Z W ⟨hz, hw, _⟩ x hx => by subst hz; subst hx; exact ⟨by omega, hw.lt⟩
      stay := fun i Z W W' ⟨hz, hw, hk, hp⟩ hq => by
        subst hz
        exact ⟨rfl, hw.keeps hq fun hc => hc.2 rfl, hk.keeps hq fun hc => by have := hc.1; omega, hp⟩
      step := fun i l b e Z W hl ⟨hz, hw, hk, hp⟩ hq hB hE => by
        subst hz
        have hdrop : (lin F 1).drop i = l :: (lin F 1).drop (i + 1) := by
          obtain ⟨hlt, e⟩ := List.getElem?_eq_some_iff.1 hl
          rw [List.drop_eq_getElem_cons hlt, e]
        have step := chk_right K l ((lin F 1).drop (i + 1)) i
        rw [← hdrop, ← hp] at step
        have hc := right1_any (i + 1) l.d l.s b e (kc := kc) (hK.keeps hq fun x hx hc => absurd hx (Nat.not_lt.2 hc)) (by omega) hk hw
        rw [hB.count, hE.count] at hc
        refine hc.mono ?_
        rintro e' W' ⟨h1, h2⟩
        rcases h2 with ⟨h3, rfl, h4⟩ | ⟨h3, rfl, ev, h4, h5⟩
        · refine ⟨true, _, rfl, h1, fun x hx => .inl hx, fun _ => ⟨rfl, h4, hk.keeps h1 (by omega), ?_⟩, fun hc => by cases hc⟩
          rw [step, if_pos h3]
        · refine ⟨false, _, rfl, h1, fun x hx => .inl hx, (fun hc => by cases hc), fun _ => ⟨ev, h4, ?_⟩⟩
          have hr : right F K = (chk (i + 1) l.d (one l.s l.B.len l.E.len K), i + 1) := by unfold right; rw [step, if_neg h3]
          rw [hr]
          exact h5.less hq.size }
  have CO := Lib.hid (over_any (w := W1) h (K1.mono fun _ _ => False.elim) (by omega) (by omega) LK ⟨rfl, N1, M1, rfl⟩)
  have hend : rightL K ((lin F 1).drop F.size) F.size = (0, 0) := by rw [List.drop_of_length_le (by rw [lin_len]; exact Nat.le_refl _)]; rfl
  have HE := Lib.hid hend
  have hW1' := Lib.hid hW1
  have K1' := Lib.hid K1
  have S1 := Lib.hid s1
  clear h few hd hW1 K1 M1 N1 LK hend hK s1
  go_enter Tryz.func24, Tryz.ntmps24
  go_upto_region 2 with fail
  rw [← hW1'.out]
  go_wp2_with fail
  refine CO.out.mono ?_
  rintro e w2 ⟨rfl, hK, hR⟩
  have K2 : Hid (Keeps (fun _ => False) w w2) := Lib.hid (K1'.out.trans hK fun x hx hc => by have := S1.out; rcases hc with hc | hc <;> omega)
  clear hK
  rcases hR with ⟨Z, ⟨_, hm, _, hp⟩, _⟩ | ⟨ev, hm, he⟩
  · have c0 : w2.cell? ⟨w.heap.size + 1, 0, none⟩ = some .nilIface := hm.at_ 0
    have hr : Hid (right F K = (0, 0)) := Lib.hid (by unfold right; rw [hp, HE.out])
    clear hm hp
    go_wp2_with fail
    go_ret
    rw [hr.out]
    exact ⟨_, rfl, .inl ⟨rfl, rfl, rfl⟩, K2.out⟩
  · have c0 : w2.cell? ⟨w.heap.size + 1, 0, none⟩ = some ev := hm.at_ 0
    have H2 := Lib.hid he
    clear hm he
    go_wp2_with fail
    go_ret
    exact ⟨_, rfl, H2.out, K2.out⟩
end Go.Proofs.YthidipigpfcbbaaGreatDoor
