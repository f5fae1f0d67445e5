/-
  prog.over by contract, for any look that keeps an invariant.
  prog.Size, Deep, Waits by contract.
-/
import Derived.Test.YthidipigpfcbbaaGreatDoorPvNext
import Derived.Test.YthidipigpfcbbaaGreatDoorPgRef2
import Derived.Shelf.Abstract

namespace Go.Proofs.YthidipigpfcbbaaGreatDoor
open Go.RowKit Go.Extern.Stop Go.Stop Go.Extern

/-- What a look has to answer. w0: the world in which the transaction lay; wn: from which block on the walk's own blocks lie; Z: the blocks that the look changes; Inv: what holds behind so many looks; Fin: what holds where it has answered false. -/
structure Look (w0 : World) (wn : Nat) (L : List Ln) (fn : Nat) (cap : Array Value) (Inv : Nat → (Nat → Prop) → World → Prop) (Fin : World → Prop) : Prop where
  enters : ∀ (args : Array Value) (w : World), (callFunc fn args).run Tryz.prog w = .ok (.enter fn args) w
  low : ∀ (i : Nat) (Z : Nat → Prop) (W : World), Inv i Z W → ∀ x, Z x → w0.heap.size ≤ x ∧ x < W.heap.size
  stay : ∀ (i : Nat) (Z : Nat → Prop) (W W' : World), Inv i Z W → Keeps (fun x => wn ≤ x ∧ ¬ Z x) W W' → Inv i Z W'
  step : ∀ (i : Nat) (l : Ln) (b e : Sl) (Z : Nat → Prop) (W : World), L[i]? = some l → Inv i Z W → Keeps (fun x => w0.heap.size ≤ x) w0 W → SlOf w0 (slv b) l.B → SlOf w0 (slv e) l.E →
    Calls Tryz.prog fn (#[.int .i64 ((i + 1 : Nat) : Int), .int .i64 (l.d : Nat), .agg (stAgg l.s b e)] ++ cap) W fun e' W' => ∃ (go : Bool) (Z' : Nat → Prop), e' = .returned (.bool go) ∧ Keeps Z W W' ∧ (∀ x, Z' x → Z x ∨ W.heap.size ≤ x) ∧ (go = true → Inv (i + 1) Z' W') ∧ (go = false → Fin W')

set_option maxRecDepth 100000 in
set_option maxHeartbeats 2000000 in
theorem over_any {w0 w : World} {v : Value} {F : Fo} {fn : Nat} {cap : Array Value} {Inv : Nat → (Nat → Prop) → World → Prop} {Fin : World → Prop} {Z0 : Nat → Prop} (h : SlOf w0 v F) (hk : Keeps (fun x => w0.heap.size ≤ x) w0 w) (few : F.size ≤ 20000) (hd : F.deep ≤ 20000) (hL : Look w0 w.heap.size (lin F 1) fn cap Inv Fin) (h0 : Inv 0 Z0 w) :
    Calls Tryz.prog 46 #[v, .func (.func fn) #[] cap] w fun e w' => e = .returned (.tuple #[]) ∧ Keeps (fun x => Z0 x ∨ w.heap.size ≤ x) w w' ∧ ((∃ Z, Inv F.size Z w' ∧ ∀ x, Z x → Z0 x ∨ w.heap.size ≤ x) ∨ Fin w') := by
  have hs := hk.size
  have hll := lin_len F 1
  have hdd : Hid (∀ (i : Nat) (l : Ln), (lin F 1)[i]? = some l → l.d ≤ 21000) := Lib.hid fun i l hl => by have := (lin_deep F 1 l (List.mem_of_getElem? hl)).2; omega
  have hlow0 := hL.low 0 Z0 w h0
  have hent := hL.enters
  have hst : ∀ (V : World) (a : Addr) (m : Mode), (store a (.func (.func fn) #[] cap) m).run Tryz.prog V = stored Tryz.prog V a (.func (.func fn) #[] cap) m := fun V a m => run_store Tryz.prog V a _ m rfl
  obtain ⟨W1, hW1⟩ : ∃ V, V = w.alloc (.cells #[.func (.func fn) #[] cap, .slice none 0 0] 133) := ⟨_, rfl⟩
  have K1 : Keeps (fun _ => False) w W1 := by rw [hW1]; exact (Keeps.refl _ w).alloc _
  have s1 : W1.heap.size = w.heap.size + 1 := by rw [hW1, World.size_alloc]
  have G1 : Wk w0 W1 w.heap.size (.func (.func fn) #[] cap) [] [] none 0 0 := ⟨by rw [hW1]; exact Whole.made _ _ _, World.ownsRow_nil .., rfl, trivial, fun x hx => by cases hx⟩
  have P1 := Lib.hid (push_any (d := 1) G1 (by omega) h)
  have HK := Lib.hid hk
  have HL := Lib.hid hL
  have I1 := Lib.hid (hL.stay 0 Z0 w W1 h0 (K1.mono fun _ _ => False.elim))
  have KW := Lib.hid K1
  have hW1' := Lib.hid hW1
  have HZ := Lib.hid hlow0
  have hz : Hid ((lin F 1).length = F.size) := Lib.hid hll
  obtain ⟨L, hL'⟩ : ∃ L, lin F 1 = L := ⟨_, rfl⟩
  have TD : Hid (todo (pushL F 1 []) = L) := Lib.hid (by rw [todo_push, hL']; simp [todo])
  obtain ⟨N, hN⟩ : ∃ N, F.size = N := ⟨_, rfl⟩
  obtain ⟨wb, hwb⟩ : ∃ b, w.heap.size = b := ⟨_, rfl⟩
  rw [hL'] at HL hdd hz
  rw [hN] at hz few ⊢
  rw [hwb] at HL P1 HZ
  have HWB := Lib.hid hwb
  have S1 := Lib.hid s1
  clear h hk hd hL h0 hs hll hlow0 K1 G1 hW1 hL' hN s1
  go_enter Tryz.func46, Tryz.ntmps46
  go_upto_region 1 with fail
  rw [← hW1'.out]
  clear hwb hst
  go_wp2_with fail
  refine P1.out.mono ?_
  rintro e W2 ⟨rfl, us, lo, n, c, hG, hK, hY⟩
  have G2 := Lib.hid hG
  have K2 : Hid (Keeps (fun x => Z0 x ∨ wb ≤ x) w W2) := Lib.hid ((KW.out.mono fun _ _ => False.elim : Keeps (fun x => Z0 x ∨ wb ≤ x) w W1).trans hK fun x hx hq => by
    have := HWB.out
    rcases hq with rfl | ⟨a, e, _⟩
    · exact .inr (Nat.le_refl _)
    · cases e)
  have Y2 : Hid (∀ x, Ys wb lo x → wb ≤ x ∧ ¬ Z0 x) := Lib.hid fun x hx => by
    have h1 : wb ≤ x := by
      rcases hY x hx with (rfl | ⟨a, e, _⟩) | h
      · exact Nat.le_refl _
      · cases e
      · have := S1.out; have := HWB.out; omega
    refine ⟨h1, fun hz => ?_⟩
    have := (HZ.out x hz).2
    have := HWB.out
    omega
  have I2 := Lib.hid (HL.out.stay 0 Z0 W1 W2 I1.out (hK.mono fun x hx hq => by
    have := HWB.out
    have h1 : wb ≤ x := by
      rcases hq with rfl | ⟨a, e, _⟩
      · exact Nat.le_refl _
      · cases e
    exact ⟨h1, fun hz => by have := (HZ.out x hz).2; omega⟩))
  clear hG hK hY P1 KW hW1' I1
  go_wp2_with fail
  go_loopw [5, 6, 7] (fun nv sv dv wr => ∃ (i q n c : Nat) (us : List PtV) (s : Lf) (lo : Option Addr) (Z : Nat → Prop), nv = .int .i64 (q : Int) ∧ i + 1 = q ∧ i ≤ N ∧ L.drop i = todo s ∧ Wk w0 wr wb (.func (.func fn) #[] cap) us s lo n c ∧ Inv i Z wr ∧ Keeps (fun x => Z0 x ∨ wb ≤ x) w wr ∧ (∀ x, Z x → Z0 x ∨ wb ≤ x) ∧ (∀ x, Ys wb lo x → wb ≤ x ∧ ¬ Z x)) (fun nv _ _ _ => N + 1 - (intOf nv).toNat)
  case atStart => exact ⟨0, 1, n, c, us, _, lo, Z0, rfl, rfl, Nat.zero_le _, TD.out.symm, G2.out, I2.out, K2.out, fun x hx => .inl hx, Y2.out⟩
  case round =>
    obtain ⟨i, q, n, c, us, s, lo, Z, rfl, hq, hi, htd, hG, hI, hK, hZ, hY⟩ := hrel
    have hk' : Hid (Keeps (fun x => w0.heap.size ≤ x) w0 wr) := Lib.hid (HK.out.trans hK fun x hx q => by
      rcases q with q | q
      · exact (HZ.out x q).1
      · have := HK.out.size; have := HWB.out; omega)
    have hlen : n ≤ 20000 ∧ n + i ≤ N ∧ (s = [] → n = 0 ∧ i = N) ∧ (s ≠ [] → 0 < n ∧ i < N) := by
      have h1 := full_len hG.full
      rw [← htd, List.length_drop, hz.out] at h1
      have h2 := hG.st.len
      rw [hG.len] at h2
      refine ⟨by omega, by omega, fun e => ?_, fun e => ?_⟩
      · subst e
        have h3 := congrArg List.length htd
        rw [List.length_drop, hz.out] at h3
        simp [todo] at h3 h2
        exact ⟨h2, by omega⟩
      · have := List.length_pos_iff.2 e
        exact ⟨by omega, by omega⟩
    have G3 := Lib.hid hG
    have I3 := Lib.hid hI
    have K3 := Lib.hid hK
    have Z3 := Lib.hid hZ
    have Y3 := Lib.hid hY
    have c1 : wr.cell? ⟨wb, 1, none⟩ = some (.slice lo n c) := hG.box.at_ 1
    cases s with
    | nil =>
      obtain ⟨_, _, h3, _⟩ := hlen
      obtain ⟨rfl, rfl⟩ := h3 rfl
      clear htd hG hI hK hZ hY
      go_wp2_with fail
      go_end0
      rw [HWB.out]
      exact ⟨rfl, K3.out, .inl ⟨Z, I3.out, Z3.out⟩⟩
    | cons x t =>
      obtain ⟨h1, h2, _, h3⟩ := hlen
      obtain ⟨h4, h5⟩ := h3 (by simp)
      obtain ⟨F', d⟩ := x
      obtain ⟨st, B, E, R, rfl⟩ : ∃ st B E R, F' = .cons st B E R := by
        cases F' with
        | nil => exact absurd rfl (hG.full (.nil, d) (by simp))
        | cons st B E R => exact ⟨st, B, E, R, rfl⟩
      have hl : L[i]? = some ⟨st, B, E, d⟩ := by
        have := congrArg (fun q => q[0]?) htd
        simp only [List.getElem?_drop, Nat.add_zero] at this
        rw [this, todo_next]
        rfl
      have htd' : Hid (L.drop (i + 1) = todo (pushL B (d + 1) (pushL E (d + 1) (pushL R d t)))) := Lib.hid (by
        rw [← List.drop_drop, htd, todo_next]
        rfl)
      have d1000 := hdd.out i _ hl
      simp only at d1000
      have b1 : (0 : Int) < (n : Int) := by omega
      have NX := Lib.hid (next_any hG (by omega) hk'.out (fun x hx => by have := (hY x hx).1; have := HWB.out; have := HK.out.size; omega))
      have hl' := Lib.hid hl
      have h5' := Lib.hid h5
      have hn1 := Lib.hid h1
      have hq' := Lib.hid hq
      clear htd hG hI hK hZ hY h1 h2 h3 h4 hl h5 hq
      go_wp2_with fail
      refine NX.out.mono ?_
      rintro e W3 ⟨b, e', rfl, hB, hE, ⟨us3, n3, hG, hn3⟩, hK⟩
      have G4 := Lib.hid hG
      have HB := Lib.hid hB
      have HE := Lib.hid hE
      have K4 := Lib.hid hK
      clear hB hE hG hK NX
      have ls := Lib.hid G4.out.box.lt
      obtain ⟨k, cc, r', ar, an, br, bn⟩ := st
      obtain ⟨b1', b2, b3⟩ := b
      obtain ⟨e1, e2, e3⟩ := e'
      have CB := Lib.hid (fun W (k1 : Inv i Z W) k2 => HL.out.step i _ (b1', b2, b3) (e1, e2, e3) Z W hl'.out k1 k2 HB.out HE.out)
      rw [hq'.out] at CB
      unfold stAgg slv at CB
      unfold stAgg slv
      simp only at CB ⊢
      go_upto_region 6 with fail
      obtain ⟨W4, hW4⟩ : ∃ V, V = W3.alloc (.cells #[.int .i64 k, .int .i64 cc, .int .i64 r', .int .i64 ar, .int .i64 an, .int .i64 br, .int .i64 bn, .slice b1' b2 b3, .slice e1 e2 e3] 40) := ⟨_, rfl⟩
      have S4 : Whole W4 W3.heap.size 40 #[.int .i64 k, .int .i64 cc, .int .i64 r', .int .i64 ar, .int .i64 an, .int .i64 br, .int .i64 bn, .slice b1' b2 b3, .slice e1 e2 e3] := by rw [hW4]; exact Whole.made _ _ _
      have k4 : Keeps (fun _ => False) W3 W4 := by rw [hW4]; exact (Keeps.refl _ W3).alloc _
      have KK : Keeps (fun x => Z0 x ∨ wb ≤ x) w W4 := (K3.out.trans K4.out fun x _ hy => .inr (Y3.out x hy).1).trans k4 fun _ _ => False.elim
      have I4 := HL.out.stay i Z wr W4 I3.out ((K4.out.mono fun x _ hy => Y3.out x hy : Keeps (fun x => wb ≤ x ∧ ¬ Z x) wr W3).trans k4 fun _ _ => False.elim)
      have D4 : Keeps (fun x => w0.heap.size ≤ x) w0 W4 := HK.out.trans KK fun x hx hq => by
        rcases hq with hq | hq
        · exact (HZ.out x hq).1
        · have := HK.out.size; have := HWB.out; omega
      have CC := Lib.hid (CB.out W4 I4 D4)
      have G5 := Lib.hid (G4.out.keeps k4 fun _ _ => id)
      have sz4 : W3.heap.size < W4.heap.size := S4.lt
      obtain ⟨sb, hsb⟩ : ∃ b, W3.heap.size = b := ⟨_, rfl⟩
      rw [hsb] at S4 sz4
      have m0 : W4.cell? ⟨sb, 0, none⟩ = some (.int .i64 k) := S4.at_ 0
      have m1 : W4.cell? ⟨sb, 1, none⟩ = some (.int .i64 cc) := S4.at_ 1
      have m2 : W4.cell? ⟨sb, 2, none⟩ = some (.int .i64 r') := S4.at_ 2
      have m3 : W4.cell? ⟨sb, 3, none⟩ = some (.int .i64 ar) := S4.at_ 3
      have m4 : W4.cell? ⟨sb, 4, none⟩ = some (.int .i64 an) := S4.at_ 4
      have m5 : W4.cell? ⟨sb, 5, none⟩ = some (.int .i64 br) := S4.at_ 5
      have m6 : W4.cell? ⟨sb, 6, none⟩ = some (.int .i64 bn) := S4.at_ 6
      have m7 : W4.cell? ⟨sb, 7, none⟩ = some (.slice b1' b2 b3) := S4.at_ 7
      have m8 : W4.cell? ⟨sb, 8, none⟩ = some (.slice e1 e2 e3) := S4.at_ 8
      have j0 : W4.cell? ⟨wb, 0, none⟩ = some (.func (.func fn) #[] cap) := G5.out.box.at_ 0
      rw [← hW4]
      rw [hsb]
      have HSB := Lib.hid hsb
      have S5 := Lib.hid S4
      have KK5 := Lib.hid KK
      have k45 := Lib.hid k4
      have hsz := Lib.hid sz4
      clear hW4 I4 D4 CB KK k4 S4 c1 sz4 hsb
      go_wp2_with fail
      refine CC.out.mono ?_
      rintro e W5 ⟨go, Z', rfl, hK, hZ', hgo, hno⟩
      have hKK := Lib.hid hK
      have HZ' := Lib.hid hZ'
      have H1 := Lib.hid hgo
      have H2 := Lib.hid hno
      clear hK hZ' hgo hno CC m0 m1 m2 m3 m4 m5 m6 m7 m8 j0
      cases go with
      | false =>
        go_wp2_with fail
        refine bodyPost_ret (results_none rfl _ _ _) rfl ?_
        rw [HWB.out]
        exact ⟨rfl, KK5.out.trans hKK.out fun x _ hx => Z3.out x hx, .inr (H2.out (by simp))⟩
      | true =>
        have I5 : Inv (i + 1) Z' W5 := by rw [hq'.out]; exact H1.out (by simp)
        have zlow : ∀ x, Z x → x < sb := fun x hx => by
          have h1 := (HL.out.low i Z wr I3.out x hx).2
          have h2 := K4.out.size
          have h3 := HSB.out
          omega
        have ylow : ∀ x, Ys wb lo x → x < sb := fun x hx => by
          have h1 := G4.out.lt x hx
          have h3 := HSB.out
          omega
        have S6 := S5.out.keeps hKK.out fun h => Nat.lt_irrefl _ (zlow sb h)
        have G6 := G5.out.keeps hKK.out fun x hx => (Y3.out x hx).2
        have Y6 : ∀ x, Ys wb lo x → wb ≤ x ∧ ¬ Z' x := fun x hx => ⟨(Y3.out x hx).1, fun hz => by
          rcases HZ'.out x hz with h | h
          · exact (Y3.out x hx).2 h
          · have := ylow x hx; have := hsz.out; omega⟩
        have K6 : Keeps (fun x => Z0 x ∨ wb ≤ x) w W5 := KK5.out.trans hKK.out fun x _ hx => Z3.out x hx
        have n6 : n3 ≤ t.length + 1 := by
          have h1 := G6.st.len
          have h2 := pushL_len R d t
          rw [G6.len] at h1
          omega
        have nt : t.length + 1 ≤ 20000 := by
          have h1 := G3.out.st.len
          rw [G3.out.len, List.length_cons] at h1
          have := hn1.out
          omega
        have PE := Lib.hid (push_any (d := d + 1) G6 (by omega) HE.out)
        have zlow' := HL.out.low (i + 1) Z' W5 I5
        have ws : wb < W5.heap.size := G6.box.lt
        have z8 : W5.cell? ⟨sb, 8, none⟩ = some (.slice e1 e2 e3) := S6.at_ 8
        have wd : IntKind.i64.wrap ((d : Int) + 1) = ((d + 1 : Nat) : Int) := by rw [show (d : Int) + 1 = ((d + 1 : Nat) : Int) by omega]; exact IntWalk.i64_in _ (by omega)
        have wq : IntKind.i64.wrap ((q : Int) + 1) = ((q + 1 : Nat) : Int) := by
          have := hq'.out; have := h5'.out
          rw [show (q : Int) + 1 = ((q + 1 : Nat) : Int) by omega]; exact IntWalk.i64_in _ (by omega)
        have S6 := Lib.hid S6
        have Y6 := Lib.hid Y6
        have K6 := Lib.hid K6
        have I6 := Lib.hid I5
        have ZL := Lib.hid zlow'
        have YL := Lib.hid ylow
        have WS := Lib.hid ws
        have NT := Lib.hid nt
        clear zlow ylow G6 I5 zlow' ws n6 nt
        unfold slv at PE
        simp only at PE
        go_wp2_with fail
        refine PE.out.mono ?_
        rintro e W6 ⟨rfl, us6, lo6, n6, c6, hG, hK, hY⟩
        have S7 := S6.out.keeps hK fun h => Nat.lt_irrefl _ (YL.out sb h)
        have I7 := HL.out.stay (i + 1) Z' W5 W6 I6.out (hK.mono fun x _ hx => Y6.out x hx)
        have Y7 : ∀ x, Ys wb lo6 x → wb ≤ x ∧ ¬ Z' x := fun x hx => by
          rcases hY x hx with h | h
          · exact Y6.out x h
          · exact ⟨by have := WS.out; omega, fun hz => by have := (ZL.out x hz).2; omega⟩
        have K7 : Keeps (fun x => Z0 x ∨ wb ≤ x) w W6 := K6.out.trans hK fun x _ hx => .inr (Y6.out x hx).1
        have l6 : n6 ≤ t.length + 2 := by
          have h1 := hG.st.len
          have h2 := pushL_len R d t
          have h3 := pushL_len E (d + 1) (pushL R d t)
          rw [hG.len] at h1
          omega
        have PB := Lib.hid (push_any (d := d + 1) hG (by have := NT.out; omega) HB.out)
        have z7 : W6.cell? ⟨sb, 7, none⟩ = some (.slice b1' b2 b3) := S7.at_ 7
        have zl7 := Lib.hid (HL.out.low (i + 1) Z' W6 I7)
        have ws7 := Lib.hid hG.box.lt
        have I7 := Lib.hid I7
        have Y7 := Lib.hid Y7
        have K7 := Lib.hid K7
        clear hG hK hY S7 z8 l6 PE
        unfold slv at PB
        simp only at PB
        go_wp2_with fail
        refine PB.out.mono ?_
        rintro e W7 ⟨rfl, us7, lo7, n7, c7, hG, hK, hY⟩
        have I8 := Lib.hid (HL.out.stay (i + 1) Z' W6 W7 I7.out (hK.mono fun x _ hx => Y7.out x hx))
        have Y8 : Hid (∀ x, Ys wb lo7 x → wb ≤ x ∧ ¬ Z' x) := Lib.hid fun x hx => by
          rcases hY x hx with h | h
          · exact Y7.out x h
          · exact ⟨by have := ws7.out; omega, fun hz => by have := (zl7.out x hz).2; omega⟩
        have K8 : Hid (Keeps (fun x => Z0 x ∨ wb ≤ x) w W7) := Lib.hid (K7.out.trans hK fun x _ hx => .inr (Y7.out x hx).1)
        have G8 := Lib.hid hG
        have Z8 : Hid (∀ x, Z' x → Z0 x ∨ wb ≤ x) := Lib.hid fun x hx => by
          rcases HZ'.out x hx with h | h
          · exact Z3.out x h
          · have := G5.out.box.lt; exact .inr (by omega)
        clear hG hK hY PB z7
        go_wp2_with fail
        go_roundw
        case rel => exact ⟨i + 1, q + 1, n7, c7, us7, _, lo7, Z', by go_num, by have := hq'.out; omega, by have := h5'.out; omega, htd'.out, G8.out, I8.out, K8.out, Z8.out, Y8.out⟩
        case measure => have := hq'.out; have := h5'.out; simp [intOf]; omega
end Go.Proofs.YthidipigpfcbbaaGreatDoor

namespace Go.Proofs.YthidipigpfcbbaaGreatDoor
open Go.RowKit Go.Extern.Stop Go.Stop Go.Extern

/-- A look that changes one block alone, whose single cell tells what it has seen. -/
theorem one_block {w0 : World} {wn : Nat} {L : List Ln} {fn : Nat} {cap : Array Value} {sb : Nat} {ty : TypeId} (f : Nat → Value) (P : Nat → Prop) {Fin : World → Prop} (he : ∀ (args : Array Value) (w : World), (callFunc fn args).run Tryz.prog w = .ok (.enter fn args) w) (h0 : w0.heap.size ≤ sb)
    (hs : ∀ (i : Nat) (l : Ln) (b e : Sl) (W : World), L[i]? = some l → P i → Whole W sb ty #[f i] → Calls Tryz.prog fn (#[.int .i64 ((i + 1 : Nat) : Int), .int .i64 (l.d : Nat), .agg (stAgg l.s b e)] ++ cap) W fun e' W' => ∃ go : Bool, e' = .returned (.bool go) ∧ Keeps (fun x => x = sb) W W' ∧ (go = true → Whole W' sb ty #[f (i + 1)] ∧ P (i + 1)) ∧ (go = false → Fin W')) :
    Look w0 wn L fn cap (fun i Z W => (Z = fun x => x = sb) ∧ Whole W sb ty #[f i] ∧ P i) Fin where
  enters := he
  low := fun i Z W ⟨hz, hw, _⟩ x hx => by subst hz; subst hx; exact ⟨h0, hw.lt⟩
  stay := fun i Z W W' ⟨hz, hw, hp⟩ hk => ⟨hz, hw.keeps hk fun hc => (by subst hz; exact hc.2 rfl), hp⟩
  step := fun i l b e Z W hl ⟨hz, hw, hp⟩ hk hB hE => by
    refine (hs i l b e W hl hp hw).mono ?_
    rintro e' W' ⟨go, h1, h2, h3, h4⟩
    subst hz
    exact ⟨go, _, h1, h2, fun x hx => .inl hx, fun hg => ⟨rfl, h3 hg⟩, h4⟩

end Go.Proofs.YthidipigpfcbbaaGreatDoor
