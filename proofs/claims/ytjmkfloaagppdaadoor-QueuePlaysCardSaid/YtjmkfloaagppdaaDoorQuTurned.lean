/-
  QueueTurned: called with any timers and any number, concordlaw04.QueueTurned returns true and changes nothing; the library's variable errors.errorType holds what the program's text lays in it (the card ties it). The card says nothing of code outside the pruned copy.
-/
import Derived.Test.YtjmkfloaagppdaaDoorQuSort
import Derived.Test.YtjmkfloaagppdaaDoorQuFull
import Derived.Test.YtjmkfloaagppdaaDoorQuArgs
namespace Go.Proofs.YtjmkfloaagppdaaDoor
open Go.RowKit Go.Extern.Stop Go.Stop Go.Extern
open Go.ChangeShapes Go.WideShapes Go.ChangeAt Go.Deep

theorem Once.ne {l : List Tm} (h : Once l) {i j : Nat} (hi : i < l.length) (hj : j < l.length) (hne : i ≠ j) : (at_ l i).2 ≠ (at_ l j).2 := by
  unfold Once List.Nodup at h
  have h' := List.pairwise_iff_getElem.1 h
  have e : ∀ k (hk : k < l.length), (l.map (·.2))[k]'(by simpa using hk) = (at_ l k).2 := fun k hk => by
    rw [List.getElem_map, at_eq (List.getElem?_eq_getElem hk)]
  rcases Nat.lt_or_ge i j with c | c
  · have := h' i j (by simpa using hi) (by simpa using hj) c
    rwa [e i hi, e j hj] at this
  · have := h' j i (by simpa using hj) (by simpa using hi) (by omega)
    rw [e i hi, e j hj] at this
    exact fun e => this e.symm
theorem Once.of {l : List Tm} (h : ∀ i, i < l.length → ∀ k, k < i → (at_ l i).2 ≠ (at_ l k).2) : Once l := by
  unfold Once List.Nodup
  refine List.pairwise_iff_getElem.2 fun i j hi hj hij e => ?_
  rw [List.length_map] at hi hj
  rw [List.getElem_map, List.getElem_map] at e
  refine h j hj i hij ?_
  rw [at_eq (List.getElem?_eq_getElem hi), at_eq (List.getElem?_eq_getElem hj)]
  exact e.symm
theorem take_lacks {m : List Tm} (h : Once m) {i : Nat} (hi : i < m.length) : ∀ u ∈ m.take i, u.2 ≠ (at_ m i).2 := by
  intro u hu
  obtain ⟨j, hj, rfl⟩ := at_of_mem hu
  have hj' : j < i := by rw [List.length_take] at hj; omega
  have e : at_ (m.take i) j = at_ m j := at_eq (by rw [List.getElem?_take_of_lt hj']; exact at_some (by omega))
  rw [e]
  exact h.ne (by omega) hi (by omega)
theorem take_next {m : List Tm} {i : Nat} (hi : i < m.length) : m.take (i + 1) = m.take i ++ [at_ m i] := by
  rw [List.take_add_one, at_some hi]
  rfl

/-- A list turned by k. -/
def turned (l : List Tm) (k : Nat) : List Tm := l.drop k ++ l.take k
theorem turned_perm (l : List Tm) (k : Nat) : (turned l k).Perm l := by
  unfold turned
  refine List.perm_append_comm.trans ?_
  rw [List.take_append_drop]
theorem turned_at {l : List Tm} {k i : Nat} (hk : k < l.length) (hi : i < l.length) : at_ (turned l k) i = at_ l ((i + k) % l.length) := by
  unfold turned
  rcases Nat.lt_or_ge (i + k) l.length with h | h
  · rw [Nat.mod_eq_of_lt h]
    refine at_eq ?_
    rw [List.getElem?_append_left (by rw [List.length_drop]; omega), List.getElem?_drop, Nat.add_comm k i]
    exact at_some h
  · rw [Nat.mod_eq_sub_mod h, Nat.mod_eq_of_lt (by omega)]
    refine at_eq ?_
    rw [List.getElem?_append_right (by rw [List.length_drop]; omega), List.length_drop, List.getElem?_take_of_lt (by omega)]
    rw [show i - (l.length - k) = i + k - l.length by omega]
    exact at_some (by omega)

/-- Two queues, apart from one another and from all that was there. -/
structure Both (w wr : World) (p q : Nat) (LP LQ : List Tm) (XP XQ : Nat → Prop) : Prop where
  P : Qu wr p LP XP
  Q : Qu wr q LQ XQ
  nP : ∀ x, XP x → w.heap.size ≤ x
  nQ : ∀ x, XQ x → w.heap.size ≤ x
  ap : ∀ x, XP x → ¬ XQ x
  keeps : Keeps (fun _ => False) w wr

theorem Both.pushP {w wr w' : World} {p q : Nat} {LP LQ LP' : List Tm} {XP XQ : Nat → Prop} (h : Both w wr p q LP LQ XP XQ) (hW : Went wr p LP' XP w') : ∃ XP', Both w w' p q LP' LQ XP' XQ := by
  obtain ⟨⟨X', hQ, hX⟩, hK⟩ := hW
  refine ⟨X', hQ, h.Q.keeps hK fun x hq hp => h.ap x hp hq, fun x hx => (hX x hx).elim (h.nP x) fun g => Nat.le_trans h.keeps.size g, h.nQ, fun x hx hq => (hX x hx).elim (fun g => h.ap x g hq) fun g => absurd (h.Q.old x hq) (Nat.not_lt.2 g), h.keeps.trans hK fun x hx g => absurd hx (Nat.not_lt.2 (h.nP x g))⟩
theorem Both.turn {w wr : World} {p q : Nat} {LP LQ : List Tm} {XP XQ : Nat → Prop} (h : Both w wr p q LP LQ XP XQ) : Both w wr q p LQ LP XQ XP := ⟨h.Q, h.P, h.nQ, h.nP, fun x hq hp => h.ap x hp hq, h.keeps⟩
theorem Both.pushQ {w wr w' : World} {p q : Nat} {LP LQ LQ' : List Tm} {XP XQ : Nat → Prop} (h : Both w wr p q LP LQ XP XQ) (hW : Went wr q LQ' XQ w') : ∃ XQ', Both w w' p q LP LQ' XP XQ' := by
  obtain ⟨X', h'⟩ := h.turn.pushP hW
  exact ⟨X', h'.turn⟩
theorem Both.same {w wr w' : World} {p q : Nat} {LP LQ : List Tm} {XP XQ : Nat → Prop} (h : Both w wr p q LP LQ XP XQ) (k : Keeps (fun _ => False) wr w') : Both w w' p q LP LQ XP XQ :=
  ⟨h.P.same k, h.Q.same k, h.nP, h.nQ, h.ap, h.keeps.trans k fun _ _ => False.elim⟩

theorem ins_snoc {L m : List Tm} {t : Tm} (h : L.Perm m) : (ins t L).Perm (m ++ [t]) :=
  (ins_perm t L).trans ((h.cons t).trans (List.perm_append_singleton t m).symm)

set_option maxRecDepth 100000 in
set_option maxHeartbeats 1000000 in
theorem queueTurned_walk (a0 : Option Addr) (len0 cap0 : Nat) (a1 : Int) (w : World) (_w0 : Tms w a0 len0 cap0) (_w1 : (Lit.int .i64 a1).wf = true) (hg : Glob w) :
    Calls Tryd.prog 5 #[.slice a0 len0 cap0, .int .i64 a1] w fun e w' => e = .returned (.bool true) ∧ Below w.heap.size w w' := by
  obtain ⟨l, hl, hwf, hR⟩ := _w0.list
  have hcap := _w0.le
  have al := Lib.hid (fun W (k : Keeps (fun _ => False) w W) => alive4 W (hg.keeps k id))
  have R0 := Lib.hid hR
  have wf0 := Lib.hid hwf
  have hl0 := Lib.hid hl
  clear hg _w0 hR hwf hl
  by_cases c0 : 60 < len0 ∨ len0 = 0
  · have c0' : ((60 : Int) < (len0 : Int)) ∨ (len0 : Int) = 0 := by omega
    rcases c0' with c | c
    · go_enter Tryd.func5, Tryd.ntmps5
      go_wp2_with (go_at_call 10; refine (al.out _ (Keeps.refl _ _)).mono ?_; rintro e w1 ⟨rfl, hK⟩)
      go_ret
      exact ⟨rfl, hK.below (Nat.le_refl _) fun _ _ => id⟩
    · have c' : ¬ (60 : Int) < (len0 : Int) := by omega
      go_enter Tryd.func5, Tryd.ntmps5
      go_wp2_with (go_at_call 10; refine (al.out _ (Keeps.refl _ _)).mono ?_; rintro e w1 ⟨rfl, hK⟩)
      go_ret
      exact ⟨rfl, hK.below (Nat.le_refl _) fun _ _ => id⟩
  · have c1 : ¬ (60 : Int) < (len0 : Int) := by omega
    have c2 : ¬ (len0 : Int) = 0 := by omega
    go_enter Tryd.func5, Tryd.ntmps5
    go_wp2_with fail
    go_loopw [22] (fun iv wr => ∃ i : Nat, iv = .int .i64 i ∧ i ≤ len0 ∧ (∀ j, j < i → ∀ k, k < j → (at_ l j).2 ≠ (at_ l k).2) ∧ Keeps (fun _ => False) w wr) (fun iv _ => len0 - (intOf iv).toNat)
    case atStart => exact ⟨0, rfl, Nat.zero_le _, fun j h => absurd h (Nat.not_lt_zero _), Keeps.refl _ _⟩
    case round =>
      obtain ⟨i, rfl, hi, hD, hK⟩ := hrel
      have D1 := Lib.hid hD
      have K1 := Lib.hid hK
      clear hD hK
      obtain ⟨wo, rfl⟩ : ∃ wo : World, wo = wr := ⟨_, rfl⟩
      by_cases hin : i < len0
      · have hin' : (i : Int) < (len0 : Int) := by omega
        have hic : i ≤ cap0 := by omega
        have hic' : (i : Int) ≤ (cap0 : Int) := by omega
        obtain ⟨b, off, rfl, x0, x1⟩ := R0.out.at_ i (by rw [hl0.out]; exact hin)
        go_wp2_with fail
        go_loopw [29] (fun kv w2 => ∃ k : Nat, kv = .int .i64 k ∧ k ≤ i ∧ (∀ j, j < k → (at_ l i).2 ≠ (at_ l j).2) ∧ Keeps (fun _ => False) w w2) (fun kv _ => i - (intOf kv).toNat)
        case atStart => exact ⟨0, rfl, Nat.zero_le _, fun j h => absurd h (Nat.not_lt_zero _), K1.out⟩
        case round =>
          obtain ⟨k, rfl, hk, hE, hK⟩ := hrel
          have E2 := Lib.hid hE
          have K2 := Lib.hid hK
          clear hE hK
          by_cases hki : k < i
          · have hki' : (k : Int) < (i : Int) := by omega
            have hkl : (k : Int) < (len0 : Int) := by omega
            obtain ⟨b', off', hbo, y0, y1⟩ := R0.out.at_ k (by rw [hl0.out]; omega)
            simp only [Option.some.injEq, Addr.mk.injEq, and_true] at hbo
            obtain ⟨rfl, rfl⟩ := hbo
            have K3 := K2.out.drew
            have z1 := (K3.cell (p := ⟨b, off + i * 2 + 1, none⟩) (cell_lt x1) id).trans x1
            have z2 := (K3.cell (p := ⟨b, off + k * 2 + 1, none⟩) (cell_lt y1) id).trans y1
            have K4 := Lib.hid K3
            clear K3
            obtain ⟨p, hp⟩ : ∃ p, (at_ l i).2 = p := ⟨_, rfl⟩
            obtain ⟨q, hq⟩ : ∃ q, (at_ l k).2 = q := ⟨_, rfl⟩
            rw [hp] at z1
            rw [hq] at z2
            have hp' := Lib.hid hp
            have hq' := Lib.hid hq
            clear hp hq
            by_cases hpq : p = q
            · have hb : (p == q) = true := by simpa using hpq
              subst hpq
              go_wp2_with fail
              go_region
              go_wp2_with (go_at_call 10; refine (al.out _ K4.out).mono ?_; rintro e w3 ⟨rfl, hK⟩; have K5 := Lib.hid (K4.out.trans hK fun _ _ => False.elim); clear hK)
              go_ret
              exact ⟨rfl, K5.out.below (Nat.le_refl _) fun _ _ => id⟩
            · have hb : (p == q) = false := by simpa using hpq
              go_wp2_with fail
              go_region
              go_wp2_with fail
              go_roundw
              case rel =>
                have E3 : ∀ j, j < k + 1 → (at_ l i).2 ≠ (at_ l j).2 := fun j hj => by
                  rcases Nat.lt_or_ge j k with h | h
                  · exact E2.out j h
                  · obtain rfl : j = k := by omega
                    rw [hp'.out, hq'.out]
                    exact hpq
                exact ⟨k + 1, by go_num, by omega, E3, K4.out⟩
              case measure => simp [intOf]; omega
          · obtain rfl : k = i := by omega
            have hki' : ¬ (k : Int) < (k : Int) := by omega
            go_wp2_with fail
            go_roundw
            case rel =>
              have D3 : ∀ j, j < k + 1 → ∀ m, m < j → (at_ l j).2 ≠ (at_ l m).2 := fun j hj m hm => by
                rcases Nat.lt_or_ge j k with h | h
                · exact D1.out j h m hm
                · obtain rfl : j = k := by omega
                  exact E2.out m hm
              exact ⟨k + 1, by go_num, by omega, D3, K2.out⟩
            case measure => simp [intOf]; omega
      · obtain rfl : i = len0 := by omega
        have ho := Lib.hid (Once.of (l := l) fun j hj k hk => D1.out j (by rw [← hl0.out]; exact hj) k hk)
        have hi0 : (0 : Int) < (i : Int) := by omega
        obtain ⟨t, e1, t1, t2⟩ : ∃ t, a1.tmod (i : Int) = t ∧ -(i : Int) < t ∧ t < (i : Int) := ⟨_, rfl, Int.lt_tmod_of_pos a1 hi0, Int.tmod_lt_of_pos a1 hi0⟩
        obtain ⟨K, e2, hKi⟩ : ∃ K : Nat, (t + (i : Int)).tmod (i : Int) = (K : Int) ∧ K < i := by
          have h1 := Int.lt_tmod_of_pos (t + (i : Int)) hi0
          have h2 := Int.tmod_lt_of_pos (t + (i : Int)) hi0
          have h3 := Int.tmod_nonneg (a := t + (i : Int)) (i : Int) (by omega)
          exact ⟨((t + (i : Int)).tmod (i : Int)).toNat, by omega, by omega⟩
        have hot := Lib.hid (ho.out.perm (turned_perm l K).symm)
        have hlt := Lib.hid ((turned_perm l K).length_eq.trans hl0.out)
        go_wp2_with fail
        refine (new_any _).mono ?_
        rintro e w1 ⟨p, XP, rfl, hQ, hX, hK⟩
        have P1 := Lib.hid hQ
        have N1 := Lib.hid hX
        have k1 := Lib.hid (K1.out.trans hK fun _ _ => False.elim)
        have s1 := Lib.hid K1.out.size
        clear hQ hX hK
        go_wp2_with fail
        refine (new_any _).mono ?_
        rintro e w2 ⟨q, XQ, rfl, hQ, hX, hK⟩
        have B1 := Lib.hid (show Both w w2 p q [] [] XP XQ from ⟨P1.out.same hK, hQ, fun x hx => Nat.le_trans s1.out (N1.out x hx), fun x hx => Nat.le_trans k1.out.size (hX x hx), fun x hx hq => absurd (P1.out.old x hx) (Nat.not_lt.2 (hX x hq)), k1.out.trans hK fun _ _ => False.elim⟩)
        clear hQ hX hK P1 N1 k1 s1
        go_wp2_with fail
        go_loopw [66] (fun jv w3 => ∃ (j : Nat) (LP LQ : List Tm) (XP XQ : Nat → Prop), jv = .int .i64 j ∧ j ≤ i ∧ Both w w3 p q LP LQ XP XQ ∧ LP.Perm (l.take j) ∧ LQ.Perm ((turned l K).take j)) (fun jv _ => i - (intOf jv).toNat)
        case atStart => exact ⟨0, [], [], XP, XQ, rfl, Nat.zero_le _, B1.out, List.Perm.refl _, List.Perm.refl _⟩
        case round =>
          clear B1
          obtain ⟨j, LP, LQ, XP, XQ, rfl, hj, hB, hP, hQ⟩ := hrel
          have B2 := Lib.hid hB
          have P2 := Lib.hid hP
          have Q2 := Lib.hid hQ
          clear hB hP hQ
          by_cases hji : j < i
          · have hji' : (j : Int) < (i : Int) := by omega
            obtain ⟨b, off, rfl, x0, x1⟩ := R0.out.at_ j (by rw [hl0.out]; exact hji)
            have z0 := (B2.out.keeps.cell (p := ⟨b, off + j * 2, none⟩) (cell_lt x0) id).trans x0
            have z1 := (B2.out.keeps.cell (p := ⟨b, off + j * 2 + 1, none⟩) (cell_lt x1) id).trans x1
            have cP := Lib.hid (push_ok B2.out.P (at_ l j) (wf0.out _ (at_mem (by rw [hl0.out]; exact hji))) (by rw [P2.out.length_eq, List.length_take]; omega) (fun u hu => take_lacks ho.out (by rw [hl0.out]; exact hji) u (P2.out.mem_iff.1 hu)))
            obtain ⟨m, e3, hm⟩ : ∃ m : Nat, ((j : Int) + (K : Int)).tmod (i : Int) = (m : Int) ∧ at_ (turned l K) j = at_ l m ∧ m < i := by
              refine ⟨(j + K) % i, ?_, ?_, Nat.mod_lt _ (by omega)⟩
              · rw [← Int.natCast_add]
                exact (Int.ofNat_tmod _ _).symm
              · rw [turned_at (by rw [hl0.out]; exact hKi) (by rw [hl0.out]; exact hji), hl0.out]
            obtain ⟨hma, hmi⟩ := hm
            obtain ⟨b', off', hbo, y0, y1⟩ := R0.out.at_ m (by rw [hl0.out]; exact hmi)
            simp only [Option.some.injEq, Addr.mk.injEq, and_true] at hbo
            obtain ⟨rfl, rfl⟩ := hbo
            have Y0 := Lib.hid y0
            have Y1 := Lib.hid y1
            have hma' := Lib.hid hma
            have hmi' : (m : Int) < (i : Int) := by omega
            have pj := Lib.hid (take_next (m := l) (i := j) (by rw [hl0.out]; exact hji))
            have qj := Lib.hid (take_next (m := turned l K) (i := j) (by rw [hlt.out]; exact hji))
            clear x0 x1 y0 y1 hma
            generalize at_ l j = tj at z0 z1 cP pj
            unfold tmVal at cP
            go_wp2_with fail
            refine cP.out.mono ?_
            rintro e w4 ⟨rfl, hW⟩
            obtain ⟨XP', hB⟩ := B2.out.pushP hW
            have B4 := Lib.hid hB
            clear hW hB cP z0 z1
            have z0 := (B4.out.keeps.cell (p := ⟨b, off + m * 2, none⟩) (cell_lt Y0.out) id).trans Y0.out
            have z1 := (B4.out.keeps.cell (p := ⟨b, off + m * 2 + 1, none⟩) (cell_lt Y1.out) id).trans Y1.out
            have cQ := Lib.hid (push_ok B4.out.Q (at_ (turned l K) j) (wf0.out _ ((turned_perm l K).mem_iff.1 (at_mem (by rw [hlt.out]; exact hji)))) (by rw [Q2.out.length_eq, List.length_take]; omega) (fun u hu => take_lacks hot.out (by rw [hlt.out]; exact hji) u (Q2.out.mem_iff.1 hu)))
            rw [← hma'.out] at z0 z1
            generalize at_ (turned l K) j = uj at z0 z1 cQ qj hma'
            unfold tmVal at cQ
            go_wp2_with fail
            refine (no_nil _).mono ?_
            rintro e w' ⟨rfl, rfl⟩
            go_wp2_with fail
            refine cQ.out.mono ?_
            rintro e w5 ⟨rfl, hW⟩
            obtain ⟨XQ', hB⟩ := B4.out.pushQ hW
            have B5 := Lib.hid hB
            clear hW hB cQ z0 z1
            go_wp2_with fail
            refine (no_nil _).mono ?_
            rintro e w' ⟨rfl, rfl⟩
            go_wp2_with fail
            go_roundw
            case rel => exact ⟨j + 1, _, _, XP', XQ', by go_num, by omega, B5.out, by rw [pj.out]; exact ins_snoc P2.out, by rw [qj.out]; exact ins_snoc Q2.out⟩
            case measure => simp [intOf]; omega
          · obtain rfl : j = i := by omega
            have hji' : ¬ (j : Int) < (j : Int) := by omega
            have hPl : LP.Perm l := by
              have := P2.out
              rwa [List.take_of_length_le (by rw [hl0.out]; exact Nat.le_refl _)] at this
            have hQl : LQ.Perm l := by
              have := Q2.out
              rw [List.take_of_length_le (by rw [hlt.out]; exact Nat.le_refl _)] at this
              exact this.trans (turned_perm l K)
            have hLL : LP = LQ := Up.unique B2.out.P.up B2.out.Q.up (hPl.trans hQl.symm)
            have hPn : LP.length = j := hPl.length_eq.trans hl0.out
            have few : LP.length ≤ 100000 := by omega
            have hLL' := Lib.hid hLL
            have hPn' := Lib.hid hPn
            clear hPl hQl hLL hPn
            go_wp2_with fail
            refine (all_any B2.out.P).mono ?_
            rintro e w4 ⟨u, rfl, hU, hK⟩
            have U4 := Lib.hid hU
            have B4 := Lib.hid (B2.out.same hK)
            clear hU hK
            go_wp2_with fail
            refine (all_any B4.out.Q).mono ?_
            rintro e w5 ⟨u', rfl, hU, hK⟩
            have V5 := Lib.hid hU
            have U5 := Lib.hid (U4.out.same hK)
            have B5 := Lib.hid (B4.out.same hK)
            clear hU hK
            go_wp2_with fail
            have cs := same_any _ LP LQ u u' U5.out V5.out few
            rw [decide_eq_true hLL'.out] at cs
            refine cs.mono ?_
            rintro e w6 ⟨rfl, hK⟩
            have B6 := Lib.hid (B5.out.same hK)
            clear hK cs
            have cl := Lib.hid (qu_len B6.out.P j hPn'.out)
            go_wp2_with (first
              | (go_at_call 13; refine cl.out.mono ?_; rintro e w' ⟨rfl, rfl⟩)
              | (go_at_call 10; refine (al.out _ B6.out.keeps).mono ?_; rintro e w7 ⟨rfl, hK⟩; have K7 := Lib.hid (B6.out.keeps.trans hK fun _ _ => False.elim); clear hK))
            go_ret
            exact ⟨rfl, K7.out.below (Nat.le_refl _) fun _ _ => id⟩

theorem queueTurned_et : Tryd.prog.globalNamed "errors.errorType" = some 0 := by kernel_rfl
theorem queueTurned_rt : (Tryd.prog.cutTypes.find? (·.1 == "internal/reflectlite.rtype")).map (·.2) = some 113 := by kernel_rfl
theorem queueTurned_oneRow : ((List.range 176).filter fun t => Tryd.prog.rowNamed t [101, 114, 114, 111, 114]) = [44] := by kernel_rfl
theorem queueTurned_size : Tryd.prog.types.size = 176 := by kernel_rfl

/-- What the listed variable gives the walk. -/
theorem queueTurned_glob {W : World} (h : laidMetH Tryd.prog Rows.queueTurnedRow.laid W) : Glob W := by
  have h' : laidMet Tryd.prog [] W ∧ handlesMet Tryd.prog Rows.queueTurnedRow.laid W := h
  obtain ⟨name, u, ty, e1, e2, e3, e4, e5⟩ := h'.2 _ (List.mem_singleton.2 rfl)
  have en : name = [101, 114, 114, 111, 114] := (Option.some.inj e1).symm
  subst en
  obtain rfl := Option.some.inj (queueTurned_rt.symm.trans e2)
  have hm : ty ∈ (List.range 176).filter fun t => Tryd.prog.rowNamed t [101, 114, 114, 111, 114] := List.mem_filter.2 ⟨List.mem_range.2 (by rw [← queueTurned_size]; exact e3), e4⟩
  rw [queueTurned_oneRow] at hm
  obtain rfl := List.mem_singleton.1 hm
  have hh : typeHandle Tryd.prog 44 = .pointer (some ⟨1, 44, none⟩) := by kernel_rfl
  rw [hh] at e5
  unfold Glob
  simpa using World.var?_cell queueTurned_et e5 0

/-- A world that meets the condition: the settled one, the variable's cell laid. -/
noncomputable def queueTurned_laidWorld (os : Os) : World :=
  let w0 := World.holding Tryd.prog os ⟨#[], #[], []⟩
  { w0 with heap := w0.heap.modify 0 fun
      | .cells _ t frozen => .cells #[.iface 113 (.agg #[.pointer (some ⟨1, 44, none⟩)])] t frozen
      | o => o }
theorem queueTurned_met (os : Os) (args : Array Value) : laidMetH Tryd.prog Rows.queueTurnedRow.laid ((queueTurned_laidWorld os).forCall (fun _ _ => 0) ⟨#[], args, []⟩).memory :=
  laidMetH_of_parts (laidMet_nil _ _) (by kernel_rfl)

theorem queueTurned_own : ownKnob Tryd.prog.godebug = none := by kernel_rfl
theorem queueTurned_laidOut : laidOutB Tryd.prog = true := by kernel_rfl

set_option maxRecDepth 100000 in
theorem queueTurned_lifted (os : Os) (started : os.Started) (H : Type) (enc : TypeId × Value → H) :
    ReturnsInHanded {} Tryd.checked os 5 .any (fun w args => (Rows.queueTurnedSpec.pre enc Tryd.prog Tryd.f5 [] false w args ∧ laidMetH Tryd.prog Rows.queueTurnedRow.laid w) ∧ sizedMet enc Tryd.prog Tryd.f5 (OpenSpec.ofChange Rows.queueTurnedSpec) false w args)
      (Rows.queueTurnedSpec.post enc Tryd.prog Tryd.f5 false true false false) := by
  refine returnsInHanded_of_change_and (C := Tryd.checked) (X := fun w _ => laidMetH Tryd.prog Rows.queueTurnedRow.laid w) (fun _ _ _ hh h => h.of_heap hh) queueTurned_own started (by kernel_rfl) Tryd.func5
    (ChangeSpec.witness_at (enc := enc) (C := Tryd.checked) (os := os) (X := fun w _ => laidMetH Tryd.prog Rows.queueTurnedRow.laid w) false (queueTurned_laidWorld os) #[.slice none 0 0, .int .i64 0] 8 rfl (by kernel_rfl) (by kernel_rfl) (by kernel_rfl) (by kernel_rfl) (by kernel_rfl) (queueTurned_met os _)) ?_
  intro W base args ds gs before hval0 hW hcnd _ hL _
  have hGl := queueTurned_glob hL
  clear hcnd
  have hval : ∀ (j : Nat) t v, Tryd.f5.params[j]? = some t → args[j]? = some v → Value.okWide Tryd.prog W .any base t v := hval0
  have hW' := hW
  obtain ⟨p, q, hA0, hV, rfl, hfz, hnd⟩ := hW
  have hA : DataW.TrodAll enc Tryd.prog W 0 (fun _ => true) true Tryd.f5.params.toList args.toList ds p := hA0
  rw [Tryd.params5] at hA hval
  obtain ⟨v0, vs0, d0, ds0, p0, q0, hargs, rfl, rfl, h0, r0⟩ := trodAll_cons hA
  obtain ⟨v1, vs1, d1, ds1, p1, q1, rfl, rfl, rfl, h1, r1⟩ := trodAll_cons r0
  obtain ⟨rfl, rfl, rfl⟩ := trodAll_nil r1
  obtain rfl : args = #[v0, v1] := by cases args; simp_all
  obtain ⟨rfl, rfl⟩ := trodVars_none hV
  have k0 := h0
  have lt0 : ∀ x ∈ p0, x.block < W.heap.size := by obtain ⟨m, hm⟩ := k0; exact DataW.trod_lt m _ _ _ hm
  obtain ⟨a0, len0, cap0, rfl⟩ := okWide_slice Tryd.underlying27 (hval 0 27 v0 rfl rfl)
  have w0 : Tms W a0 len0 cap0 := by
    obtain ⟨fuel, hf⟩ := h0
    rcases open_slice_fields Tryd.underlying27 Tryd.underlying31 (by kernel_rfl) (by kernel_rfl) hf with ⟨hcs, _⟩ | ⟨x, l, c, m, D, Pl, hcs, _, hl, hm, hmm, _, hi⟩
    · simp [Value.cells] at hcs
      obtain ⟨rfl, rfl, rfl⟩ := hcs
      exact .inl ⟨rfl, rfl, rfl⟩
    · simp [Value.cells] at hcs
      obtain ⟨rfl, rfl, rfl⟩ := hcs
      refine .inr ⟨_, rfl, hl, hm, fun i hlt => ?_⟩
      obtain ⟨ys, n, _, _, _, hf⟩ := hi i (by rw [hmm]; split <;> omega)
      obtain ⟨u0, y0, c0, _, t0⟩ := hf 0 _ rfl
      obtain ⟨z0, e0, _, f0⟩ := DataW.trod_int (k := .i64) (by kernel_rfl) t0
      simp at e0
      subst e0
      obtain ⟨u1, y1, c1, _, t1⟩ := hf 1 _ rfl
      obtain ⟨z1, e1, _, f1⟩ := DataW.trod_int (k := .i64) (by kernel_rfl) t1
      simp at e1
      subst e1
      exact ⟨z0, z1, c0, c1, f0, f1⟩
  have k1 := h1
  have lt1 : ∀ x ∈ p1, x.block < W.heap.size := by obtain ⟨m, hm⟩ := k1; exact DataW.trod_lt m _ _ _ hm
  obtain ⟨a1, rfl, e1, f1, w1⟩ := open_int Tryd.underlying3 (hval 1 3 v1 rfl rfl) h1
  clear e1 f1
  clear hA0 hval0
  refine (queueTurned_walk a0 len0 cap0 a1 W w0 w1 hGl).mono fun e W' ⟨he, bel⟩ => ?_
  subst he
  exact ⟨_, rfl, _, _, _, [], _, [], hW', trodAll_mk1 (shut_bool Tryd.underlying4 _), (trodAll_cons_mk (Below.trod queueTurned_laidOut (by kernel_rfl) (of_decide_eq_true (by kernel_rfl)) k0 bel lt0) (trodAll_cons_mk (Below.trod queueTurned_laidOut (by kernel_rfl) (of_decide_eq_true (by kernel_rfl)) k1 bel lt1) trodAll_mk0)), rfl, bel.frame _, fun h => by cases h⟩

/-- The statement QueueTurned. -/
theorem queueTurned_holds : Rows.QueueTurnedSaid :=
  OpenClaim.holds_of_wide 5 Tryd.f5 rfl rfl rfl rfl rfl rfl rfl ⟨rfl, rfl, rfl, rfl, rfl⟩ rfl rfl rfl rfl rfl (by kernel_rfl) Tryd.func5 (by kernel_rfl)
    (of_decide_eq_true (by kernel_rfl)) (by unfold Func.isWrapper; first | (rw [if_pos (by decide +kernel)]; kernel_rfl) | (rw [if_neg (by decide +kernel)]; exact ⟨rfl, rfl⟩))
    (fun os started H enc _ => queueTurned_lifted os started H enc)
#print axioms queueTurned_holds

/-- The card: the row, what it lists tied to the program's text. -/
theorem queueTurned_card : Rows.QueueTurnedCardSaid :=
  Claim7.holds_tied_plain_at .later [] [.handle] true Rows.queueTurnedCard.stood.harness true
    queueTurned_holds (fun _ h => by cases h) (by kernel_rfl) (fun _ h => by cases h) queueTurned_row_tie rfl ⟨rfl, rfl⟩ (by kernel_rfl) rfl
    (fun f fn hf hfn => by
      obtain rfl : f = 5 := Option.some.inj ((show Tryd.prog.funcNamed "concord/concordlaw04.QueueTurned" = some 5 by kernel_rfl).symm.trans hf) |>.symm
      obtain rfl : fn = Tryd.f5 := (Option.some.inj (Tryd.func5.symm.trans hfn)).symm
      exact ⟨by kernel_rfl, fun j t ht => by
        rw [Tryd.params5] at ht
        have hm : t ∈ Tryd.f5.params.toList := by rw [Tryd.params5]; simpa using Array.mem_of_getElem? ht
        have hall : (Tryd.f5.params.toList.all fun u => !Tryd.prog.wantsStandIn u) = true := by kernel_rfl
        exact (show Tryd.prog.wantsStandIn t = false by simpa using List.all_eq_true.1 hall t hm)⟩)
    (by kernel_rfl)
#print axioms queueTurned_card

end Go.Proofs.YtjmkfloaagppdaaDoor
