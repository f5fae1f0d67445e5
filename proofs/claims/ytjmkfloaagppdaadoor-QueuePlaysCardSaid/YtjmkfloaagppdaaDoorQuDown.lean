/-
  container/heap's down, over a queue's line, by contract: what was a heap but for one place is one, or it was right below that place all along.
-/
import Derived.Test.YtjmkfloaagppdaaDoorQuUp
namespace Go.Proofs.YtjmkfloaagppdaaDoor
open Go.RowKit Go.Extern.Stop Go.Stop Go.Extern

/-- What down leaves. -/
def Downed (w : World) (q n i0 : Nat) (l : List Tm) (X : Nat → Prop) (e : Ending) (w' : World) : Prop :=
  ∃ b l', e = .returned (.bool b) ∧ Line w' q l' X ∧ l'.Perm l ∧ (∀ k, n ≤ k → at_ l' k = at_ l k) ∧ ((b = true ∧ Heap l' n) ∨ (b = false ∧ l' = l ∧ Kids l n i0)) ∧ Keeps X w w'

/-- Where the walk down is. -/
structure Going (w wr : World) (q n i0 i : Nat) (l m : List Tm) (X : Nat → Prop) : Prop where
  line : Line wr q m X
  perm : m.Perm l
  part : Part m n i
  way : (i = i0 ∧ m = l) ∨ (i0 < i ∧ Top m i)
  tail : ∀ k, n ≤ k → at_ m k = at_ l k
  keeps : Keeps X w wr

theorem Going.grew {w wr w2 : World} {q n i0 i : Nat} {l m : List Tm} {X : Nat → Prop} (h : Going w wr q n i0 i l m X) (hG : Grew wr w2) : Going w w2 q n i0 i l m X :=
  ⟨h.line.same hG.keeps, h.perm, h.part, h.way, h.tail, h.keeps.trans hG.keeps fun _ _ => False.elim⟩

/-- It ends here. -/
theorem Going.done {w wr : World} {q n i0 i : Nat} {l m : List Tm} {X : Nat → Prop} (h : Going w wr q n i0 i l m X) (hk : Kids m n i) (b : Bool) (hb : b = decide (i0 < i)) : Downed w q n i0 l X (.returned (.bool b)) wr := by
  refine ⟨b, m, rfl, h.line, h.perm, h.tail, ?_, h.keeps⟩
  rcases h.way with ⟨rfl, rfl⟩ | ⟨h1, h2⟩
  · exact .inr ⟨by rw [hb]; simp, rfl, hk⟩
  · exact .inl ⟨by rw [hb]; simpa using h1, h.part.heap hk h2⟩

/-- One step down. -/
theorem Going.step {w wr w2 : World} {q n i0 i c : Nat} {l m : List Tm} {X : Nat → Prop} (h : Going w wr q n i0 i l m X) (hn : n ≤ l.length) (h0 : 0 < c) (hc : c < n) (hp : (c - 1) / 2 = i) (hb : ∀ k, 0 < k → k < n → (k - 1) / 2 = i → le (at_ m c) (at_ m k)) (ha : ahead (at_ m c) (at_ m i) = true)
    (hL : Line w2 q (sw m i c) X) (hK : Keeps X wr w2) : Going w w2 q n i0 c l (sw m i c) X := by
  have hlen : m.length = l.length := h.perm.length_eq
  have hs := down_step h.part h0 hc (by omega) hp hb ha
  have hi0 : i0 ≤ i := by rcases h.way with ⟨e, _⟩ | ⟨e, _⟩ <;> omega
  exact ⟨hL, (sw_perm (by omega) (by omega)).trans h.perm, hs.1, .inr ⟨by omega, hs.2⟩, fun k hk => by rw [at_sw (by omega) (by omega), if_neg (by omega), if_neg (by omega)]; exact h.tail k hk, h.keeps.trans_ hK⟩

theorem kids_two {m : List Tm} {n i c : Nat} (h1 : 2 * i + 1 < n → le (at_ m c) (at_ m (2 * i + 1))) (h2 : 2 * i + 2 < n → le (at_ m c) (at_ m (2 * i + 2))) : ∀ k, 0 < k → k < n → (k - 1) / 2 = i → le (at_ m c) (at_ m k) := by
  intro k h0 hk e
  have : k = 2 * i + 1 ∨ k = 2 * i + 2 := by omega
  rcases this with rfl | rfl
  · exact h1 hk
  · exact h2 hk

theorem less_at {w : World} {q : Nat} {l : List Tm} {X : Nat → Prop} (h : Line w q l X) (a b : Nat) (x y : Int) (hx : x = a) (hy : y = b) (ha : a < l.length) (hb : b < l.length) (r : Bool) (hr : ahead (at_ l a) (at_ l b) = r) :
    Calls Tryd.prog 97 #[.pointer (some ⟨q, 0, none⟩), .int .i64 x, .int .i64 y] w fun e w' => e = .returned (.bool r) ∧ Grew w w' := by
  subst hx hy hr
  exact line_less h a b ha hb
theorem swap_at {w : World} {q : Nat} {l : List Tm} {X : Nat → Prop} (h : Line w q l X) (a b : Nat) (x y : Int) (hx : x = a) (hy : y = b) (ha : a < l.length) (hb : b < l.length) :
    Calls Tryd.prog 100 #[.pointer (some ⟨q, 0, none⟩), .int .i64 x, .int .i64 y] w fun e w' => e = .returned (.tuple #[]) ∧ Line w' q (sw l a b) X ∧ Keeps X w w' := by
  subst hx hy
  exact line_swap_any h a b ha hb

set_option maxRecDepth 100000 in
set_option maxHeartbeats 1000000 in
theorem down_any {w : World} {q : Nat} {l : List Tm} {X : Nat → Prop} (h : Line w q l X) (n i0 : Nat) (hn : n ≤ l.length) (hi : i0 ≤ 200) (hP : Part l n i0) :
    Calls Tryd.prog 49 #[lineI q, .int .i64 i0, .int .i64 n] w fun e w' => Downed w q n i0 l X e w' := by
  have mL := m_less
  have mS := m_swap
  have few := h.few
  have g0 := Lib.hid (show Going w w q n i0 i0 l l X from ⟨h, List.Perm.refl _, hP, .inl ⟨rfl, rfl⟩, fun _ _ => rfl, Keeps.refl _ _⟩)
  clear h hP
  go_enter Tryd.func49, Tryd.ntmps49
  go_wp2_with fail
  go_loopw [7] (fun iv wr => ∃ (i : Nat) (m : List Tm), iv = .int .i64 i ∧ (i < n ∨ i = i0) ∧ Going w wr q n i0 i l m X) (fun iv _ => n - (intOf iv).toNat)
  case atStart => exact ⟨i0, l, rfl, .inr rfl, g0.out⟩
  case round =>
    clear g0
    obtain ⟨i, m, rfl, hin, hg⟩ := hrel
    have hlen : m.length = l.length := hg.perm.length_eq
    have G1 := Lib.hid hg
    clear hg
    by_cases c1 : 2 * i + 1 < n
    · have c1' : (2 * (i : Int) + 1) < (n : Int) := by omega
      have p0 : ¬ 2 * (i : Int) + 1 < 0 := by omega
      have ej : (2 * (i : Int) + 1) = ((2 * i + 1 : Nat) : Int) := by omega
      have ej2 : (2 * (i : Int) + 1 + 1) = ((2 * i + 2 : Nat) : Int) := by omega
      have e1' := Lib.hid ej
      have e2' := Lib.hid ej2
      clear ej ej2
      by_cases c2 : 2 * i + 2 < n
      · have c2' : (2 * (i : Int) + 1 + 1) < (n : Int) := by omega
        cases ha : ahead (at_ m (2 * i + 2)) (at_ m (2 * i + 1)) with
        | true =>
          have hb := Lib.hid (kids_two (m := m) (n := n) (i := i) (c := 2 * i + 2) (fun _ => le.of ha) (fun _ => le.refl _))
          have ha' := Lib.hid ha
          clear ha
          cases hd : ahead (at_ m (2 * i + 2)) (at_ m i) with
          | false =>
            have hd' := Lib.hid hd
            clear hd
            go_wp2_with fail
            refine (less_at G1.out.line (2 * i + 2) (2 * i + 1) _ _ e2'.out e1'.out (by omega) (by omega) true ha'.out).mono ?_
            rintro e w2 ⟨rfl, hG⟩
            have G2 := Lib.hid (G1.out.grew hG)
            clear hG
            go_wp2_with fail
            refine (less_at G2.out.line (2 * i + 2) i _ _ e2'.out rfl (by omega) (by omega) false hd'.out).mono ?_
            rintro e w3 ⟨rfl, hG⟩
            have D1 := Lib.hid ((G2.out.grew hG).done (fun k k0 kn e => (show le (at_ m i) (at_ m (2 * i + 2)) from hd'.out).trans (hb.out k k0 kn e)) (decide (i0 < i)) rfl)
            clear hG
            by_cases hlt : i0 < i
            · have hlt' : (i0 : Int) < (i : Int) := by omega
              go_wp2_with fail
              go_ret
              simpa [hlt] using D1.out
            · have hlt' : ¬ (i0 : Int) < (i : Int) := by omega
              go_wp2_with fail
              go_ret
              simpa [hlt] using D1.out
          | true =>
            have hd' := Lib.hid hd
            clear hd
            go_wp2_with fail
            refine (less_at G1.out.line (2 * i + 2) (2 * i + 1) _ _ e2'.out e1'.out (by omega) (by omega) true ha'.out).mono ?_
            rintro e w2 ⟨rfl, hG⟩
            have G2 := Lib.hid (G1.out.grew hG)
            clear hG
            go_wp2_with fail
            refine (less_at G2.out.line (2 * i + 2) i _ _ e2'.out rfl (by omega) (by omega) true hd'.out).mono ?_
            rintro e w3 ⟨rfl, hG⟩
            have G3 := Lib.hid (G2.out.grew hG)
            clear hG
            go_wp2_with fail
            refine (swap_at G3.out.line i (2 * i + 2) _ _ rfl e2'.out (by omega) (by omega)).mono ?_
            rintro e w4 ⟨rfl, hL, hK⟩
            have G4 := Lib.hid (G3.out.step hn (by omega) (by omega) (by omega) hb.out hd'.out hL hK)
            clear hL hK
            go_wp2_with fail
            go_roundw
            case rel => exact ⟨2 * i + 2, sw m i (2 * i + 2), by rw [e2'.out], by omega, G4.out⟩
            case measure => simp [intOf]; omega
        | false =>
          have hb := Lib.hid (kids_two (m := m) (n := n) (i := i) (c := 2 * i + 1) (fun _ => le.refl _) (fun _ => le.of_not ha))
          have ha' := Lib.hid ha
          clear ha
          cases hd : ahead (at_ m (2 * i + 1)) (at_ m i) with
          | false =>
            have hd' := Lib.hid hd
            clear hd
            go_wp2_with fail
            refine (less_at G1.out.line (2 * i + 2) (2 * i + 1) _ _ e2'.out e1'.out (by omega) (by omega) false ha'.out).mono ?_
            rintro e w2 ⟨rfl, hG⟩
            have G2 := Lib.hid (G1.out.grew hG)
            clear hG
            go_wp2_with fail
            refine (less_at G2.out.line (2 * i + 1) i _ _ e1'.out rfl (by omega) (by omega) false hd'.out).mono ?_
            rintro e w3 ⟨rfl, hG⟩
            have D1 := Lib.hid ((G2.out.grew hG).done (fun k k0 kn e => (show le (at_ m i) (at_ m (2 * i + 1)) from hd'.out).trans (hb.out k k0 kn e)) (decide (i0 < i)) rfl)
            clear hG
            by_cases hlt : i0 < i
            · have hlt' : (i0 : Int) < (i : Int) := by omega
              go_wp2_with fail
              go_ret
              simpa [hlt] using D1.out
            · have hlt' : ¬ (i0 : Int) < (i : Int) := by omega
              go_wp2_with fail
              go_ret
              simpa [hlt] using D1.out
          | true =>
            have hd' := Lib.hid hd
            clear hd
            go_wp2_with fail
            refine (less_at G1.out.line (2 * i + 2) (2 * i + 1) _ _ e2'.out e1'.out (by omega) (by omega) false ha'.out).mono ?_
            rintro e w2 ⟨rfl, hG⟩
            have G2 := Lib.hid (G1.out.grew hG)
            clear hG
            go_wp2_with fail
            refine (less_at G2.out.line (2 * i + 1) i _ _ e1'.out rfl (by omega) (by omega) true hd'.out).mono ?_
            rintro e w3 ⟨rfl, hG⟩
            have G3 := Lib.hid (G2.out.grew hG)
            clear hG
            go_wp2_with fail
            refine (swap_at G3.out.line i (2 * i + 1) _ _ rfl e1'.out (by omega) (by omega)).mono ?_
            rintro e w4 ⟨rfl, hL, hK⟩
            have G4 := Lib.hid (G3.out.step hn (by omega) (by omega) (by omega) hb.out hd'.out hL hK)
            clear hL hK
            go_wp2_with fail
            go_roundw
            case rel => exact ⟨2 * i + 1, sw m i (2 * i + 1), by rw [e1'.out], by omega, G4.out⟩
            case measure => simp [intOf]; omega
      · have c2' : ¬ (2 * (i : Int) + 1 + 1) < (n : Int) := by omega
        have hb := Lib.hid (kids_two (m := m) (n := n) (i := i) (c := 2 * i + 1) (fun _ => le.refl _) (fun h => absurd h c2))
        cases hd : ahead (at_ m (2 * i + 1)) (at_ m i) with
        | false =>
          have hd' := Lib.hid hd
          clear hd
          go_wp2_with fail
          refine (less_at G1.out.line (2 * i + 1) i _ _ e1'.out rfl (by omega) (by omega) false hd'.out).mono ?_
          rintro e w3 ⟨rfl, hG⟩
          have D1 := Lib.hid ((G1.out.grew hG).done (fun k k0 kn e => (show le (at_ m i) (at_ m (2 * i + 1)) from hd'.out).trans (hb.out k k0 kn e)) (decide (i0 < i)) rfl)
          clear hG
          by_cases hlt : i0 < i
          · have hlt' : (i0 : Int) < (i : Int) := by omega
            go_wp2_with fail
            go_ret
            simpa [hlt] using D1.out
          · have hlt' : ¬ (i0 : Int) < (i : Int) := by omega
            go_wp2_with fail
            go_ret
            simpa [hlt] using D1.out
        | true =>
          have hd' := Lib.hid hd
          clear hd
          go_wp2_with fail
          refine (less_at G1.out.line (2 * i + 1) i _ _ e1'.out rfl (by omega) (by omega) true hd'.out).mono ?_
          rintro e w3 ⟨rfl, hG⟩
          have G3 := Lib.hid (G1.out.grew hG)
          clear hG
          go_wp2_with fail
          refine (swap_at G3.out.line i (2 * i + 1) _ _ rfl e1'.out (by omega) (by omega)).mono ?_
          rintro e w4 ⟨rfl, hL, hK⟩
          have G4 := Lib.hid (G3.out.step hn (by omega) (by omega) (by omega) hb.out hd'.out hL hK)
          clear hL hK
          go_wp2_with fail
          go_roundw
          case rel => exact ⟨2 * i + 1, sw m i (2 * i + 1), by rw [e1'.out], by omega, G4.out⟩
          case measure => simp [intOf]; omega
    · have c1' : (n : Int) ≤ 2 * (i : Int) + 1 := by omega
      have hdn := G1.out.done (fun k k0 kn e => by omega) (decide (i0 < i)) rfl
      have D1 := Lib.hid hdn
      clear hdn
      by_cases hlt : i0 < i
      · have hlt' : (i0 : Int) < (i : Int) := by omega
        go_wp2_with fail
        go_ret
        simpa [hlt] using D1.out
      · have hlt' : ¬ (i0 : Int) < (i : Int) := by omega
        go_wp2_with fail
        go_ret
        simpa [hlt] using D1.out
end Go.Proofs.YtjmkfloaagppdaaDoor
