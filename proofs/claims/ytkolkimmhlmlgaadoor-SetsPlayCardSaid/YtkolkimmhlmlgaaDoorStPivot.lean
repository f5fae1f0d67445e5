/-
  slices.order2Ordered, medianOrdered, medianAdjacentOrdered, choosePivotOrdered at uint64 by contract: what they answer are places between the bounds; nothing of the row changes.
-/
import Derived.Test.YtkolkimmhlmlgaaDoorStPart
namespace Go.Proofs.YtkolkimmhlmlgaaDoor
open Go.RowKit

/-- The counter's box. -/
def Cnt (w : World) (sb : Nat) : Prop := ∃ s : Int, Whole w sb 3 #[.int .i64 s]

theorem Cnt.keeps {w w' : World} {sb : Nat} {S : Nat → Prop} (h : Cnt w sb) (k : Keeps S w w') (hS : ¬ S sb) : Cnt w' sb := by
  obtain ⟨s, h⟩ := h; exact ⟨s, h.keeps k hS⟩

set_option maxRecDepth 100000 in
theorem ord2_u {w : World} {g o n cap sb : Nat} {d : Array Int} (h : URow w g o n cap d) (hs : Cnt w sb) (a b : Nat) (ha : a < n) (hb : b < n) (_hn : n < 4611686018427387904) :
    Calls Tryd.prog 72 #[.slice (some ⟨g, o, none⟩) n cap, .int .i64 a, .int .i64 b, .pointer (some ⟨sb, 0, none⟩)] w fun e w' => ∃ x y : Nat, e = .returned (.tuple #[.int .i64 x, .int .i64 y]) ∧ ((x = a ∧ y = b) ∨ (x = b ∧ y = a)) ∧ Cnt w' sb ∧ Keeps (fun x => x = sb) w w' := by
  obtain ⟨s, hs⟩ := hs
  obtain ⟨G, hG, c, f⟩ := (Srt.refl h).fam
  clear hG h
  have s0 : w.cell? ⟨sb, 0, none⟩ = some (.int .i64 s) := hs.at_ 0
  have sf : w.frozen? ⟨sb, 0, none⟩ = false := hs.free 0
  have hs' := Lib.hid hs
  clear hs
  go_enter Tryd.func72, Tryd.ntmps72
  go_wp2_with fail
  go_big_quiet ((go_at_call 61; exact Calls.quiet_of_same (less_u _ _ _)))
  go_wp2
  · go_ret2
    exact ⟨b, a, rfl, .inr ⟨rfl, rfl⟩, ⟨_, (hs'.out.drewN _).set_ 0 _⟩, ((Keeps.refl (fun x => x = sb) w).drewN _).setCell (p := ⟨sb, 0, none⟩) (fun _ => rfl) _⟩
  · go_ret2
    exact ⟨a, b, rfl, .inl ⟨rfl, rfl⟩, ⟨_, hs'.out.drewN _⟩, (Keeps.refl _ w).drewN _⟩

set_option maxRecDepth 100000 in
theorem med_u {w : World} {g o n cap sb : Nat} {d : Array Int} (h : URow w g o n cap d) (hs : Cnt w sb) (hne : ¬ g = sb) (a b c : Nat) (ha : a < n) (hb : b < n) (hc : c < n) (hn : n < 4611686018427387904) :
    Calls Tryd.prog 70 #[.slice (some ⟨g, o, none⟩) n cap, .int .i64 a, .int .i64 b, .int .i64 c, .pointer (some ⟨sb, 0, none⟩)] w fun e w' => ∃ x : Nat, e = .returned (.int .i64 x) ∧ (x = a ∨ x = b ∨ x = c) ∧ Cnt w' sb ∧ Keeps (fun x => x = sb) w w' := by
  have c1 := Lib.hid (ord2_u h hs a b ha hb hn)
  have h' := Lib.hid h
  clear h hs
  go_enter Tryd.func70, Tryd.ntmps70
  go_wp2_with fail
  refine c1.out.mono ?_
  rintro e w1 ⟨x1, y1, rfl, e1, hs1, k1⟩
  have c2 := Lib.hid (ord2_u (h'.out.keepsU k1 hne) hs1 y1 c (by omega) hc hn)
  have K1 := Lib.hid k1
  clear hs1 k1
  go_wp2_with fail
  refine c2.out.mono ?_
  rintro e w2 ⟨x2, y2, rfl, e2, hs2, k2⟩
  have c3 := Lib.hid (ord2_u (h'.out.keepsU (K1.out.trans_ k2) hne) hs2 x1 x2 (by omega) (by omega) hn)
  have K2 := Lib.hid (K1.out.trans_ k2)
  clear hs2 k2
  go_wp2_with fail
  refine c3.out.mono ?_
  rintro e w3 ⟨x3, y3, rfl, e3, hs3, k3⟩
  have K3 := Lib.hid (K2.out.trans_ k3)
  have H3 := Lib.hid hs3
  clear hs3 k3
  go_wp2_with fail
  go_ret
  exact ⟨y3, rfl, by omega, H3.out, K3.out⟩

set_option maxRecDepth 100000 in
theorem adj_u {w : World} {g o n cap sb : Nat} {d : Array Int} (h : URow w g o n cap d) (hs : Cnt w sb) (hne : ¬ g = sb) (a : Nat) (ha : 1 ≤ a) (hb : a + 1 < n) (hn : n < 4611686018427387904) :
    Calls Tryd.prog 69 #[.slice (some ⟨g, o, none⟩) n cap, .int .i64 a, .pointer (some ⟨sb, 0, none⟩)] w fun e w' => ∃ x : Nat, e = .returned (.int .i64 x) ∧ (x = a - 1 ∨ x = a ∨ x = a + 1) ∧ Cnt w' sb ∧ Keeps (fun x => x = sb) w w' := by
  have c1 := Lib.hid (med_u h hs hne (a - 1) a (a + 1) (by omega) (by omega) hb hn)
  clear h hs
  have w1 : IntKind.i64.wrap ((a : Int) - 1) = ((a - 1 : Nat) : Int) := by rw [show (a : Int) - 1 = ((a - 1 : Nat) : Int) by omega]; exact IntWalk.i64_in _ (by omega)
  have w2 : IntKind.i64.wrap ((a : Int) + 1) = ((a + 1 : Nat) : Int) := by rw [show (a : Int) + 1 = ((a + 1 : Nat) : Int) by omega]; exact IntWalk.i64_in _ (by omega)
  obtain ⟨p, hp⟩ : ∃ p, p = a - 1 := ⟨_, rfl⟩
  obtain ⟨q, hq⟩ : ∃ q, q = a + 1 := ⟨_, rfl⟩
  rw [← hp] at c1 w1 ⊢
  rw [← hq] at c1 w2 ⊢
  have hp' := Lib.hid hp
  have hq' := Lib.hid hq
  clear hp hq
  go_enter Tryd.func69, Tryd.ntmps69
  go_wp2_with fail
  refine c1.out.mono ?_
  rintro e w1 ⟨x, rfl, hx, hs, hk⟩
  have H := Lib.hid hs
  have K := Lib.hid hk
  clear hs hk
  go_wp2_with fail
  go_ret
  exact ⟨x, rfl, hx, H.out, K.out⟩

set_option maxRecDepth 100000 in
theorem pivot_u {w : World} {g o n cap : Nat} {d : Array Int} (h : URow w g o n cap d) (a b : Nat) (hab : a + 12 < b) (hb : b ≤ n) (hn : n < 4611686018427387904) :
    Calls Tryd.prog 58 #[.slice (some ⟨g, o, none⟩) n cap, .int .i64 a, .int .i64 b] w fun e w' => ∃ (p : Nat) (c : Int), e = .returned (.tuple #[.int .i64 p, .int .i64 c]) ∧ a ≤ p ∧ p < b ∧ (c = 0 ∨ c = 1 ∨ c = 2) ∧ Keeps (fun _ => False) w w' := by
  have hg := h.lt
  have h0 := Lib.hid (h.keepsU ((Keeps.refl (fun _ => False) w).alloc (.cells #[.int .i64 0] 3)) id)
  have s0 := Lib.hid (show Cnt (w.alloc (.cells #[.int .i64 0] 3)) w.heap.size from ⟨0, Whole.made w 3 #[.int .i64 0]⟩)
  have k0 := Lib.hid ((Keeps.refl (fun x => x = w.heap.size) w).alloc (.cells #[.int .i64 0] 3))
  clear h
  obtain ⟨L, hL⟩ : ∃ L, L = b - a := ⟨_, rfl⟩
  obtain ⟨q, hq⟩ : ∃ q, q = L / 4 := ⟨_, rfl⟩
  have q1 : 4 * q ≤ L := by omega
  have q2 : L < 4 * q + 4 := by omega
  have w1 : IntKind.i64.wrap ((b : Int) - (a : Int)) = (L : Int) := by rw [show (b : Int) - (a : Int) = (L : Int) by omega]; exact IntWalk.i64_in _ (by omega)
  have w2 : IntKind.i64.wrap ((L : Int).tdiv 4) = (q : Int) := by
    rw [Int.tdiv_eq_ediv_of_nonneg (by omega), show (L : Int) / 4 = (q : Int) by omega]
    exact IntWalk.i64_in _ (by omega)
  have hab' : a + L = b := by omega
  have hL12 : 12 < L := by omega
  clear hL hq
  obtain ⟨W, hW⟩ : ∃ W, W = w.alloc (.cells #[.int .i64 0] 3) := ⟨_, rfl⟩
  rw [← hW] at h0 s0 k0
  have hW' := Lib.hid hW
  clear hW
  go_enter Tryd.func58, Tryd.ntmps58
  rcases Nat.lt_or_ge L 50 with h50 | h50
  · have b1 : ¬ (50 : Int) ≤ (L : Int) := by omega
    have c1 := Lib.hid (med_u h0.out s0.out (by omega) (a + q) (a + q * 2) (a + q * 3) (by omega) (by omega) (by omega) hn)
    have e1 : (a : Int) + (L : Int) / 4 = ((a + q : Nat) : Int) := by omega
    have e2 : (a : Int) + (L : Int) / 4 * 2 = ((a + q * 2 : Nat) : Int) := by omega
    have e3 : (a : Int) + (L : Int) / 4 * 3 = ((a + q * 3 : Nat) : Int) := by omega
    have e1' := Lib.hid e1
    have e2' := Lib.hid e2
    have e3' := Lib.hid e3
    clear e1 e2 e3
    go_wp2_with fail
    rw [e1'.out, e2'.out, e3'.out, ← hW'.out]
    refine c1.out.mono ?_
    rintro e w1 ⟨x, rfl, hx, ⟨s, hs⟩, hk⟩
    have hx1 : a ≤ x ∧ x < b := by omega
    have x0 : w1.cell? ⟨w.heap.size, 0, none⟩ = some (.int .i64 s) := hs.at_ 0
    have K1 := Lib.hid (k0.out.trans_ hk)
    clear hs hk hx
    have K9 := Lib.hid (show Keeps (fun _ => False) w w1 from K1.out.mono fun x hx e => by omega)
    clear K1
    by_cases z0 : s = 0
    · subst z0
      go_wp2_with fail
      go_ret2
      exact ⟨x, 1, rfl, hx1.1, hx1.2, .inr (.inl rfl), K9.out⟩
    · have t0 : (s == 0) = false := by simpa using z0
      by_cases z1 : s = 12
      · subst z1
        go_wp2_with fail
        go_ret2
        exact ⟨x, 2, rfl, hx1.1, hx1.2, .inr (.inr rfl), K9.out⟩
      · have t1 : (s == 12) = false := by simpa using z1
        go_wp2_with fail
        go_ret2
        exact ⟨x, 0, rfl, hx1.1, hx1.2, .inl rfl, K9.out⟩
  · have b1 : (50 : Int) ≤ (L : Int) := by omega
    have c1 := Lib.hid (adj_u h0.out s0.out (by omega) (a + q) (by omega) (by omega) hn)
    have e1 : (a : Int) + (L : Int) / 4 = ((a + q : Nat) : Int) := by omega
    have e2 : (a : Int) + (L : Int) / 4 * 2 = ((a + q * 2 : Nat) : Int) := by omega
    have e3 : (a : Int) + (L : Int) / 4 * 3 = ((a + q * 3 : Nat) : Int) := by omega
    have e1' := Lib.hid e1
    have e2' := Lib.hid e2
    have e3' := Lib.hid e3
    clear e1 e2 e3
    go_wp2_with fail
    rw [e1'.out, ← hW'.out]
    refine c1.out.mono ?_
    rintro e w1 ⟨x1, rfl, hx1, hs1, hk1⟩
    have c2 := Lib.hid (adj_u (h0.out.keepsU hk1 (by omega)) hs1 (by omega) (a + q * 2) (by omega) (by omega) hn)
    have K1 := Lib.hid (k0.out.trans_ hk1)
    have H1 := Lib.hid (h0.out.keepsU hk1 (by omega))
    clear hs1 hk1
    go_wp2_with fail
    rw [e2'.out]
    refine c2.out.mono ?_
    rintro e w2 ⟨x2, rfl, hx2, hs2, hk2⟩
    have c3 := Lib.hid (adj_u (H1.out.keepsU hk2 (by omega)) hs2 (by omega) (a + q * 3) (by omega) (by omega) hn)
    have K2 := Lib.hid (K1.out.trans_ hk2)
    have H2 := Lib.hid (H1.out.keepsU hk2 (by omega))
    clear hs2 hk2
    go_wp2_with fail
    rw [e3'.out]
    refine c3.out.mono ?_
    rintro e w3 ⟨x3, rfl, hx3, hs3, hk3⟩
    have c4 := Lib.hid (med_u (H2.out.keepsU hk3 (by omega)) hs3 (by omega) x1 x2 x3 (by omega) (by omega) (by omega) hn)
    have K3 := Lib.hid (K2.out.trans_ hk3)
    clear hs3 hk3
    go_wp2_with fail
    refine c4.out.mono ?_
    rintro e w4 ⟨x, rfl, hx, ⟨s, hs⟩, hk⟩
    have hxx : a ≤ x ∧ x < b := by omega
    have x0 : w4.cell? ⟨w.heap.size, 0, none⟩ = some (.int .i64 s) := hs.at_ 0
    have K1 := Lib.hid (K3.out.trans_ hk)
    have hx1 := hxx
    clear hs hk hx hxx hx2 hx3
    have K9 := Lib.hid (show Keeps (fun _ => False) w w4 from K1.out.mono fun x hx e => by omega)
    clear K1
    by_cases z0 : s = 0
    · subst z0
      go_wp2_with fail
      go_ret2
      exact ⟨x, 1, rfl, hx1.1, hx1.2, .inr (.inl rfl), K9.out⟩
    · have t0 : (s == 0) = false := by simpa using z0
      by_cases z1 : s = 12
      · subst z1
        go_wp2_with fail
        go_ret2
        exact ⟨x, 2, rfl, hx1.1, hx1.2, .inr (.inr rfl), K9.out⟩
      · have t1 : (s == 12) = false := by simpa using z1
        go_wp2_with fail
        go_ret2
        exact ⟨x, 0, rfl, hx1.1, hx1.2, .inl rfl, K9.out⟩
end Go.Proofs.YtkolkimmhlmlgaaDoor
