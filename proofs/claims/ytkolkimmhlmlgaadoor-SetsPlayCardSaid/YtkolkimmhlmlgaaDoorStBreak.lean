/-
  slices.breakPatternsOrdered at uint64 by contract: what it leaves in the row is a permutation of what it held between the bounds.
-/
import Derived.Test.YtkolkimmhlmlgaaDoorStLenLay
import Derived.Sort.AssemblyPlain
namespace Go.Proofs.YtkolkimmhlmlgaaDoor
open Go.RowKit
open Go.Sort (swp PermIn swp_permIn permIn_refl permIn_trans)

theorem bx {x y : Nat} (hx : x < 18446744073709551616) (hy : y < 18446744073709551616) : ∃ z : Nat, z < 18446744073709551616 ∧ bits .xor .u64 (x : Int) (y : Int) = (z : Int) :=
  ⟨x ^^^ y, Nat.xor_lt_two_pow (n := 64) (by omega) (by omega), bits_xor_u64_nat _ _ hx hy⟩
theorem shl_u (x k : Nat) : IntKind.u64.wrap ((x : Int) * (k : Int)) = ((x * k % 18446744073709551616 : Nat) : Int) := by
  rw [IntKind.wrap_u64, ← Int.natCast_mul]
  omega

/-- The random number's box. -/
def Rnd (w : World) (rb : Nat) : Prop := ∃ x : Nat, x < 18446744073709551616 ∧ Whole w rb 139 #[.int .u64 x]

theorem Rnd.keeps {w w' : World} {rb : Nat} {S : Nat → Prop} (h : Rnd w rb) (k : Keeps S w w') (hS : ¬ S rb) : Rnd w' rb := by
  obtain ⟨s, hl, h⟩ := h; exact ⟨s, hl, h.keeps k hS⟩

set_option maxRecDepth 100000 in
theorem xor_u {w : World} {rb : Nat} (h : Rnd w rb) :
    Calls Tryd.prog 68 #[.pointer (some ⟨rb, 0, none⟩)] w fun e w' => ∃ x : Nat, e = .returned (.int .u64 x) ∧ x < 18446744073709551616 ∧ Rnd w' rb ∧ Keeps (fun x => x = rb) w w' := by
  obtain ⟨X, hX, h⟩ := h
  obtain ⟨A, lA, e1⟩ := bx hX (y := X * 8192 % 18446744073709551616) (Nat.mod_lt _ (by decide))
  rw [← shl_u] at e1
  obtain ⟨B, lB, e2⟩ := bx lA (y := A / 128) (by omega)
  obtain ⟨C, lC, e3⟩ := bx lB (y := B * 131072 % 18446744073709551616) (Nat.mod_lt _ (by decide))
  rw [← shl_u] at e3
  have e2' : bits .xor .u64 (A : Int) ((A : Int) / 128) = (B : Int) := by rw [← e2]; congr 1
  have e1' : bits .xor .u64 (X : Int) (IntKind.u64.wrap ((X : Int) * 8192)) = (A : Int) := e1
  have e3' : bits .xor .u64 (B : Int) (IntKind.u64.wrap ((B : Int) * 131072)) = (C : Int) := e3
  have c : w.cell? ⟨rb, 0, none⟩ = some (.int .u64 X) := h.at_ 0
  have f : w.frozen? ⟨rb, 0, none⟩ = false := h.free 0
  have hss : ∀ v v', (w.setCell ⟨rb, 0, none⟩ v).setCell ⟨rb, 0, none⟩ v' = w.setCell ⟨rb, 0, none⟩ v' := Go.Proofs.setCell_setCell w rb 0
  have h' := Lib.hid h
  clear h e1 e2 e3
  go_enter Tryd.func68, Tryd.ntmps68
  go_wp2_with fail
  go_region
  go_wp2_with fail
  go_region
  go_wp2_with fail
  go_region
  go_wp2_with fail
  go_ret
  exact ⟨C, rfl, lC, ⟨C, lC, h'.out.set_ 0 _⟩, ((Keeps.refl (fun x => x = rb) w).setCell (p := ⟨rb, 0, none⟩) (fun _ => rfl) _).drewN 3⟩

/-- The mask: what is kept is below it. -/
theorem mask_u (x M : Nat) (hx : x < 18446744073709551616) (hM : 0 < M) (hM' : M ≤ 18446744073709551616) : ∃ z : Nat, z < M ∧ bits .and .u64 (x : Int) ((M - 1 : Nat) : Int) = (z : Int) :=
  ⟨x &&& (M - 1), Nat.lt_of_le_of_lt Nat.and_le_right (by omega), bits_and_u64_nat _ _ hx (by omega)⟩

set_option maxRecDepth 100000 in
theorem break_u {w : World} {g o n cap : Nat} {d : Array Int} (h : URow w g o n cap d) (a b : Nat) (hab : a + 8 ≤ b) (hb : b ≤ n) (hn : n < 4611686018427387904) :
    Calls Tryd.prog 57 #[.slice (some ⟨g, o, none⟩) n cap, .int .i64 a, .int .i64 b] w fun e w' => e = .returned (.tuple #[]) ∧ ∃ d', Srt w w' g o n cap d' ∧ PermIn a b d d' := by
  have hg := h.lt
  obtain ⟨L, hL⟩ : ∃ L, L = b - a := ⟨_, rfl⟩
  have w1 : IntKind.i64.wrap ((b : Int) - (a : Int)) = (L : Int) := by rw [show (b : Int) - (a : Int) = (L : Int) by omega]; exact IntWalk.i64_in _ (by omega)
  have w2 : IntKind.u64.wrap (L : Int) = (L : Int) := IntWalk.u64_in _ (by omega)
  have hL8 : 8 ≤ L := by omega
  have hab' : a + L = b := by omega
  have h0 := Lib.hid (h.keepsU ((Keeps.refl (fun _ => False) w).alloc (.cells #[.int .u64 L] 139)) id)
  have s0 := Lib.hid (show Rnd (w.alloc (.cells #[.int .u64 L] 139)) w.heap.size from ⟨L, by omega, Whole.made w 139 #[.int .u64 L]⟩)
  have k0 := Lib.hid ((Keeps.refl (fun x => x = g) w).alloc (.cells #[.int .u64 L] 139))
  have cn := Lib.hid (next_u L (by omega) (by omega) (w.alloc (.cells #[.int .u64 L] 139)))
  have hsz := h.2.1
  clear h hL
  go_enter Tryd.func57, Tryd.ntmps57
  obtain ⟨q, hq⟩ : ∃ q, q = L / 4 := ⟨_, rfl⟩
  have e4 : (L : Int) / 4 = (q : Int) := by omega
  have q1 : 4 * q ≤ L := by omega
  have q2 : 2 ≤ q := by omega
  clear hq
  obtain ⟨W, hW⟩ : ∃ W, W = w.alloc (.cells #[.int .u64 L] 139) := ⟨_, rfl⟩
  rw [← hW] at h0 s0 k0 cn
  have hW' := Lib.hid hW
  clear hW
  go_wp2_with (first | (go_at_call 67; rw [← hW'.out]; refine cn.out.mono ?_; rintro e w' ⟨M, rfl, hM0, hM, rfl⟩))
  go_loopw [9] (fun iv wx => ∃ (i : Nat) (d' : Array Int), iv = .int .i64 i ∧ a ≤ i ∧ i ≤ a + q * 2 + 2 ∧ Srt w wx g o n cap d' ∧ Rnd wx w.heap.size ∧ PermIn a b d d') (fun iv _ => a + q * 2 + 2 - (intOf iv).toNat)
  case atStart => exact ⟨a + q * 2 - 1, d, by congr 1; omega, by omega, by omega, ⟨h0.out, k0.out⟩, s0.out, permIn_refl _ _ _⟩
  case round =>
    clear h0 s0 k0 cn
    obtain ⟨i, d1, rfl, hai, hi2, hS, hR, hP⟩ := hrel
    have P1 := Lib.hid hP
    by_cases hlt : i ≤ a + q * 2 + 1
    · have hib : i < b := by omega
      have b1 : (i : Int) ≤ (a : Int) + (q : Int) * 2 + 1 := by omega
      have cx := Lib.hid (xor_u hR)
      have S1 := Lib.hid hS
      clear hS hR hP
      go_wp2_with fail
      refine cx.out.mono ?_
      rintro e w3 ⟨x, rfl, hx, hR3, hk3⟩
      obtain ⟨z, hz, em⟩ := mask_u x M hx hM0 (by omega)
      have em' : bits .and .u64 (x : Int) ((M : Int) - 1) = (z : Int) := by rw [← em]; congr 1; omega
      have w5 : IntKind.i64.wrap (z : Int) = (z : Int) := IntWalk.i64_in _ (by omega)
      have R3 := Lib.hid hR3
      have SX := Lib.hid (S1.out.keepsU hk3 (fun y hy e => by omega) (by omega))
      obtain ⟨G, hG, c, f⟩ := SX.out.fam
      have G1 := Lib.hid hG
      clear hR3 hk3 hG em S1
      by_cases hzL : L ≤ z
      · have b2 : (L : Int) ≤ (z : Int) := by omega
        have w7 : IntKind.i64.wrap ((z : Int) - (L : Int)) = ((z - L : Nat) : Int) := by rw [show (z : Int) - (L : Int) = ((z - L : Nat) : Int) by omega]; exact IntWalk.i64_in _ (by omega)
        obtain ⟨y, hy⟩ : ∃ y, y = z - L := ⟨_, rfl⟩
        rw [← hy] at w7
        have hyL : y < L := by omega
        clear hy
        have hoth : a + y < b := by omega
        have w6 : IntKind.i64.wrap ((a : Int) + (y : Int)) = ((a + y : Nat) : Int) := by rw [show (a : Int) + (y : Int) = ((a + y : Nat) : Int) by omega]; exact IntWalk.i64_in _ (by omega)
        obtain ⟨j, hj⟩ : ∃ j, j = a + y := ⟨_, rfl⟩
        rw [← hj] at hoth w6
        have haj : a ≤ j := by omega
        clear hj
        have hw := (SX.out.drewN 1).swap i j (by omega) (by omega)
        rw [← G1.out, ← G1.out] at hw
        have hw' := Lib.hid hw
        have hr' := Lib.hid (show Rnd (((w3.drewN 1).setCell ⟨g, o + i, none⟩ (encU (G j))).setCell ⟨g, o + j, none⟩ (encU (G i))) w.heap.size from R3.out.keeps (((Keeps.refl (fun x => x = g) w3).drewN 1).setCell (p := ⟨g, o + i, none⟩) (fun _ => rfl) _ |>.setCell (p := ⟨g, o + j, none⟩) (fun _ => rfl) _) (by omega))
        have hp' := Lib.hid (permIn_trans _ _ _ _ _ P1.out (swp_permIn d1 a b i j hai hib haj hoth (by have := SX.out.size; omega)))
        clear hw
        by_cases he : i = j
        · subst he
          go_wp2_with fail
          go_region
          go_wp2_with fail
          go_roundw
          case rel => exact ⟨i + 1, _, by go_num, by omega, by omega, hw'.out, hr'.out, hp'.out⟩
          case measure => simp [intOf]; omega
        · go_wp2_with fail
          go_region
          go_wp2_with fail
          go_roundw
          case rel => exact ⟨i + 1, _, by go_num, by omega, by omega, hw'.out, hr'.out, hp'.out⟩
          case measure => simp [intOf]; omega
      · have b2 : ¬ (L : Int) ≤ (z : Int) := by omega
        have hoth : a + z < b := by omega
        have w6 : IntKind.i64.wrap ((a : Int) + (z : Int)) = ((a + z : Nat) : Int) := by rw [show (a : Int) + (z : Int) = ((a + z : Nat) : Int) by omega]; exact IntWalk.i64_in _ (by omega)
        obtain ⟨j, hj⟩ : ∃ j, j = a + z := ⟨_, rfl⟩
        rw [← hj] at hoth w6
        have haj : a ≤ j := by omega
        clear hj
        have hw := (SX.out.drewN 1).swap i j (by omega) (by omega)
        rw [← G1.out, ← G1.out] at hw
        have hw' := Lib.hid hw
        have hr' := Lib.hid (show Rnd (((w3.drewN 1).setCell ⟨g, o + i, none⟩ (encU (G j))).setCell ⟨g, o + j, none⟩ (encU (G i))) w.heap.size from R3.out.keeps (((Keeps.refl (fun x => x = g) w3).drewN 1).setCell (p := ⟨g, o + i, none⟩) (fun _ => rfl) _ |>.setCell (p := ⟨g, o + j, none⟩) (fun _ => rfl) _) (by omega))
        have hp' := Lib.hid (permIn_trans _ _ _ _ _ P1.out (swp_permIn d1 a b i j hai hib haj hoth (by have := SX.out.size; omega)))
        clear hw
        by_cases he : i = j
        · subst he
          go_wp2_with fail
          go_region
          go_wp2_with fail
          go_roundw
          case rel => exact ⟨i + 1, _, by go_num, by omega, by omega, hw'.out, hr'.out, hp'.out⟩
          case measure => simp [intOf]; omega
        · go_wp2_with fail
          go_region
          go_wp2_with fail
          go_roundw
          case rel => exact ⟨i + 1, _, by go_num, by omega, by omega, hw'.out, hr'.out, hp'.out⟩
          case measure => simp [intOf]; omega
    · have b1 : ¬ (i : Int) ≤ (a : Int) + (q : Int) * 2 + 1 := by omega
      have S1 := Lib.hid hS
      clear hS hR hP
      go_wp2_with fail
      go_end0
      exact ⟨rfl, d1, S1.out, P1.out⟩
end Go.Proofs.YtkolkimmhlmlgaaDoor
