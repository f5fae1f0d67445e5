/-
  read: a word as an Arg, by contract.
-/
import Derived.Test.YtcdlchcmidfhiaaGreatDoorTpWord
import Derived.Deep.QuietTactic
import Derived.Deep.RegionHeld3
import Derived.BigQuiet
namespace Go.Proofs.YtcdlchcmidfhiaaGreatDoor
open Go.RowKit Go.Maps Go.Extern.Stop Go.Stop Go.Extern

set_option maxRecDepth 100000 in
set_option maxHeartbeats 1000000 in
theorem read_reg {w : World} (b : UInt8) (t : Str) (h1 : 49 ≤ b.toNat) (h2 : b.toNat ≤ 56) (hl : (114 :: b :: t).length ≤ 20000) (hg : GlobT w) (R : Nat) (N : Int) (ok : Bool) (e1 : rdR (114 :: b :: t) = R) (hN : Hid (rdN (114 :: b :: t) = N)) (hok : Hid (rdOk (114 :: b :: t) = ok)) :
    Calls Tryz.prog 88 #[.string (mkB (114 :: b :: t))] w fun e w' => e = .returned (.tuple #[.agg #[.int .i64 (R : Nat), .int .i64 N], .bool ok]) ∧ Keeps (fun _ => False) w w' := by
  have hz := mkB_size (114 :: b :: t)
  have HG := Lib.hid hg
  have hR : b.toNat - 48 = R := by rw [← e1]; unfold rdR; simp only; rw [if_pos ⟨h1, h2⟩]
  have e2 : rdS (114 :: b :: t) = t := by unfold rdS; rw [e1, if_neg (by omega)]; rfl
  have j0 : ∀ V, (Instr.index 9 (.string (mkB (114 :: b :: t))) (.int .i64 0)).run Tryz.prog V = .ok (.int .u8 114) V := fun V => str_at (114 :: b :: t) 0 114 rfl V
  have j1 : ∀ V, (Instr.index 9 (.string (mkB (114 :: b :: t))) (.int .i64 1)).run Tryz.prog V = .ok (.int .u8 (b.toNat : Nat)) V := fun V => str_at (114 :: b :: t) 1 b rfl V
  have cf : ∀ V, (Instr.slice 9 (.string (mkB (114 :: b :: t))) (some (.int .i64 2)) none none).run Tryz.prog V = .ok (.string (mkB t)) V := fun V => str_from (114 :: b :: t) 2 (by simp) V
  have u1 : IntKind.u8.wrap ((b.toNat : Int) - 48) = (b.toNat : Int) - 48 := IntWalk.u8_in _ (by omega)
  have u2 : IntKind.i64.wrap ((b.toNat : Int) - 48) = (b.toNat : Int) - 48 := IntWalk.i64_in _ (by omega)
  have L1 : (1 : Int) < ((mkB (114 :: b :: t)).size : Int) := by rw [hz]; simp; omega
  have b49 : (49 : Int) ≤ (b.toNat : Int) := by omega
  have b56 : (b.toNat : Int) ≤ 56 := by omega
  have hRi : (b.toNat : Int) - 48 = (R : Int) := by omega
  have r8 : R ≤ 8 := by omega
  rw [hRi] at u1 u2
  clear hg h1 h2 hz
  go_enter Tryz.func88, Tryz.ntmps88
  go_wp2_with fail
  obtain ⟨W2, hW2⟩ : ∃ V, V = (w.alloc (.cells #[.int .i64 0, .int .i64 0] 43)).alloc (.cells #[.int .i64 0, .int .i64 0] 43) := ⟨_, rfl⟩
  have K2 : Keeps (fun _ => False) w W2 := by rw [hW2]; exact ((Keeps.refl _ w).alloc _).alloc _
  have A2 : Whole W2 w.heap.size 43 #[.int .i64 0, .int .i64 0] := by rw [hW2]; exact (Whole.made w _ _).alloc _
  have B2 : Whole W2 (w.heap.size + 1) 43 #[.int .i64 0, .int .i64 0] := by rw [hW2]; have := Whole.made (w.alloc (.cells #[.int .i64 0, .int .i64 0] 43)) 43 #[.int .i64 0, .int .i64 0]; rw [World.size_alloc] at this; exact this
  rw [← hW2]
  have g0 : W2.cell? ⟨w.heap.size + 1, 0, none⟩ = some (.int .i64 0) := B2.at_ 0
  have g2 : W2.frozen? ⟨w.heap.size + 1, 0, none⟩ = false := B2.free 0
  clear hW2
  go_region
  clear hRi hR
  obtain ⟨W3, hW3⟩ : ∃ V, V = (W2.setCell ⟨w.heap.size + 1, 0, none⟩ (.int .i64 (R : Int))).drew := ⟨_, rfl⟩
  have K3 : Keeps (fun _ => False) w W3 := by rw [hW3]; exact (K2.setCell (p := ⟨w.heap.size + 1, 0, none⟩) (fun h => by simp at h; omega) _).drew
  have A3 : Whole W3 w.heap.size 43 #[.int .i64 0, .int .i64 0] := by rw [hW3]; exact (A2.far (p := ⟨w.heap.size + 1, 0, none⟩) (fun h => by simp at h) _).drew
  have B3 : Whole W3 (w.heap.size + 1) 43 #[.int .i64 (R : Int), .int .i64 0] := by rw [hW3]; exact (B2.set_ 0 _).drew
  rw [← hW3]
  clear hW3 K2 A2 B2 g0 g2
  have eN : atN t = N := by rw [← hN.out]; unfold rdN; rw [e2]
  have nb : -9223372036854775808 ≤ N ∧ N ≤ 9223372036854775807 := by rw [← eN]; exact at_bounds _
  have CA := Lib.hid (at_any (w := W3) t (by first | omega | (simp at hl ⊢; omega)) (HG.out.keeps K3 id))
  rw [eN] at CA
  have k3 := Lib.hid K3
  have A3' := Lib.hid A3
  have B3' := Lib.hid B3
  clear K3 A3 B3 eN u1 u2 j0 j1 cf
  go_wp2_with fail
  refine CA.out.mono ?_
  rintro e w4 ⟨ev, rfl, hK⟩
  have K4 := Lib.hid (k3.out.trans hK fun _ _ => id)
  have A4 := Lib.hid (A3'.out.keeps hK id)
  have B4 := Lib.hid (B3'.out.keeps hK id)
  have g1 : w4.cell? ⟨w.heap.size + 1, 1, none⟩ = some (.int .i64 0) := B4.out.at_ 1
  have g2 : w4.frozen? ⟨w.heap.size + 1, 1, none⟩ = false := B4.out.free 1
  clear hK CA
  go_wp2_with fail
  obtain ⟨W5, hW5⟩ : ∃ V, V = w4.setCell ⟨w.heap.size + 1, 1, none⟩ (.int .i64 N) := ⟨_, rfl⟩
  have n1 : w.heap.size + 1 ≠ w.heap.size := by omega
  have K5 := Lib.hid (show Keeps (fun _ => False) w W5 by rw [hW5]; exact K4.out.setCell (p := ⟨w.heap.size + 1, 1, none⟩) (fun h => by simp at h; omega) _)
  have A5 := Lib.hid (show Whole W5 w.heap.size 43 #[.int .i64 0, .int .i64 0] by rw [hW5]; exact A4.out.far (p := ⟨w.heap.size + 1, 1, none⟩) (fun h => by simp at h) _)
  have B5 := Lib.hid (show Whole W5 (w.heap.size + 1) 43 #[.int .i64 (R : Int), .int .i64 N] by rw [hW5]; exact B4.out.set_ 1 _)
  rw [← hW5]
  have s0 := Lib.hid (And.intro (B5.out.at_ 0 : W5.drew.cell? ⟨w.heap.size + 1, 0, none⟩ = some (.int .i64 (R : Int))) (B5.out.at_ 1 : W5.drew.cell? ⟨w.heap.size + 1, 1, none⟩ = some (.int .i64 N)))
  have c0 : W5.cell? ⟨w.heap.size + 1, 0, none⟩ = some (.int .i64 (R : Int)) := B5.out.at_ 0
  have c1 : W5.cell? ⟨w.heap.size + 1, 1, none⟩ = some (.int .i64 N) := B5.out.at_ 1
  have d0 : W5.cell? ⟨w.heap.size, 0, none⟩ = some (.int .i64 0) := A5.out.at_ 0
  have d1 : W5.cell? ⟨w.heap.size, 1, none⟩ = some (.int .i64 0) := A5.out.at_ 1
  have f0 : W5.frozen? ⟨w.heap.size, 0, none⟩ = false := A5.out.free 0
  have f1 : W5.frozen? ⟨w.heap.size, 1, none⟩ = false := A5.out.free 1
  clear hW5 g1 g2
  by_cases q1 : -9999 ≤ N
  · by_cases q2 : N ≤ 9999
    · have CW := Lib.hid (fun V (k : Keeps (fun _ => False) w V) => written_any (w := V) (R : Int) N (by omega) nb (HG.out.keeps k id))
      obtain ⟨X, hX⟩ : ∃ X, wrT (R : Int) N = X := ⟨_, rfl⟩
      rw [hX] at CW
      have okE : ((mkB X).toList == (mkB (114 :: b :: t)).toList) = ok := by
        rw [mkB_list, mkB_list, ← hok.out]
        unfold rdOk
        rw [hN.out, e1, hX, decide_eq_true ⟨q1, q2⟩, Bool.true_and]
      clear hX
      go_region_held3 (fun V => V.cell? ⟨w.heap.size + 1, 0, none⟩ = some (.int .i64 (R : Int)) ∧ V.cell? ⟨w.heap.size + 1, 1, none⟩ = some (.int .i64 N)) (first | exact sB.out | exact sA.out | exact s0.out)
        (first
          | (go_at_call 79; refine (CW.out _ K5.out.drew).mono ?_; rintro e w6 ⟨rfl, hK6⟩; have sA := Lib.hid (And.intro ((B5.out.drew.keeps hK6 id).at_ 0) ((B5.out.drew.keeps hK6 id).at_ 1)); have K6 := Lib.hid (K5.out.drew.trans hK6 fun _ _ => id); have A6 := Lib.hid (A5.out.drew.keeps hK6 id); have B6 := (((B5.out.drew.keeps hK6 id).far (p := ⟨w.heap.size, 0, none⟩) (fun h => by simp at h) (.int .i64 (R : Int))).far (p := ⟨w.heap.size, 1, none⟩) (fun h => by simp at h) (.int .i64 N)); have sB := Lib.hid (And.intro (B6.at_ 0) (B6.at_ 1)); clear B6; have x0 := A6.out.at_ 0; have x1 := A6.out.at_ 1; have y0 := A6.out.free 0; have y1 := A6.out.free 1; clear hK6))
      obtain ⟨W7, hW7⟩ : ∃ V, V = (w6.setCell ⟨w.heap.size, 0, none⟩ (.int .i64 (R : Int))).setCell ⟨w.heap.size, 1, none⟩ (.int .i64 N) := ⟨_, rfl⟩
      have K7 := Lib.hid (show Keeps (fun _ => False) w W7 by rw [hW7]; exact (K6.out.setCell (p := ⟨w.heap.size, 0, none⟩) (fun h => by simp at h) _).setCell (p := ⟨w.heap.size, 1, none⟩) (fun h => by simp at h) _)
      have A7 := Lib.hid (show Whole W7 w.heap.size 43 #[.int .i64 (R : Int), .int .i64 N] by rw [hW7]; exact (A6.out.set_ 0 _).set_ 1 _)
      rw [← hW7]
      have z0 := A7.out.at_ 0
      have z1 := A7.out.at_ 1
      clear hW7 sA sB x0 x1 y0 y1 c0 c1 d0 d1 f0 f1
      go_wp2_with fail
      try simp only [Exit.inBlock, Exit.then]
      exact bodyPost_ret (v := .tuple #[.agg #[.int .i64 (R : Int), .int .i64 N], .bool ok]) (by simp [results, Tryz.results88, go_sem, z0, z1]) rfl ⟨rfl, K7.out⟩
    · have okf : ok = false := by rw [← hok.out]; unfold rdOk; rw [hN.out, decide_eq_false (fun h => q2 h.2), Bool.false_and]
      subst okf
      go_region
      obtain ⟨W7, hW7⟩ : ∃ V, V = ((W5.setCell ⟨w.heap.size, 0, none⟩ (.int .i64 (R : Int))).setCell ⟨w.heap.size, 1, none⟩ (.int .i64 N)).drew := ⟨_, rfl⟩
      have K7 := Lib.hid (show Keeps (fun _ => False) w W7 by rw [hW7]; exact ((K5.out.setCell (p := ⟨w.heap.size, 0, none⟩) (fun h => by simp at h) _).setCell (p := ⟨w.heap.size, 1, none⟩) (fun h => by simp at h) _).drew)
      have A7 := Lib.hid (show Whole W7 w.heap.size 43 #[.int .i64 (R : Int), .int .i64 N] by rw [hW7]; exact ((A5.out.set_ 0 _).set_ 1 _).drew)
      rw [← hW7]
      have z0 := A7.out.at_ 0
      have z1 := A7.out.at_ 1
      clear hW7 c0 c1 d0 d1 f0 f1
      go_wp2_with fail
      try simp only [Exit.inBlock, Exit.then]
      exact bodyPost_ret (v := .tuple #[.agg #[.int .i64 (R : Int), .int .i64 N], .bool false]) (by simp [results, Tryz.results88, go_sem, z0, z1]) rfl ⟨rfl, K7.out⟩
  · have okf : ok = false := by rw [← hok.out]; unfold rdOk; rw [hN.out, decide_eq_false (fun h => q1 h.1), Bool.false_and]
    subst okf
    go_region
    obtain ⟨W7, hW7⟩ : ∃ V, V = ((W5.setCell ⟨w.heap.size, 0, none⟩ (.int .i64 (R : Int))).setCell ⟨w.heap.size, 1, none⟩ (.int .i64 N)).drew := ⟨_, rfl⟩
    have K7 := Lib.hid (show Keeps (fun _ => False) w W7 by rw [hW7]; exact ((K5.out.setCell (p := ⟨w.heap.size, 0, none⟩) (fun h => by simp at h) _).setCell (p := ⟨w.heap.size, 1, none⟩) (fun h => by simp at h) _).drew)
    have A7 := Lib.hid (show Whole W7 w.heap.size 43 #[.int .i64 (R : Int), .int .i64 N] by rw [hW7]; exact ((A5.out.set_ 0 _).set_ 1 _).drew)
    rw [← hW7]
    have z0 := A7.out.at_ 0
    have z1 := A7.out.at_ 1
    clear hW7 c0 c1 d0 d1 f0 f1
    go_wp2_with fail
    try simp only [Exit.inBlock, Exit.then]
    exact bodyPost_ret (v := .tuple #[.agg #[.int .i64 (R : Int), .int .i64 N], .bool false]) (by simp [results, Tryz.results88, go_sem, z0, z1]) rfl ⟨rfl, K7.out⟩

set_option maxRecDepth 100000 in
set_option maxHeartbeats 1000000 in
theorem read_no1 {w : World} (W : Str) (h : W.length ≤ 1) (hg : GlobT w) (N : Int) (ok : Bool) (e1 : rdR (W) = 0) (hN : Hid (rdN (W) = N)) (hok : Hid (rdOk (W) = ok)) :
    Calls Tryz.prog 88 #[.string (mkB (W))] w fun e w' => e = .returned (.tuple #[.agg #[.int .i64 0, .int .i64 N], .bool ok]) ∧ Keeps (fun _ => False) w w' := by
  have hz := mkB_size (W)
  have HG := Lib.hid hg
  have e2 : rdS (W) = W := by unfold rdS; rw [if_pos e1]
  have e0 : ((0 : Nat) : Int) = 0 := rfl
  have L1 : ¬ (1 : Int) < ((mkB W).size : Int) := by rw [hz]; omega
  clear hg hz
  go_enter Tryz.func88, Tryz.ntmps88
  go_wp2_with fail
  obtain ⟨W3, hW3⟩ : ∃ V, V = (w.alloc (.cells #[.int .i64 0, .int .i64 0] 43)).alloc (.cells #[.int .i64 0, .int .i64 0] 43) := ⟨_, rfl⟩
  have K3 : Keeps (fun _ => False) w W3 := by rw [hW3]; exact ((Keeps.refl _ w).alloc _).alloc _
  have A3 : Whole W3 w.heap.size 43 #[.int .i64 0, .int .i64 0] := by rw [hW3]; exact (Whole.made w _ _).alloc _
  have B3 : Whole W3 (w.heap.size + 1) 43 #[.int .i64 0, .int .i64 0] := by rw [hW3]; have := Whole.made (w.alloc (.cells #[.int .i64 0, .int .i64 0] 43)) 43 #[.int .i64 0, .int .i64 0]; rw [World.size_alloc] at this; exact this
  have eN : atN W = N := by rw [← hN.out]; unfold rdN; rw [e2]
  have nb : -9223372036854775808 ≤ N ∧ N ≤ 9223372036854775807 := by rw [← eN]; exact at_bounds _
  have CA := Lib.hid (at_any (w := W3) W (by first | omega | (simp at hl ⊢; omega)) (HG.out.keeps K3 id))
  rw [eN] at CA
  try rw [← hW3]
  have k3 := Lib.hid K3
  have A3' := Lib.hid A3
  have B3' := Lib.hid B3
  clear K3 A3 B3 eN hW3 L1
  go_wp2_with fail
  refine CA.out.mono ?_
  rintro e w4 ⟨ev, rfl, hK⟩
  have K4 := Lib.hid (k3.out.trans hK fun _ _ => id)
  have A4 := Lib.hid (A3'.out.keeps hK id)
  have B4 := Lib.hid (B3'.out.keeps hK id)
  have g1 : w4.cell? ⟨w.heap.size + 1, 1, none⟩ = some (.int .i64 0) := B4.out.at_ 1
  have g2 : w4.frozen? ⟨w.heap.size + 1, 1, none⟩ = false := B4.out.free 1
  clear hK CA
  go_wp2_with fail
  obtain ⟨W5, hW5⟩ : ∃ V, V = w4.setCell ⟨w.heap.size + 1, 1, none⟩ (.int .i64 N) := ⟨_, rfl⟩
  have n1 : w.heap.size + 1 ≠ w.heap.size := by omega
  have K5 := Lib.hid (show Keeps (fun _ => False) w W5 by rw [hW5]; exact K4.out.setCell (p := ⟨w.heap.size + 1, 1, none⟩) (fun h => by simp at h; omega) _)
  have A5 := Lib.hid (show Whole W5 w.heap.size 43 #[.int .i64 0, .int .i64 0] by rw [hW5]; exact A4.out.far (p := ⟨w.heap.size + 1, 1, none⟩) (fun h => by simp at h) _)
  have B5 := Lib.hid (show Whole W5 (w.heap.size + 1) 43 #[.int .i64 0, .int .i64 N] by rw [hW5]; exact B4.out.set_ 1 _)
  rw [← hW5]
  have s0 := Lib.hid (And.intro (B5.out.at_ 0 : W5.drew.cell? ⟨w.heap.size + 1, 0, none⟩ = some (.int .i64 0)) (B5.out.at_ 1 : W5.drew.cell? ⟨w.heap.size + 1, 1, none⟩ = some (.int .i64 N)))
  have c0 : W5.cell? ⟨w.heap.size + 1, 0, none⟩ = some (.int .i64 0) := B5.out.at_ 0
  have c1 : W5.cell? ⟨w.heap.size + 1, 1, none⟩ = some (.int .i64 N) := B5.out.at_ 1
  have d0 : W5.cell? ⟨w.heap.size, 0, none⟩ = some (.int .i64 0) := A5.out.at_ 0
  have d1 : W5.cell? ⟨w.heap.size, 1, none⟩ = some (.int .i64 0) := A5.out.at_ 1
  have f0 : W5.frozen? ⟨w.heap.size, 0, none⟩ = false := A5.out.free 0
  have f1 : W5.frozen? ⟨w.heap.size, 1, none⟩ = false := A5.out.free 1
  clear hW5 g1 g2
  by_cases q1 : -9999 ≤ N
  · by_cases q2 : N ≤ 9999
    · have CW := Lib.hid (fun V (k : Keeps (fun _ => False) w V) => written_any (w := V) 0 N (by omega) nb (HG.out.keeps k id))
      obtain ⟨X, hX⟩ : ∃ X, wrT 0 N = X := ⟨_, rfl⟩
      rw [hX] at CW
      have okE : ((mkB X).toList == (mkB (W)).toList) = ok := by
        rw [mkB_list, mkB_list, ← hok.out]
        unfold rdOk
        rw [hN.out, e1, e0, hX, decide_eq_true ⟨q1, q2⟩, Bool.true_and]
      clear hX
      go_region_held3 (fun V => V.cell? ⟨w.heap.size + 1, 0, none⟩ = some (.int .i64 0) ∧ V.cell? ⟨w.heap.size + 1, 1, none⟩ = some (.int .i64 N)) (first | exact sB.out | exact sA.out | exact s0.out)
        (first
          | (go_at_call 79; refine (CW.out _ K5.out.drew).mono ?_; rintro e w6 ⟨rfl, hK6⟩; have sA := Lib.hid (And.intro ((B5.out.drew.keeps hK6 id).at_ 0) ((B5.out.drew.keeps hK6 id).at_ 1)); have K6 := Lib.hid (K5.out.drew.trans hK6 fun _ _ => id); have A6 := Lib.hid (A5.out.drew.keeps hK6 id); have B6 := (((B5.out.drew.keeps hK6 id).far (p := ⟨w.heap.size, 0, none⟩) (fun h => by simp at h) (.int .i64 0)).far (p := ⟨w.heap.size, 1, none⟩) (fun h => by simp at h) (.int .i64 N)); have sB := Lib.hid (And.intro (B6.at_ 0) (B6.at_ 1)); clear B6; have x0 := A6.out.at_ 0; have x1 := A6.out.at_ 1; have y0 := A6.out.free 0; have y1 := A6.out.free 1; clear hK6))
      obtain ⟨W7, hW7⟩ : ∃ V, V = (w6.setCell ⟨w.heap.size, 0, none⟩ (.int .i64 0)).setCell ⟨w.heap.size, 1, none⟩ (.int .i64 N) := ⟨_, rfl⟩
      have K7 := Lib.hid (show Keeps (fun _ => False) w W7 by rw [hW7]; exact (K6.out.setCell (p := ⟨w.heap.size, 0, none⟩) (fun h => by simp at h) _).setCell (p := ⟨w.heap.size, 1, none⟩) (fun h => by simp at h) _)
      have A7 := Lib.hid (show Whole W7 w.heap.size 43 #[.int .i64 0, .int .i64 N] by rw [hW7]; exact (A6.out.set_ 0 _).set_ 1 _)
      rw [← hW7]
      have z0 := A7.out.at_ 0
      have z1 := A7.out.at_ 1
      clear hW7 sA sB x0 x1 y0 y1 c0 c1 d0 d1 f0 f1
      go_wp2_with fail
      try simp only [Exit.inBlock, Exit.then]
      exact bodyPost_ret (v := .tuple #[.agg #[.int .i64 0, .int .i64 N], .bool ok]) (by simp [results, Tryz.results88, go_sem, z0, z1]) rfl ⟨rfl, K7.out⟩
    · have okf : ok = false := by rw [← hok.out]; unfold rdOk; rw [hN.out, decide_eq_false (fun h => q2 h.2), Bool.false_and]
      subst okf
      go_region
      obtain ⟨W7, hW7⟩ : ∃ V, V = ((W5.setCell ⟨w.heap.size, 0, none⟩ (.int .i64 0)).setCell ⟨w.heap.size, 1, none⟩ (.int .i64 N)).drew := ⟨_, rfl⟩
      have K7 := Lib.hid (show Keeps (fun _ => False) w W7 by rw [hW7]; exact ((K5.out.setCell (p := ⟨w.heap.size, 0, none⟩) (fun h => by simp at h) _).setCell (p := ⟨w.heap.size, 1, none⟩) (fun h => by simp at h) _).drew)
      have A7 := Lib.hid (show Whole W7 w.heap.size 43 #[.int .i64 0, .int .i64 N] by rw [hW7]; exact ((A5.out.set_ 0 _).set_ 1 _).drew)
      rw [← hW7]
      have z0 := A7.out.at_ 0
      have z1 := A7.out.at_ 1
      clear hW7 c0 c1 d0 d1 f0 f1
      go_wp2_with fail
      try simp only [Exit.inBlock, Exit.then]
      exact bodyPost_ret (v := .tuple #[.agg #[.int .i64 0, .int .i64 N], .bool false]) (by simp [results, Tryz.results88, go_sem, z0, z1]) rfl ⟨rfl, K7.out⟩
  · have okf : ok = false := by rw [← hok.out]; unfold rdOk; rw [hN.out, decide_eq_false (fun h => q1 h.1), Bool.false_and]
    subst okf
    go_region
    obtain ⟨W7, hW7⟩ : ∃ V, V = ((W5.setCell ⟨w.heap.size, 0, none⟩ (.int .i64 0)).setCell ⟨w.heap.size, 1, none⟩ (.int .i64 N)).drew := ⟨_, rfl⟩
    have K7 := Lib.hid (show Keeps (fun _ => False) w W7 by rw [hW7]; exact ((K5.out.setCell (p := ⟨w.heap.size, 0, none⟩) (fun h => by simp at h) _).setCell (p := ⟨w.heap.size, 1, none⟩) (fun h => by simp at h) _).drew)
    have A7 := Lib.hid (show Whole W7 w.heap.size 43 #[.int .i64 0, .int .i64 N] by rw [hW7]; exact ((A5.out.set_ 0 _).set_ 1 _).drew)
    rw [← hW7]
    have z0 := A7.out.at_ 0
    have z1 := A7.out.at_ 1
    clear hW7 c0 c1 d0 d1 f0 f1
    go_wp2_with fail
    try simp only [Exit.inBlock, Exit.then]
    exact bodyPost_ret (v := .tuple #[.agg #[.int .i64 0, .int .i64 N], .bool false]) (by simp [results, Tryz.results88, go_sem, z0, z1]) rfl ⟨rfl, K7.out⟩

set_option maxRecDepth 100000 in
set_option maxHeartbeats 1000000 in
theorem read_no2 {w : World} (x : UInt8) (t : Str) (h0 : t ≠ []) (hx : x ≠ 114) (hl : (x :: t).length ≤ 20000) (hg : GlobT w) (N : Int) (ok : Bool) (e1 : rdR (x :: t) = 0) (hN : Hid (rdN (x :: t) = N)) (hok : Hid (rdOk (x :: t) = ok)) :
    Calls Tryz.prog 88 #[.string (mkB (x :: t))] w fun e w' => e = .returned (.tuple #[.agg #[.int .i64 0, .int .i64 N], .bool ok]) ∧ Keeps (fun _ => False) w w' := by
  have hz := mkB_size (x :: t)
  have HG := Lib.hid hg
  have e2 : rdS (x :: t) = x :: t := by unfold rdS; rw [if_pos e1]
  have e0 : ((0 : Nat) : Int) = 0 := rfl
  have j0 : ∀ V, (Instr.index 9 (.string (mkB (x :: t))) (.int .i64 0)).run Tryz.prog V = .ok (.int .u8 (x.toNat : Nat)) V := fun V => str_at (x :: t) 0 x rfl V
  have L1 : (1 : Int) < ((mkB (x :: t)).size : Int) := by rw [hz]; cases t with | nil => exact absurd rfl h0 | cons y z => simp; omega
  have bx : ((x.toNat : Int) == 114) = false := by have := u8_eq x 114 (by decide); rw [show ((114 : Nat) : Int) = 114 from rfl] at this; rw [this]; exact decide_eq_false hx
  clear hg hz
  go_enter Tryz.func88, Tryz.ntmps88
  go_wp2_with fail
  obtain ⟨W3, hW3⟩ : ∃ V, V = (w.alloc (.cells #[.int .i64 0, .int .i64 0] 43)).alloc (.cells #[.int .i64 0, .int .i64 0] 43) := ⟨_, rfl⟩
  have K3 : Keeps (fun _ => False) w W3 := by rw [hW3]; exact ((Keeps.refl _ w).alloc _).alloc _
  have A3 : Whole W3 w.heap.size 43 #[.int .i64 0, .int .i64 0] := by rw [hW3]; exact (Whole.made w _ _).alloc _
  have B3 : Whole W3 (w.heap.size + 1) 43 #[.int .i64 0, .int .i64 0] := by rw [hW3]; have := Whole.made (w.alloc (.cells #[.int .i64 0, .int .i64 0] 43)) 43 #[.int .i64 0, .int .i64 0]; rw [World.size_alloc] at this; exact this
  have eN : atN (x :: t) = N := by rw [← hN.out]; unfold rdN; rw [e2]
  have nb : -9223372036854775808 ≤ N ∧ N ≤ 9223372036854775807 := by rw [← eN]; exact at_bounds _
  have CA := Lib.hid (at_any (w := W3) (x :: t) (by first | omega | (simp at hl ⊢; omega)) (HG.out.keeps K3 id))
  rw [eN] at CA
  try rw [← hW3]
  have k3 := Lib.hid K3
  have A3' := Lib.hid A3
  have B3' := Lib.hid B3
  clear K3 A3 B3 eN hW3 L1 j0 bx
  go_wp2_with fail
  refine CA.out.mono ?_
  rintro e w4 ⟨ev, rfl, hK⟩
  have K4 := Lib.hid (k3.out.trans hK fun _ _ => id)
  have A4 := Lib.hid (A3'.out.keeps hK id)
  have B4 := Lib.hid (B3'.out.keeps hK id)
  have g1 : w4.cell? ⟨w.heap.size + 1, 1, none⟩ = some (.int .i64 0) := B4.out.at_ 1
  have g2 : w4.frozen? ⟨w.heap.size + 1, 1, none⟩ = false := B4.out.free 1
  clear hK CA
  go_wp2_with fail
  obtain ⟨W5, hW5⟩ : ∃ V, V = w4.setCell ⟨w.heap.size + 1, 1, none⟩ (.int .i64 N) := ⟨_, rfl⟩
  have n1 : w.heap.size + 1 ≠ w.heap.size := by omega
  have K5 := Lib.hid (show Keeps (fun _ => False) w W5 by rw [hW5]; exact K4.out.setCell (p := ⟨w.heap.size + 1, 1, none⟩) (fun h => by simp at h; omega) _)
  have A5 := Lib.hid (show Whole W5 w.heap.size 43 #[.int .i64 0, .int .i64 0] by rw [hW5]; exact A4.out.far (p := ⟨w.heap.size + 1, 1, none⟩) (fun h => by simp at h) _)
  have B5 := Lib.hid (show Whole W5 (w.heap.size + 1) 43 #[.int .i64 0, .int .i64 N] by rw [hW5]; exact B4.out.set_ 1 _)
  rw [← hW5]
  have s0 := Lib.hid (And.intro (B5.out.at_ 0 : W5.drew.cell? ⟨w.heap.size + 1, 0, none⟩ = some (.int .i64 0)) (B5.out.at_ 1 : W5.drew.cell? ⟨w.heap.size + 1, 1, none⟩ = some (.int .i64 N)))
  have c0 : W5.cell? ⟨w.heap.size + 1, 0, none⟩ = some (.int .i64 0) := B5.out.at_ 0
  have c1 : W5.cell? ⟨w.heap.size + 1, 1, none⟩ = some (.int .i64 N) := B5.out.at_ 1
  have d0 : W5.cell? ⟨w.heap.size, 0, none⟩ = some (.int .i64 0) := A5.out.at_ 0
  have d1 : W5.cell? ⟨w.heap.size, 1, none⟩ = some (.int .i64 0) := A5.out.at_ 1
  have f0 : W5.frozen? ⟨w.heap.size, 0, none⟩ = false := A5.out.free 0
  have f1 : W5.frozen? ⟨w.heap.size, 1, none⟩ = false := A5.out.free 1
  clear hW5 g1 g2
  by_cases q1 : -9999 ≤ N
  · by_cases q2 : N ≤ 9999
    · have CW := Lib.hid (fun V (k : Keeps (fun _ => False) w V) => written_any (w := V) 0 N (by omega) nb (HG.out.keeps k id))
      obtain ⟨X, hX⟩ : ∃ X, wrT 0 N = X := ⟨_, rfl⟩
      rw [hX] at CW
      have okE : ((mkB X).toList == (mkB (x :: t)).toList) = ok := by
        rw [mkB_list, mkB_list, ← hok.out]
        unfold rdOk
        rw [hN.out, e1, e0, hX, decide_eq_true ⟨q1, q2⟩, Bool.true_and]
      clear hX
      go_region_held3 (fun V => V.cell? ⟨w.heap.size + 1, 0, none⟩ = some (.int .i64 0) ∧ V.cell? ⟨w.heap.size + 1, 1, none⟩ = some (.int .i64 N)) (first | exact sB.out | exact sA.out | exact s0.out)
        (first
          | (go_at_call 79; refine (CW.out _ K5.out.drew).mono ?_; rintro e w6 ⟨rfl, hK6⟩; have sA := Lib.hid (And.intro ((B5.out.drew.keeps hK6 id).at_ 0) ((B5.out.drew.keeps hK6 id).at_ 1)); have K6 := Lib.hid (K5.out.drew.trans hK6 fun _ _ => id); have A6 := Lib.hid (A5.out.drew.keeps hK6 id); have B6 := (((B5.out.drew.keeps hK6 id).far (p := ⟨w.heap.size, 0, none⟩) (fun h => by simp at h) (.int .i64 0)).far (p := ⟨w.heap.size, 1, none⟩) (fun h => by simp at h) (.int .i64 N)); have sB := Lib.hid (And.intro (B6.at_ 0) (B6.at_ 1)); clear B6; have x0 := A6.out.at_ 0; have x1 := A6.out.at_ 1; have y0 := A6.out.free 0; have y1 := A6.out.free 1; clear hK6))
      obtain ⟨W7, hW7⟩ : ∃ V, V = (w6.setCell ⟨w.heap.size, 0, none⟩ (.int .i64 0)).setCell ⟨w.heap.size, 1, none⟩ (.int .i64 N) := ⟨_, rfl⟩
      have K7 := Lib.hid (show Keeps (fun _ => False) w W7 by rw [hW7]; exact (K6.out.setCell (p := ⟨w.heap.size, 0, none⟩) (fun h => by simp at h) _).setCell (p := ⟨w.heap.size, 1, none⟩) (fun h => by simp at h) _)
      have A7 := Lib.hid (show Whole W7 w.heap.size 43 #[.int .i64 0, .int .i64 N] by rw [hW7]; exact (A6.out.set_ 0 _).set_ 1 _)
      rw [← hW7]
      have z0 := A7.out.at_ 0
      have z1 := A7.out.at_ 1
      clear hW7 sA sB x0 x1 y0 y1 c0 c1 d0 d1 f0 f1
      go_wp2_with fail
      try simp only [Exit.inBlock, Exit.then]
      exact bodyPost_ret (v := .tuple #[.agg #[.int .i64 0, .int .i64 N], .bool ok]) (by simp [results, Tryz.results88, go_sem, z0, z1]) rfl ⟨rfl, K7.out⟩
    · have okf : ok = false := by rw [← hok.out]; unfold rdOk; rw [hN.out, decide_eq_false (fun h => q2 h.2), Bool.false_and]
      subst okf
      go_region
      obtain ⟨W7, hW7⟩ : ∃ V, V = ((W5.setCell ⟨w.heap.size, 0, none⟩ (.int .i64 0)).setCell ⟨w.heap.size, 1, none⟩ (.int .i64 N)).drew := ⟨_, rfl⟩
      have K7 := Lib.hid (show Keeps (fun _ => False) w W7 by rw [hW7]; exact ((K5.out.setCell (p := ⟨w.heap.size, 0, none⟩) (fun h => by simp at h) _).setCell (p := ⟨w.heap.size, 1, none⟩) (fun h => by simp at h) _).drew)
      have A7 := Lib.hid (show Whole W7 w.heap.size 43 #[.int .i64 0, .int .i64 N] by rw [hW7]; exact ((A5.out.set_ 0 _).set_ 1 _).drew)
      rw [← hW7]
      have z0 := A7.out.at_ 0
      have z1 := A7.out.at_ 1
      clear hW7 c0 c1 d0 d1 f0 f1
      go_wp2_with fail
      try simp only [Exit.inBlock, Exit.then]
      exact bodyPost_ret (v := .tuple #[.agg #[.int .i64 0, .int .i64 N], .bool false]) (by simp [results, Tryz.results88, go_sem, z0, z1]) rfl ⟨rfl, K7.out⟩
  · have okf : ok = false := by rw [← hok.out]; unfold rdOk; rw [hN.out, decide_eq_false (fun h => q1 h.1), Bool.false_and]
    subst okf
    go_region
    obtain ⟨W7, hW7⟩ : ∃ V, V = ((W5.setCell ⟨w.heap.size, 0, none⟩ (.int .i64 0)).setCell ⟨w.heap.size, 1, none⟩ (.int .i64 N)).drew := ⟨_, rfl⟩
    have K7 := Lib.hid (show Keeps (fun _ => False) w W7 by rw [hW7]; exact ((K5.out.setCell (p := ⟨w.heap.size, 0, none⟩) (fun h => by simp at h) _).setCell (p := ⟨w.heap.size, 1, none⟩) (fun h => by simp at h) _).drew)
    have A7 := Lib.hid (show Whole W7 w.heap.size 43 #[.int .i64 0, .int .i64 N] by rw [hW7]; exact ((A5.out.set_ 0 _).set_ 1 _).drew)
    rw [← hW7]
    have z0 := A7.out.at_ 0
    have z1 := A7.out.at_ 1
    clear hW7 c0 c1 d0 d1 f0 f1
    go_wp2_with fail
    try simp only [Exit.inBlock, Exit.then]
    exact bodyPost_ret (v := .tuple #[.agg #[.int .i64 0, .int .i64 N], .bool false]) (by simp [results, Tryz.results88, go_sem, z0, z1]) rfl ⟨rfl, K7.out⟩

set_option maxRecDepth 100000 in
set_option maxHeartbeats 1000000 in
theorem read_no3 {w : World} (b : UInt8) (t : Str) (hb : b.toNat < 49) (hl : (114 :: b :: t).length ≤ 20000) (hg : GlobT w) (N : Int) (ok : Bool) (e1 : rdR (114 :: b :: t) = 0) (hN : Hid (rdN (114 :: b :: t) = N)) (hok : Hid (rdOk (114 :: b :: t) = ok)) :
    Calls Tryz.prog 88 #[.string (mkB (114 :: b :: t))] w fun e w' => e = .returned (.tuple #[.agg #[.int .i64 0, .int .i64 N], .bool ok]) ∧ Keeps (fun _ => False) w w' := by
  have hz := mkB_size (114 :: b :: t)
  have HG := Lib.hid hg
  have e2 : rdS (114 :: b :: t) = 114 :: b :: t := by unfold rdS; rw [if_pos e1]
  have e0 : ((0 : Nat) : Int) = 0 := rfl
  have j0 : ∀ V, (Instr.index 9 (.string (mkB (114 :: b :: t))) (.int .i64 0)).run Tryz.prog V = .ok (.int .u8 114) V := fun V => str_at (114 :: b :: t) 0 114 rfl V
  have j1 : ∀ V, (Instr.index 9 (.string (mkB (114 :: b :: t))) (.int .i64 1)).run Tryz.prog V = .ok (.int .u8 (b.toNat : Nat)) V := fun V => str_at (114 :: b :: t) 1 b rfl V
  have L1 : (1 : Int) < ((mkB (114 :: b :: t)).size : Int) := by rw [hz]; simp; omega
  have b49 : ¬ (49 : Int) ≤ (b.toNat : Int) := by omega
  clear hg hz
  go_enter Tryz.func88, Tryz.ntmps88
  go_wp2_with fail
  obtain ⟨W3, hW3⟩ : ∃ V, V = (w.alloc (.cells #[.int .i64 0, .int .i64 0] 43)).alloc (.cells #[.int .i64 0, .int .i64 0] 43) := ⟨_, rfl⟩
  have K3 : Keeps (fun _ => False) w W3 := by rw [hW3]; exact ((Keeps.refl _ w).alloc _).alloc _
  have A3 : Whole W3 w.heap.size 43 #[.int .i64 0, .int .i64 0] := by rw [hW3]; exact (Whole.made w _ _).alloc _
  have B3 : Whole W3 (w.heap.size + 1) 43 #[.int .i64 0, .int .i64 0] := by rw [hW3]; have := Whole.made (w.alloc (.cells #[.int .i64 0, .int .i64 0] 43)) 43 #[.int .i64 0, .int .i64 0]; rw [World.size_alloc] at this; exact this
  have eN : atN (114 :: b :: t) = N := by rw [← hN.out]; unfold rdN; rw [e2]
  have nb : -9223372036854775808 ≤ N ∧ N ≤ 9223372036854775807 := by rw [← eN]; exact at_bounds _
  have CA := Lib.hid (at_any (w := W3) (114 :: b :: t) (by first | omega | (simp at hl ⊢; omega)) (HG.out.keeps K3 id))
  rw [eN] at CA
  try rw [← hW3]
  have k3 := Lib.hid K3
  have A3' := Lib.hid A3
  have B3' := Lib.hid B3
  clear K3 A3 B3 eN hW3 L1 j0 j1 b49
  go_wp2_with fail
  refine CA.out.mono ?_
  rintro e w4 ⟨ev, rfl, hK⟩
  have K4 := Lib.hid (k3.out.trans hK fun _ _ => id)
  have A4 := Lib.hid (A3'.out.keeps hK id)
  have B4 := Lib.hid (B3'.out.keeps hK id)
  have g1 : w4.cell? ⟨w.heap.size + 1, 1, none⟩ = some (.int .i64 0) := B4.out.at_ 1
  have g2 : w4.frozen? ⟨w.heap.size + 1, 1, none⟩ = false := B4.out.free 1
  clear hK CA
  go_wp2_with fail
  obtain ⟨W5, hW5⟩ : ∃ V, V = w4.setCell ⟨w.heap.size + 1, 1, none⟩ (.int .i64 N) := ⟨_, rfl⟩
  have n1 : w.heap.size + 1 ≠ w.heap.size := by omega
  have K5 := Lib.hid (show Keeps (fun _ => False) w W5 by rw [hW5]; exact K4.out.setCell (p := ⟨w.heap.size + 1, 1, none⟩) (fun h => by simp at h; omega) _)
  have A5 := Lib.hid (show Whole W5 w.heap.size 43 #[.int .i64 0, .int .i64 0] by rw [hW5]; exact A4.out.far (p := ⟨w.heap.size + 1, 1, none⟩) (fun h => by simp at h) _)
  have B5 := Lib.hid (show Whole W5 (w.heap.size + 1) 43 #[.int .i64 0, .int .i64 N] by rw [hW5]; exact B4.out.set_ 1 _)
  rw [← hW5]
  have s0 := Lib.hid (And.intro (B5.out.at_ 0 : W5.drew.cell? ⟨w.heap.size + 1, 0, none⟩ = some (.int .i64 0)) (B5.out.at_ 1 : W5.drew.cell? ⟨w.heap.size + 1, 1, none⟩ = some (.int .i64 N)))
  have c0 : W5.cell? ⟨w.heap.size + 1, 0, none⟩ = some (.int .i64 0) := B5.out.at_ 0
  have c1 : W5.cell? ⟨w.heap.size + 1, 1, none⟩ = some (.int .i64 N) := B5.out.at_ 1
  have d0 : W5.cell? ⟨w.heap.size, 0, none⟩ = some (.int .i64 0) := A5.out.at_ 0
  have d1 : W5.cell? ⟨w.heap.size, 1, none⟩ = some (.int .i64 0) := A5.out.at_ 1
  have f0 : W5.frozen? ⟨w.heap.size, 0, none⟩ = false := A5.out.free 0
  have f1 : W5.frozen? ⟨w.heap.size, 1, none⟩ = false := A5.out.free 1
  clear hW5 g1 g2
  by_cases q1 : -9999 ≤ N
  · by_cases q2 : N ≤ 9999
    · have CW := Lib.hid (fun V (k : Keeps (fun _ => False) w V) => written_any (w := V) 0 N (by omega) nb (HG.out.keeps k id))
      obtain ⟨X, hX⟩ : ∃ X, wrT 0 N = X := ⟨_, rfl⟩
      rw [hX] at CW
      have okE : ((mkB X).toList == (mkB (114 :: b :: t)).toList) = ok := by
        rw [mkB_list, mkB_list, ← hok.out]
        unfold rdOk
        rw [hN.out, e1, e0, hX, decide_eq_true ⟨q1, q2⟩, Bool.true_and]
      clear hX
      go_region_held3 (fun V => V.cell? ⟨w.heap.size + 1, 0, none⟩ = some (.int .i64 0) ∧ V.cell? ⟨w.heap.size + 1, 1, none⟩ = some (.int .i64 N)) (first | exact sB.out | exact sA.out | exact s0.out)
        (first
          | (go_at_call 79; refine (CW.out _ K5.out.drew).mono ?_; rintro e w6 ⟨rfl, hK6⟩; have sA := Lib.hid (And.intro ((B5.out.drew.keeps hK6 id).at_ 0) ((B5.out.drew.keeps hK6 id).at_ 1)); have K6 := Lib.hid (K5.out.drew.trans hK6 fun _ _ => id); have A6 := Lib.hid (A5.out.drew.keeps hK6 id); have B6 := (((B5.out.drew.keeps hK6 id).far (p := ⟨w.heap.size, 0, none⟩) (fun h => by simp at h) (.int .i64 0)).far (p := ⟨w.heap.size, 1, none⟩) (fun h => by simp at h) (.int .i64 N)); have sB := Lib.hid (And.intro (B6.at_ 0) (B6.at_ 1)); clear B6; have x0 := A6.out.at_ 0; have x1 := A6.out.at_ 1; have y0 := A6.out.free 0; have y1 := A6.out.free 1; clear hK6))
      obtain ⟨W7, hW7⟩ : ∃ V, V = (w6.setCell ⟨w.heap.size, 0, none⟩ (.int .i64 0)).setCell ⟨w.heap.size, 1, none⟩ (.int .i64 N) := ⟨_, rfl⟩
      have K7 := Lib.hid (show Keeps (fun _ => False) w W7 by rw [hW7]; exact (K6.out.setCell (p := ⟨w.heap.size, 0, none⟩) (fun h => by simp at h) _).setCell (p := ⟨w.heap.size, 1, none⟩) (fun h => by simp at h) _)
      have A7 := Lib.hid (show Whole W7 w.heap.size 43 #[.int .i64 0, .int .i64 N] by rw [hW7]; exact (A6.out.set_ 0 _).set_ 1 _)
      rw [← hW7]
      have z0 := A7.out.at_ 0
      have z1 := A7.out.at_ 1
      clear hW7 sA sB x0 x1 y0 y1 c0 c1 d0 d1 f0 f1
      go_wp2_with fail
      try simp only [Exit.inBlock, Exit.then]
      exact bodyPost_ret (v := .tuple #[.agg #[.int .i64 0, .int .i64 N], .bool ok]) (by simp [results, Tryz.results88, go_sem, z0, z1]) rfl ⟨rfl, K7.out⟩
    · have okf : ok = false := by rw [← hok.out]; unfold rdOk; rw [hN.out, decide_eq_false (fun h => q2 h.2), Bool.false_and]
      subst okf
      go_region
      obtain ⟨W7, hW7⟩ : ∃ V, V = ((W5.setCell ⟨w.heap.size, 0, none⟩ (.int .i64 0)).setCell ⟨w.heap.size, 1, none⟩ (.int .i64 N)).drew := ⟨_, rfl⟩
      have K7 := Lib.hid (show Keeps (fun _ => False) w W7 by rw [hW7]; exact ((K5.out.setCell (p := ⟨w.heap.size, 0, none⟩) (fun h => by simp at h) _).setCell (p := ⟨w.heap.size, 1, none⟩) (fun h => by simp at h) _).drew)
      have A7 := Lib.hid (show Whole W7 w.heap.size 43 #[.int .i64 0, .int .i64 N] by rw [hW7]; exact ((A5.out.set_ 0 _).set_ 1 _).drew)
      rw [← hW7]
      have z0 := A7.out.at_ 0
      have z1 := A7.out.at_ 1
      clear hW7 c0 c1 d0 d1 f0 f1
      go_wp2_with fail
      try simp only [Exit.inBlock, Exit.then]
      exact bodyPost_ret (v := .tuple #[.agg #[.int .i64 0, .int .i64 N], .bool false]) (by simp [results, Tryz.results88, go_sem, z0, z1]) rfl ⟨rfl, K7.out⟩
  · have okf : ok = false := by rw [← hok.out]; unfold rdOk; rw [hN.out, decide_eq_false (fun h => q1 h.1), Bool.false_and]
    subst okf
    go_region
    obtain ⟨W7, hW7⟩ : ∃ V, V = ((W5.setCell ⟨w.heap.size, 0, none⟩ (.int .i64 0)).setCell ⟨w.heap.size, 1, none⟩ (.int .i64 N)).drew := ⟨_, rfl⟩
    have K7 := Lib.hid (show Keeps (fun _ => False) w W7 by rw [hW7]; exact ((K5.out.setCell (p := ⟨w.heap.size, 0, none⟩) (fun h => by simp at h) _).setCell (p := ⟨w.heap.size, 1, none⟩) (fun h => by simp at h) _).drew)
    have A7 := Lib.hid (show Whole W7 w.heap.size 43 #[.int .i64 0, .int .i64 N] by rw [hW7]; exact ((A5.out.set_ 0 _).set_ 1 _).drew)
    rw [← hW7]
    have z0 := A7.out.at_ 0
    have z1 := A7.out.at_ 1
    clear hW7 c0 c1 d0 d1 f0 f1
    go_wp2_with fail
    try simp only [Exit.inBlock, Exit.then]
    exact bodyPost_ret (v := .tuple #[.agg #[.int .i64 0, .int .i64 N], .bool false]) (by simp [results, Tryz.results88, go_sem, z0, z1]) rfl ⟨rfl, K7.out⟩

set_option maxRecDepth 100000 in
set_option maxHeartbeats 1000000 in
theorem read_no4 {w : World} (b : UInt8) (t : Str) (hb : 56 < b.toNat) (hl : (114 :: b :: t).length ≤ 20000) (hg : GlobT w) (N : Int) (ok : Bool) (e1 : rdR (114 :: b :: t) = 0) (hN : Hid (rdN (114 :: b :: t) = N)) (hok : Hid (rdOk (114 :: b :: t) = ok)) :
    Calls Tryz.prog 88 #[.string (mkB (114 :: b :: t))] w fun e w' => e = .returned (.tuple #[.agg #[.int .i64 0, .int .i64 N], .bool ok]) ∧ Keeps (fun _ => False) w w' := by
  have hz := mkB_size (114 :: b :: t)
  have HG := Lib.hid hg
  have e2 : rdS (114 :: b :: t) = 114 :: b :: t := by unfold rdS; rw [if_pos e1]
  have e0 : ((0 : Nat) : Int) = 0 := rfl
  have j0 : ∀ V, (Instr.index 9 (.string (mkB (114 :: b :: t))) (.int .i64 0)).run Tryz.prog V = .ok (.int .u8 114) V := fun V => str_at (114 :: b :: t) 0 114 rfl V
  have j1 : ∀ V, (Instr.index 9 (.string (mkB (114 :: b :: t))) (.int .i64 1)).run Tryz.prog V = .ok (.int .u8 (b.toNat : Nat)) V := fun V => str_at (114 :: b :: t) 1 b rfl V
  have L1 : (1 : Int) < ((mkB (114 :: b :: t)).size : Int) := by rw [hz]; simp; omega
  have b49 : (49 : Int) ≤ (b.toNat : Int) := by omega
  have b56 : ¬ (b.toNat : Int) ≤ 56 := by omega
  clear hg hz
  go_enter Tryz.func88, Tryz.ntmps88
  go_wp2_with fail
  obtain ⟨W3, hW3⟩ : ∃ V, V = (w.alloc (.cells #[.int .i64 0, .int .i64 0] 43)).alloc (.cells #[.int .i64 0, .int .i64 0] 43) := ⟨_, rfl⟩
  have K3 : Keeps (fun _ => False) w W3 := by rw [hW3]; exact ((Keeps.refl _ w).alloc _).alloc _
  have A3 : Whole W3 w.heap.size 43 #[.int .i64 0, .int .i64 0] := by rw [hW3]; exact (Whole.made w _ _).alloc _
  have B3 : Whole W3 (w.heap.size + 1) 43 #[.int .i64 0, .int .i64 0] := by rw [hW3]; have := Whole.made (w.alloc (.cells #[.int .i64 0, .int .i64 0] 43)) 43 #[.int .i64 0, .int .i64 0]; rw [World.size_alloc] at this; exact this
  have eN : atN (114 :: b :: t) = N := by rw [← hN.out]; unfold rdN; rw [e2]
  have nb : -9223372036854775808 ≤ N ∧ N ≤ 9223372036854775807 := by rw [← eN]; exact at_bounds _
  have CA := Lib.hid (at_any (w := W3) (114 :: b :: t) (by first | omega | (simp at hl ⊢; omega)) (HG.out.keeps K3 id))
  rw [eN] at CA
  try rw [← hW3]
  have k3 := Lib.hid K3
  have A3' := Lib.hid A3
  have B3' := Lib.hid B3
  clear K3 A3 B3 eN hW3 L1 j0 j1 b49 b56
  go_wp2_with fail
  refine CA.out.mono ?_
  rintro e w4 ⟨ev, rfl, hK⟩
  have K4 := Lib.hid (k3.out.trans hK fun _ _ => id)
  have A4 := Lib.hid (A3'.out.keeps hK id)
  have B4 := Lib.hid (B3'.out.keeps hK id)
  have g1 : w4.cell? ⟨w.heap.size + 1, 1, none⟩ = some (.int .i64 0) := B4.out.at_ 1
  have g2 : w4.frozen? ⟨w.heap.size + 1, 1, none⟩ = false := B4.out.free 1
  clear hK CA
  go_wp2_with fail
  obtain ⟨W5, hW5⟩ : ∃ V, V = w4.setCell ⟨w.heap.size + 1, 1, none⟩ (.int .i64 N) := ⟨_, rfl⟩
  have n1 : w.heap.size + 1 ≠ w.heap.size := by omega
  have K5 := Lib.hid (show Keeps (fun _ => False) w W5 by rw [hW5]; exact K4.out.setCell (p := ⟨w.heap.size + 1, 1, none⟩) (fun h => by simp at h; omega) _)
  have A5 := Lib.hid (show Whole W5 w.heap.size 43 #[.int .i64 0, .int .i64 0] by rw [hW5]; exact A4.out.far (p := ⟨w.heap.size + 1, 1, none⟩) (fun h => by simp at h) _)
  have B5 := Lib.hid (show Whole W5 (w.heap.size + 1) 43 #[.int .i64 0, .int .i64 N] by rw [hW5]; exact B4.out.set_ 1 _)
  rw [← hW5]
  have s0 := Lib.hid (And.intro (B5.out.at_ 0 : W5.drew.cell? ⟨w.heap.size + 1, 0, none⟩ = some (.int .i64 0)) (B5.out.at_ 1 : W5.drew.cell? ⟨w.heap.size + 1, 1, none⟩ = some (.int .i64 N)))
  have c0 : W5.cell? ⟨w.heap.size + 1, 0, none⟩ = some (.int .i64 0) := B5.out.at_ 0
  have c1 : W5.cell? ⟨w.heap.size + 1, 1, none⟩ = some (.int .i64 N) := B5.out.at_ 1
  have d0 : W5.cell? ⟨w.heap.size, 0, none⟩ = some (.int .i64 0) := A5.out.at_ 0
  have d1 : W5.cell? ⟨w.heap.size, 1, none⟩ = some (.int .i64 0) := A5.out.at_ 1
  have f0 : W5.frozen? ⟨w.heap.size, 0, none⟩ = false := A5.out.free 0
  have f1 : W5.frozen? ⟨w.heap.size, 1, none⟩ = false := A5.out.free 1
  clear hW5 g1 g2
  by_cases q1 : -9999 ≤ N
  · by_cases q2 : N ≤ 9999
    · have CW := Lib.hid (fun V (k : Keeps (fun _ => False) w V) => written_any (w := V) 0 N (by omega) nb (HG.out.keeps k id))
      obtain ⟨X, hX⟩ : ∃ X, wrT 0 N = X := ⟨_, rfl⟩
      rw [hX] at CW
      have okE : ((mkB X).toList == (mkB (114 :: b :: t)).toList) = ok := by
        rw [mkB_list, mkB_list, ← hok.out]
        unfold rdOk
        rw [hN.out, e1, e0, hX, decide_eq_true ⟨q1, q2⟩, Bool.true_and]
      clear hX
      go_region_held3 (fun V => V.cell? ⟨w.heap.size + 1, 0, none⟩ = some (.int .i64 0) ∧ V.cell? ⟨w.heap.size + 1, 1, none⟩ = some (.int .i64 N)) (first | exact sB.out | exact sA.out | exact s0.out)
        (first
          | (go_at_call 79; refine (CW.out _ K5.out.drew).mono ?_; rintro e w6 ⟨rfl, hK6⟩; have sA := Lib.hid (And.intro ((B5.out.drew.keeps hK6 id).at_ 0) ((B5.out.drew.keeps hK6 id).at_ 1)); have K6 := Lib.hid (K5.out.drew.trans hK6 fun _ _ => id); have A6 := Lib.hid (A5.out.drew.keeps hK6 id); have B6 := (((B5.out.drew.keeps hK6 id).far (p := ⟨w.heap.size, 0, none⟩) (fun h => by simp at h) (.int .i64 0)).far (p := ⟨w.heap.size, 1, none⟩) (fun h => by simp at h) (.int .i64 N)); have sB := Lib.hid (And.intro (B6.at_ 0) (B6.at_ 1)); clear B6; have x0 := A6.out.at_ 0; have x1 := A6.out.at_ 1; have y0 := A6.out.free 0; have y1 := A6.out.free 1; clear hK6))
      obtain ⟨W7, hW7⟩ : ∃ V, V = (w6.setCell ⟨w.heap.size, 0, none⟩ (.int .i64 0)).setCell ⟨w.heap.size, 1, none⟩ (.int .i64 N) := ⟨_, rfl⟩
      have K7 := Lib.hid (show Keeps (fun _ => False) w W7 by rw [hW7]; exact (K6.out.setCell (p := ⟨w.heap.size, 0, none⟩) (fun h => by simp at h) _).setCell (p := ⟨w.heap.size, 1, none⟩) (fun h => by simp at h) _)
      have A7 := Lib.hid (show Whole W7 w.heap.size 43 #[.int .i64 0, .int .i64 N] by rw [hW7]; exact (A6.out.set_ 0 _).set_ 1 _)
      rw [← hW7]
      have z0 := A7.out.at_ 0
      have z1 := A7.out.at_ 1
      clear hW7 sA sB x0 x1 y0 y1 c0 c1 d0 d1 f0 f1
      go_wp2_with fail
      try simp only [Exit.inBlock, Exit.then]
      exact bodyPost_ret (v := .tuple #[.agg #[.int .i64 0, .int .i64 N], .bool ok]) (by simp [results, Tryz.results88, go_sem, z0, z1]) rfl ⟨rfl, K7.out⟩
    · have okf : ok = false := by rw [← hok.out]; unfold rdOk; rw [hN.out, decide_eq_false (fun h => q2 h.2), Bool.false_and]
      subst okf
      go_region
      obtain ⟨W7, hW7⟩ : ∃ V, V = ((W5.setCell ⟨w.heap.size, 0, none⟩ (.int .i64 0)).setCell ⟨w.heap.size, 1, none⟩ (.int .i64 N)).drew := ⟨_, rfl⟩
      have K7 := Lib.hid (show Keeps (fun _ => False) w W7 by rw [hW7]; exact ((K5.out.setCell (p := ⟨w.heap.size, 0, none⟩) (fun h => by simp at h) _).setCell (p := ⟨w.heap.size, 1, none⟩) (fun h => by simp at h) _).drew)
      have A7 := Lib.hid (show Whole W7 w.heap.size 43 #[.int .i64 0, .int .i64 N] by rw [hW7]; exact ((A5.out.set_ 0 _).set_ 1 _).drew)
      rw [← hW7]
      have z0 := A7.out.at_ 0
      have z1 := A7.out.at_ 1
      clear hW7 c0 c1 d0 d1 f0 f1
      go_wp2_with fail
      try simp only [Exit.inBlock, Exit.then]
      exact bodyPost_ret (v := .tuple #[.agg #[.int .i64 0, .int .i64 N], .bool false]) (by simp [results, Tryz.results88, go_sem, z0, z1]) rfl ⟨rfl, K7.out⟩
  · have okf : ok = false := by rw [← hok.out]; unfold rdOk; rw [hN.out, decide_eq_false (fun h => q1 h.1), Bool.false_and]
    subst okf
    go_region
    obtain ⟨W7, hW7⟩ : ∃ V, V = ((W5.setCell ⟨w.heap.size, 0, none⟩ (.int .i64 0)).setCell ⟨w.heap.size, 1, none⟩ (.int .i64 N)).drew := ⟨_, rfl⟩
    have K7 := Lib.hid (show Keeps (fun _ => False) w W7 by rw [hW7]; exact ((K5.out.setCell (p := ⟨w.heap.size, 0, none⟩) (fun h => by simp at h) _).setCell (p := ⟨w.heap.size, 1, none⟩) (fun h => by simp at h) _).drew)
    have A7 := Lib.hid (show Whole W7 w.heap.size 43 #[.int .i64 0, .int .i64 N] by rw [hW7]; exact ((A5.out.set_ 0 _).set_ 1 _).drew)
    rw [← hW7]
    have z0 := A7.out.at_ 0
    have z1 := A7.out.at_ 1
    clear hW7 c0 c1 d0 d1 f0 f1
    go_wp2_with fail
    try simp only [Exit.inBlock, Exit.then]
    exact bodyPost_ret (v := .tuple #[.agg #[.int .i64 0, .int .i64 N], .bool false]) (by simp [results, Tryz.results88, go_sem, z0, z1]) rfl ⟨rfl, K7.out⟩

theorem read_any {w : World} (W : Str) (hl : W.length ≤ 20000) (hg : GlobT w) :
    Calls Tryz.prog 88 #[.string (mkB W)] w fun e w' => e = .returned (.tuple #[.agg #[.int .i64 (rdR W : Nat), .int .i64 (rdN W)], .bool (rdOk W)]) ∧ Keeps (fun _ => False) w w' := by
  match W, hl with
  | [], _ => exact read_no1 [] (by simp) hg _ _ rfl (Lib.hid rfl) (Lib.hid rfl)
  | [x], _ =>
    have e : rdR [x] = 0 := rdR_no fun b t e => by injection e with _ e; cases e
    rw [e]
    exact read_no1 [x] (by simp) hg _ _ e (Lib.hid rfl) (Lib.hid rfl)
  | x :: b :: t, hl =>
    by_cases hx : x = 114
    · subst hx
      by_cases h1 : 49 ≤ b.toNat
      · by_cases h2 : b.toNat ≤ 56
        · exact read_reg b t h1 h2 hl hg _ _ _ rfl (Lib.hid rfl) (Lib.hid rfl)
        · have e : rdR (114 :: b :: t) = 0 := by unfold rdR; simp only; rw [if_neg (fun h => h2 h.2)]
          rw [e]
          exact read_no4 b t (by omega) hl hg _ _ e (Lib.hid rfl) (Lib.hid rfl)
      · have e : rdR (114 :: b :: t) = 0 := by unfold rdR; simp only; rw [if_neg (fun h => h1 h.1)]
        rw [e]
        exact read_no3 b t (by omega) hl hg _ _ e (Lib.hid rfl) (Lib.hid rfl)
    · have e : rdR (x :: b :: t) = 0 := rdR_no fun c u h => by injection h with h _; exact hx h
      rw [e]
      exact read_no2 x (b :: t) (by simp) hx hl hg _ _ e (Lib.hid rfl) (Lib.hid rfl)
end Go.Proofs.YtcdlchcmidfhiaaGreatDoor
