/-
  concordlaw08.do by contract, for any program's states that keep 'Face': of both in one state it answers true, and both move on alike (printed by gen/mkdo8.py).
-/
import Derived.Test.YthidipigpfcbbaaGreatDoorMoFace
import Derived.Test.YthidipigpfcbbaaGreatDoorWdTail
import Derived.Deep.DeepCutAuto
import Derived.Deep.CutBlock
import Derived.WalkKit
import Derived.Deep.RegionHeld3
namespace Go.Proofs.YthidipigpfcbbaaGreatDoor
open Go.RowKit Go.Maps Go.Extern.Stop Go.Stop Go.Extern

set_option maxRecDepth 100000 in
set_option maxHeartbeats 4000000 in
theorem do_any8 {PM : PMem} (F : Face PM) {w : World} {s r : Nat} {A : M8} {X Y : Nat → Prop} (hS : PM w s A X) (hR : RM w r A Y) (hap : ∀ x, X x → ¬ Y x) (hg : Glob w) (hng : ¬ (X 0 ∨ Y 0)) (a : Act8) (hc : wfI a.key) :
    Calls Tryz.prog 36 #[.pointer (some ⟨s, 0, none⟩), .pointer (some ⟨r, 0, none⟩), .agg #[.int .i64 a.k, .int .i64 a.c, .int .i64 a.key, .int .i64 a.v]] w fun e w' => e = .returned (.bool true) ∧ Two8 PM w w' s r (mDo A a) X Y := by
  obtain ⟨k, ac, ak, av⟩ := a
  simp only at hc ⊢
  have hok := F.ok hS
  have ok := Lib.hid hok
  obtain ⟨W1, hW1⟩ : ∃ W, W = w.alloc (.cells #[.int .i64 k, .int .i64 ac, .int .i64 ak, .int .i64 av] 88) := ⟨_, rfl⟩
  have k1 : Keeps (fun _ => False) w W1 := by rw [hW1]; exact (Keeps.refl _ w).alloc _
  have mB : Whole W1 w.heap.size 88 #[.int .i64 k, .int .i64 ac, .int .i64 ak, .int .i64 av] := by rw [hW1]; exact Whole.made _ _ _
  have P1 := Lib.hid (F.same hS k1)
  have R1 := Lib.hid (hR.same k1)
  have nb : ∀ x, (X x ∨ Y x) → x < w.heap.size := fun x hx => hx.elim (F.old hS x) (hR.old x)
  have ap := Lib.hid hap
  have nq := Lib.hid (show ∀ x, Y x → ¬ X x from fun x hy hx => hap x hx hy)
  have S0 := Lib.hid (fun V (K : Keeps (fun x => X x ∨ Y x) W1 V) => (⟨(mB.keeps K fun h => Nat.lt_irrefl _ (nb _ h)).at_ 0, (mB.keeps K fun h => Nat.lt_irrefl _ (nb _ h)).at_ 1, (mB.keeps K fun h => Nat.lt_irrefl _ (nb _ h)).at_ 2, (mB.keeps K fun h => Nat.lt_irrefl _ (nb _ h)).at_ 3⟩ : V.cell? ⟨w.heap.size, 0, none⟩ = some (.int .i64 k) ∧ V.cell? ⟨w.heap.size, 1, none⟩ = some (.int .i64 ac) ∧ V.cell? ⟨w.heap.size, 2, none⟩ = some (.int .i64 ak) ∧ V.cell? ⟨w.heap.size, 3, none⟩ = some (.int .i64 av)))
  have G1 := Lib.hid (fun V (K : Keeps (fun x => X x ∨ Y x) W1 V) => (hg.keeps ((k1.mono fun _ _ => False.elim : Keeps (fun x => X x ∨ Y x) w W1).trans_ K) hng : Glob V))
  obtain ⟨b0, b1, b2, b3⟩ := S0.out W1 (Keeps.refl _ _)
  have hW1' := Lib.hid hW1
  have k1' := Lib.hid k1
  have hcw := hc
  clear hS hR hap hg hng nb mB k1 hW1 hc hok
  go_enter Tryz.func36, Tryz.ntmps36
  go_upto_region 1 with fail
  rw [← hW1'.out]
  by_cases h0 : k = 0
  · subst h0
    have hdo := Lib.hid (show mDo A ⟨0, ac, ak, av⟩ = A by unfold mDo; simp)
    go_wp2_with fail
    refine (F.get P1.out ac ak hcw).mono ?_
    rintro e w2 ⟨ev, rfl, hT, hK⟩
    have T2 := Lib.hid (hT.less (Nat.zero_le _))
    have KD := Lib.hid hK
    obtain ⟨b0, b1, b2, b3⟩ := S0.out w2 (hK.mono fun _ _ => False.elim)
    clear hT hK
    go_wp2_with fail
    refine (rget8 (R1.out.same KD.out) ok.out ac ak).mono ?_
    rintro e w' ⟨rfl, rfl⟩
    go_wp2_with fail
    obtain ⟨gv, gb, gf, gg⟩ : ∃ gv gb gf, mGet A ac ak = (gv, gb, gf) := ⟨_, _, _, rfl⟩
    have hnum := mGet_num A ac ak
    rw [gg] at T2 hnum
    simp only [gg]
    simp only at T2 hnum
    rcases hnum with ⟨_, hf, ha⟩ | ⟨_, hf, ha⟩
    · subst hf
      rw [ha] at T2
      clear ha gg
      cases gb
      all_goals
        refine AnyT.begin (S := fun V => V.cell? ⟨w.heap.size, 1, none⟩ = some (.int .i64 ac)) (by kernel_rfl) (S0.out _ (KD.out.mono fun _ _ => False.elim : Keeps (fun x => X x ∨ Y x) W1 _).drew).2.1 (fun hHeld => ?_)
        first
          | (refine AnyT.take (i := 0) (v := ?_) rfl (by kernel_rfl) (fun _ _ _ h => h) (Or.inl ⟨by rfl, ?_⟩) (by assumption) ?_; rotate_left; (· (intro V hSV; (try dsimp only at hSV); (first | (go_simp; done) | (go_simp; with_reducible rfl)))); simp only [Act.put, List.setIfInBounds_toArray, List.set_cons_zero, List.set_cons_succ])
          | (refine AnyT.take (i := 0) (v := undef) rfl (by kernel_rfl) (fun _ _ _ h => h) (Or.inr ⟨by rfl, rfl⟩) (by assumption) ?_; simp only [Act.put, List.setIfInBounds_toArray, List.set_cons_zero, List.set_cons_succ])
        first
          | (refine AnyT.take (i := 1) (v := ?_) rfl (by kernel_rfl) (fun _ _ _ h => h) (Or.inl ⟨by rfl, ?_⟩) (by assumption) ?_; rotate_left; (· (intro V hSV; (try dsimp only at hSV); (first | (go_simp; done) | (go_simp; with_reducible rfl)))); simp only [Act.put, List.setIfInBounds_toArray, List.set_cons_zero, List.set_cons_succ])
          | (refine AnyT.take (i := 1) (v := undef) rfl (by kernel_rfl) (fun _ _ _ h => h) (Or.inr ⟨by rfl, rfl⟩) (by assumption) ?_; simp only [Act.put, List.setIfInBounds_toArray, List.set_cons_zero, List.set_cons_succ])
        first
          | (refine AnyT.take (i := 2) (v := ?_) rfl (by kernel_rfl) (fun _ _ _ h => h) (Or.inl ⟨by rfl, ?_⟩) (by assumption) ?_; rotate_left; (· (intro V hSV; (try dsimp only at hSV); (first | (go_simp; done) | (go_simp; with_reducible rfl)))); simp only [Act.put, List.setIfInBounds_toArray, List.set_cons_zero, List.set_cons_succ])
          | (refine AnyT.take (i := 2) (v := undef) rfl (by kernel_rfl) (fun _ _ _ h => h) (Or.inr ⟨by rfl, rfl⟩) (by assumption) ?_; simp only [Act.put, List.setIfInBounds_toArray, List.set_cons_zero, List.set_cons_succ])
        first
          | (refine AnyT.take (i := 3) (v := ?_) rfl (by kernel_rfl) (fun _ _ _ h => h) (Or.inl ⟨by rfl, ?_⟩) (by assumption) ?_; rotate_left; (· (intro V hSV; (try dsimp only at hSV); (first | (go_simp; done) | (go_simp; with_reducible rfl)))); simp only [Act.put, List.setIfInBounds_toArray, List.set_cons_zero, List.set_cons_succ])
          | (refine AnyT.take (i := 3) (v := undef) rfl (by kernel_rfl) (fun _ _ _ h => h) (Or.inr ⟨by rfl, rfl⟩) (by assumption) ?_; simp only [Act.put, List.setIfInBounds_toArray, List.set_cons_zero, List.set_cons_succ])
        first
          | (refine AnyT.take (i := 4) (v := ?_) rfl (by kernel_rfl) (fun _ _ _ h => h) (Or.inl ⟨by rfl, ?_⟩) (by assumption) ?_; rotate_left; (· (intro V hSV; (try dsimp only at hSV); (first | (go_simp; done) | (go_simp; with_reducible rfl)))); simp only [Act.put, List.setIfInBounds_toArray, List.set_cons_zero, List.set_cons_succ])
          | (refine AnyT.take (i := 4) (v := undef) rfl (by kernel_rfl) (fun _ _ _ h => h) (Or.inr ⟨by rfl, rfl⟩) (by assumption) ?_; simp only [Act.put, List.setIfInBounds_toArray, List.set_cons_zero, List.set_cons_succ])
        first
          | (refine AnyT.take (i := 5) (v := ?_) rfl (by kernel_rfl) (fun _ _ _ h => h) (Or.inl ⟨by rfl, ?_⟩) (by assumption) ?_; rotate_left; (· (intro V hSV; (try dsimp only at hSV); (first | (go_simp; done) | (go_simp; with_reducible rfl)))); simp only [Act.put, List.setIfInBounds_toArray, List.set_cons_zero, List.set_cons_succ])
          | (refine AnyT.take (i := 5) (v := undef) rfl (by kernel_rfl) (fun _ _ _ h => h) (Or.inr ⟨by rfl, rfl⟩) (by assumption) ?_; simp only [Act.put, List.setIfInBounds_toArray, List.set_cons_zero, List.set_cons_succ])
        first
          | (refine AnyT.take (i := 6) (v := ?_) rfl (by kernel_rfl) (fun _ _ _ h => h) (Or.inl ⟨by rfl, ?_⟩) (by assumption) ?_; rotate_left; (· (intro V hSV; (try dsimp only at hSV); (first | (go_simp; done) | (go_simp; with_reducible rfl)))); simp only [Act.put, List.setIfInBounds_toArray, List.set_cons_zero, List.set_cons_succ])
          | (refine AnyT.take (i := 6) (v := undef) rfl (by kernel_rfl) (fun _ _ _ h => h) (Or.inr ⟨by rfl, rfl⟩) (by assumption) ?_; simp only [Act.put, List.setIfInBounds_toArray, List.set_cons_zero, List.set_cons_succ])
        first
          | (refine AnyT.take (i := 7) (v := ?_) rfl (by kernel_rfl) (fun _ _ _ h => h) (Or.inl ⟨by rfl, ?_⟩) (by assumption) ?_; rotate_left; (· (intro V hSV; (try dsimp only at hSV); (first | (go_simp; done) | (go_simp; with_reducible rfl)))); simp only [Act.put, List.setIfInBounds_toArray, List.set_cons_zero, List.set_cons_succ])
          | (refine AnyT.take (i := 7) (v := undef) rfl (by kernel_rfl) (fun _ _ _ h => h) (Or.inr ⟨by rfl, rfl⟩) (by assumption) ?_; simp only [Act.put, List.setIfInBounds_toArray, List.set_cons_zero, List.set_cons_succ])
        first
          | (refine AnyT.take (i := 8) (v := ?_) rfl (by kernel_rfl) (fun _ _ _ h => h) (Or.inl ⟨by rfl, ?_⟩) (by assumption) ?_; rotate_left; (· (intro V hSV; (try dsimp only at hSV); (first | (go_simp; done) | (go_simp; with_reducible rfl)))); simp only [Act.put, List.setIfInBounds_toArray, List.set_cons_zero, List.set_cons_succ])
          | (refine AnyT.take (i := 8) (v := undef) rfl (by kernel_rfl) (fun _ _ _ h => h) (Or.inr ⟨by rfl, rfl⟩) (by assumption) ?_; simp only [Act.put, List.setIfInBounds_toArray, List.set_cons_zero, List.set_cons_succ])
        first
          | (refine AnyT.take (i := 9) (v := ?_) rfl (by kernel_rfl) (fun _ _ _ h => h) (Or.inl ⟨by rfl, ?_⟩) (by assumption) ?_; rotate_left; (· (intro V hSV; (try dsimp only at hSV); (first | (go_simp; done) | (go_simp; with_reducible rfl)))); simp only [Act.put, List.setIfInBounds_toArray, List.set_cons_zero, List.set_cons_succ])
          | (refine AnyT.take (i := 9) (v := undef) rfl (by kernel_rfl) (fun _ _ _ h => h) (Or.inr ⟨by rfl, rfl⟩) (by assumption) ?_; simp only [Act.put, List.setIfInBounds_toArray, List.set_cons_zero, List.set_cons_succ])
        first
          | (refine AnyT.take (i := 11) (v := ?_) rfl (by kernel_rfl) (fun _ _ _ h => h) (Or.inl ⟨by rfl, ?_⟩) (by assumption) ?_; rotate_left; (· (intro V hSV; (try dsimp only at hSV); (first | (go_simp; done) | (go_simp; with_reducible rfl)))); simp only [Act.put, List.setIfInBounds_toArray, List.set_cons_zero, List.set_cons_succ])
          | (refine AnyT.take (i := 11) (v := undef) rfl (by kernel_rfl) (fun _ _ _ h => h) (Or.inr ⟨by rfl, rfl⟩) (by assumption) ?_; simp only [Act.put, List.setIfInBounds_toArray, List.set_cons_zero, List.set_cons_succ])
        refine AnyT.ready (rs := [10]) (by kernel_rfl) (by simp) (ReadyT.cons rfl (fun K hK => ?_) ReadyT.nil)
        go_simp
        refine (no_u (T2.out.same (Keeps.refl _ _).drew)).mono ?_
        rintro e w5 ⟨rfl, rfl⟩
        go_wp2_with fail
        refine hK.out _ _ (fun _ => hHeld) (fun _ => ?_)
        clear hK K
        try simp only [Act.put, List.setIfInBounds_toArray, List.set_cons_zero, List.set_cons_succ]
        first
          | (refine AnyT.take (i := 12) (v := ?_) rfl (by kernel_rfl) (fun _ _ _ h => h) (Or.inl ⟨by rfl, ?_⟩) (by assumption) ?_; rotate_left; (· (intro V hSV; (try dsimp only at hSV); (first | (go_simp; done) | (go_simp; with_reducible rfl)))); simp only [Act.put, List.setIfInBounds_toArray, List.set_cons_zero, List.set_cons_succ])
          | (refine AnyT.take (i := 12) (v := undef) rfl (by kernel_rfl) (fun _ _ _ h => h) (Or.inr ⟨by rfl, rfl⟩) (by assumption) ?_; simp only [Act.put, List.setIfInBounds_toArray, List.set_cons_zero, List.set_cons_succ])
        first
          | (refine AnyT.take (i := 13) (v := ?_) rfl (by kernel_rfl) (fun _ _ _ h => h) (Or.inl ⟨by rfl, ?_⟩) (by assumption) ?_; rotate_left; (· (intro V hSV; (try dsimp only at hSV); (first | (go_simp; done) | (go_simp; with_reducible rfl)))); simp only [Act.put, List.setIfInBounds_toArray, List.set_cons_zero, List.set_cons_succ])
          | (refine AnyT.take (i := 13) (v := undef) rfl (by kernel_rfl) (fun _ _ _ h => h) (Or.inr ⟨by rfl, rfl⟩) (by assumption) ?_; simp only [Act.put, List.setIfInBounds_toArray, List.set_cons_zero, List.set_cons_succ])
        first
          | (refine AnyT.take (i := 14) (v := ?_) rfl (by kernel_rfl) (fun _ _ _ h => h) (Or.inl ⟨by rfl, ?_⟩) (by assumption) ?_; rotate_left; (· (intro V hSV; (try dsimp only at hSV); (first | (go_simp; done) | (go_simp; with_reducible rfl)))); simp only [Act.put, List.setIfInBounds_toArray, List.set_cons_zero, List.set_cons_succ])
          | (refine AnyT.take (i := 14) (v := undef) rfl (by kernel_rfl) (fun _ _ _ h => h) (Or.inr ⟨by rfl, rfl⟩) (by assumption) ?_; simp only [Act.put, List.setIfInBounds_toArray, List.set_cons_zero, List.set_cons_succ])
        first
          | (refine AnyT.take (i := 15) (v := ?_) rfl (by kernel_rfl) (fun _ _ _ h => h) (Or.inl ⟨by rfl, ?_⟩) (by assumption) ?_; rotate_left; (· (intro V hSV; (try dsimp only at hSV); (first | (go_simp; done) | (go_simp; with_reducible rfl)))); simp only [Act.put, List.setIfInBounds_toArray, List.set_cons_zero, List.set_cons_succ])
          | (refine AnyT.take (i := 15) (v := undef) rfl (by kernel_rfl) (fun _ _ _ h => h) (Or.inr ⟨by rfl, rfl⟩) (by assumption) ?_; simp only [Act.put, List.setIfInBounds_toArray, List.set_cons_zero, List.set_cons_succ])
        first
          | (refine AnyT.take (i := 16) (v := ?_) rfl (by kernel_rfl) (fun _ _ _ h => h) (Or.inl ⟨by rfl, ?_⟩) (by assumption) ?_; rotate_left; (· (intro V hSV; (try dsimp only at hSV); (first | (go_simp; done) | (go_simp; with_reducible rfl)))); simp only [Act.put, List.setIfInBounds_toArray, List.set_cons_zero, List.set_cons_succ])
          | (refine AnyT.take (i := 16) (v := undef) rfl (by kernel_rfl) (fun _ _ _ h => h) (Or.inr ⟨by rfl, rfl⟩) (by assumption) ?_; simp only [Act.put, List.setIfInBounds_toArray, List.set_cons_zero, List.set_cons_succ])
        first
          | (refine AnyT.take (i := 17) (v := ?_) rfl (by kernel_rfl) (fun _ _ _ h => h) (Or.inl ⟨by rfl, ?_⟩) (by assumption) ?_; rotate_left; (· (intro V hSV; (try dsimp only at hSV); (first | (go_simp; done) | (go_simp; with_reducible rfl)))); simp only [Act.put, List.setIfInBounds_toArray, List.set_cons_zero, List.set_cons_succ])
          | (refine AnyT.take (i := 17) (v := undef) rfl (by kernel_rfl) (fun _ _ _ h => h) (Or.inr ⟨by rfl, rfl⟩) (by assumption) ?_; simp only [Act.put, List.setIfInBounds_toArray, List.set_cons_zero, List.set_cons_succ])
        first
          | (refine AnyT.take (i := 18) (v := ?_) rfl (by kernel_rfl) (fun _ _ _ h => h) (Or.inl ⟨by rfl, ?_⟩) (by assumption) ?_; rotate_left; (· (intro V hSV; (try dsimp only at hSV); (first | (go_simp; done) | (go_simp; with_reducible rfl)))); simp only [Act.put, List.setIfInBounds_toArray, List.set_cons_zero, List.set_cons_succ])
          | (refine AnyT.take (i := 18) (v := undef) rfl (by kernel_rfl) (fun _ _ _ h => h) (Or.inr ⟨by rfl, rfl⟩) (by assumption) ?_; simp only [Act.put, List.setIfInBounds_toArray, List.set_cons_zero, List.set_cons_succ])
        first
          | (refine AnyT.take (i := 19) (v := ?_) rfl (by kernel_rfl) (fun _ _ _ h => h) (Or.inl ⟨by rfl, ?_⟩) (by assumption) ?_; rotate_left; (· (intro V hSV; (try dsimp only at hSV); (first | (go_simp; done) | (go_simp; with_reducible rfl)))); simp only [Act.put, List.setIfInBounds_toArray, List.set_cons_zero, List.set_cons_succ])
          | (refine AnyT.take (i := 19) (v := undef) rfl (by kernel_rfl) (fun _ _ _ h => h) (Or.inr ⟨by rfl, rfl⟩) (by assumption) ?_; simp only [Act.put, List.setIfInBounds_toArray, List.set_cons_zero, List.set_cons_succ])
        first
          | (refine AnyT.take (i := 20) (v := ?_) rfl (by kernel_rfl) (fun _ _ _ h => h) (Or.inl ⟨by rfl, ?_⟩) (by assumption) ?_; rotate_left; (· (intro V hSV; (try dsimp only at hSV); (first | (go_simp; done) | (go_simp; with_reducible rfl)))); simp only [Act.put, List.setIfInBounds_toArray, List.set_cons_zero, List.set_cons_succ])
          | (refine AnyT.take (i := 20) (v := undef) rfl (by kernel_rfl) (fun _ _ _ h => h) (Or.inr ⟨by rfl, rfl⟩) (by assumption) ?_; simp only [Act.put, List.setIfInBounds_toArray, List.set_cons_zero, List.set_cons_succ])
        first
          | (refine AnyT.take (i := 21) (v := ?_) rfl (by kernel_rfl) (fun _ _ _ h => h) (Or.inl ⟨by rfl, ?_⟩) (by assumption) ?_; rotate_left; (· (intro V hSV; (try dsimp only at hSV); (first | (go_simp; done) | (go_simp; with_reducible rfl)))); simp only [Act.put, List.setIfInBounds_toArray, List.set_cons_zero, List.set_cons_succ])
          | (refine AnyT.take (i := 21) (v := undef) rfl (by kernel_rfl) (fun _ _ _ h => h) (Or.inr ⟨by rfl, rfl⟩) (by assumption) ?_; simp only [Act.put, List.setIfInBounds_toArray, List.set_cons_zero, List.set_cons_succ])
        first
          | (refine AnyT.take (i := 22) (v := ?_) rfl (by kernel_rfl) (fun _ _ _ h => h) (Or.inl ⟨by rfl, ?_⟩) (by assumption) ?_; rotate_left; (· (intro V hSV; (try dsimp only at hSV); (first | (go_simp; done) | (go_simp; with_reducible rfl)))); simp only [Act.put, List.setIfInBounds_toArray, List.set_cons_zero, List.set_cons_succ])
          | (refine AnyT.take (i := 22) (v := undef) rfl (by kernel_rfl) (fun _ _ _ h => h) (Or.inr ⟨by rfl, rfl⟩) (by assumption) ?_; simp only [Act.put, List.setIfInBounds_toArray, List.set_cons_zero, List.set_cons_succ])
        first
          | (refine AnyT.take (i := 23) (v := ?_) rfl (by kernel_rfl) (fun _ _ _ h => h) (Or.inl ⟨by rfl, ?_⟩) (by assumption) ?_; rotate_left; (· (intro V hSV; (try dsimp only at hSV); (first | (go_simp; done) | (go_simp; with_reducible rfl)))); simp only [Act.put, List.setIfInBounds_toArray, List.set_cons_zero, List.set_cons_succ])
          | (refine AnyT.take (i := 23) (v := undef) rfl (by kernel_rfl) (fun _ _ _ h => h) (Or.inr ⟨by rfl, rfl⟩) (by assumption) ?_; simp only [Act.put, List.setIfInBounds_toArray, List.set_cons_zero, List.set_cons_succ])
        first
          | (refine AnyT.take (i := 24) (v := ?_) rfl (by kernel_rfl) (fun _ _ _ h => h) (Or.inl ⟨by rfl, ?_⟩) (by assumption) ?_; rotate_left; (· (intro V hSV; (try dsimp only at hSV); (first | (go_simp; done) | (go_simp; with_reducible rfl)))); simp only [Act.put, List.setIfInBounds_toArray, List.set_cons_zero, List.set_cons_succ])
          | (refine AnyT.take (i := 24) (v := undef) rfl (by kernel_rfl) (fun _ _ _ h => h) (Or.inr ⟨by rfl, rfl⟩) (by assumption) ?_; simp only [Act.put, List.setIfInBounds_toArray, List.set_cons_zero, List.set_cons_succ])
        refine AnyT.ready (rs := [25]) (by kernel_rfl) (by simp) (ReadyT.cons rfl (fun K hK => ?_) ReadyT.nil)
        go_simp
        refine hK.out _ _ (fun h => absurd h (by simp)) (fun _ => ?_)
        clear hK K
        try simp only [Act.put, List.setIfInBounds_toArray, List.set_cons_zero, List.set_cons_succ]
        refine AnyT.done (by kernel_rfl) ?_ _
        go_wp2_with fail
        go_ret
        rw [hdo.out]
        exact ⟨rfl, (Two8.same F P1.out R1.out ap.out KD.out.drew).after k1'.out⟩
    · subst hf
      rw [ha] at T2
      clear ha gg
      cases gb
      all_goals
        refine AnyT.begin (S := fun V => V.cell? ⟨w.heap.size, 1, none⟩ = some (.int .i64 ac)) (by kernel_rfl) (S0.out _ (KD.out.mono fun _ _ => False.elim : Keeps (fun x => X x ∨ Y x) W1 _).drew).2.1 (fun hHeld => ?_)
        first
          | (refine AnyT.take (i := 0) (v := ?_) rfl (by kernel_rfl) (fun _ _ _ h => h) (Or.inl ⟨by rfl, ?_⟩) (by assumption) ?_; rotate_left; (· (intro V hSV; (try dsimp only at hSV); (first | (go_simp; done) | (go_simp; with_reducible rfl)))); simp only [Act.put, List.setIfInBounds_toArray, List.set_cons_zero, List.set_cons_succ])
          | (refine AnyT.take (i := 0) (v := undef) rfl (by kernel_rfl) (fun _ _ _ h => h) (Or.inr ⟨by rfl, rfl⟩) (by assumption) ?_; simp only [Act.put, List.setIfInBounds_toArray, List.set_cons_zero, List.set_cons_succ])
        first
          | (refine AnyT.take (i := 1) (v := ?_) rfl (by kernel_rfl) (fun _ _ _ h => h) (Or.inl ⟨by rfl, ?_⟩) (by assumption) ?_; rotate_left; (· (intro V hSV; (try dsimp only at hSV); (first | (go_simp; done) | (go_simp; with_reducible rfl)))); simp only [Act.put, List.setIfInBounds_toArray, List.set_cons_zero, List.set_cons_succ])
          | (refine AnyT.take (i := 1) (v := undef) rfl (by kernel_rfl) (fun _ _ _ h => h) (Or.inr ⟨by rfl, rfl⟩) (by assumption) ?_; simp only [Act.put, List.setIfInBounds_toArray, List.set_cons_zero, List.set_cons_succ])
        first
          | (refine AnyT.take (i := 2) (v := ?_) rfl (by kernel_rfl) (fun _ _ _ h => h) (Or.inl ⟨by rfl, ?_⟩) (by assumption) ?_; rotate_left; (· (intro V hSV; (try dsimp only at hSV); (first | (go_simp; done) | (go_simp; with_reducible rfl)))); simp only [Act.put, List.setIfInBounds_toArray, List.set_cons_zero, List.set_cons_succ])
          | (refine AnyT.take (i := 2) (v := undef) rfl (by kernel_rfl) (fun _ _ _ h => h) (Or.inr ⟨by rfl, rfl⟩) (by assumption) ?_; simp only [Act.put, List.setIfInBounds_toArray, List.set_cons_zero, List.set_cons_succ])
        first
          | (refine AnyT.take (i := 3) (v := ?_) rfl (by kernel_rfl) (fun _ _ _ h => h) (Or.inl ⟨by rfl, ?_⟩) (by assumption) ?_; rotate_left; (· (intro V hSV; (try dsimp only at hSV); (first | (go_simp; done) | (go_simp; with_reducible rfl)))); simp only [Act.put, List.setIfInBounds_toArray, List.set_cons_zero, List.set_cons_succ])
          | (refine AnyT.take (i := 3) (v := undef) rfl (by kernel_rfl) (fun _ _ _ h => h) (Or.inr ⟨by rfl, rfl⟩) (by assumption) ?_; simp only [Act.put, List.setIfInBounds_toArray, List.set_cons_zero, List.set_cons_succ])
        first
          | (refine AnyT.take (i := 4) (v := ?_) rfl (by kernel_rfl) (fun _ _ _ h => h) (Or.inl ⟨by rfl, ?_⟩) (by assumption) ?_; rotate_left; (· (intro V hSV; (try dsimp only at hSV); (first | (go_simp; done) | (go_simp; with_reducible rfl)))); simp only [Act.put, List.setIfInBounds_toArray, List.set_cons_zero, List.set_cons_succ])
          | (refine AnyT.take (i := 4) (v := undef) rfl (by kernel_rfl) (fun _ _ _ h => h) (Or.inr ⟨by rfl, rfl⟩) (by assumption) ?_; simp only [Act.put, List.setIfInBounds_toArray, List.set_cons_zero, List.set_cons_succ])
        first
          | (refine AnyT.take (i := 5) (v := ?_) rfl (by kernel_rfl) (fun _ _ _ h => h) (Or.inl ⟨by rfl, ?_⟩) (by assumption) ?_; rotate_left; (· (intro V hSV; (try dsimp only at hSV); (first | (go_simp; done) | (go_simp; with_reducible rfl)))); simp only [Act.put, List.setIfInBounds_toArray, List.set_cons_zero, List.set_cons_succ])
          | (refine AnyT.take (i := 5) (v := undef) rfl (by kernel_rfl) (fun _ _ _ h => h) (Or.inr ⟨by rfl, rfl⟩) (by assumption) ?_; simp only [Act.put, List.setIfInBounds_toArray, List.set_cons_zero, List.set_cons_succ])
        first
          | (refine AnyT.take (i := 6) (v := ?_) rfl (by kernel_rfl) (fun _ _ _ h => h) (Or.inl ⟨by rfl, ?_⟩) (by assumption) ?_; rotate_left; (· (intro V hSV; (try dsimp only at hSV); (first | (go_simp; done) | (go_simp; with_reducible rfl)))); simp only [Act.put, List.setIfInBounds_toArray, List.set_cons_zero, List.set_cons_succ])
          | (refine AnyT.take (i := 6) (v := undef) rfl (by kernel_rfl) (fun _ _ _ h => h) (Or.inr ⟨by rfl, rfl⟩) (by assumption) ?_; simp only [Act.put, List.setIfInBounds_toArray, List.set_cons_zero, List.set_cons_succ])
        first
          | (refine AnyT.take (i := 7) (v := ?_) rfl (by kernel_rfl) (fun _ _ _ h => h) (Or.inl ⟨by rfl, ?_⟩) (by assumption) ?_; rotate_left; (· (intro V hSV; (try dsimp only at hSV); (first | (go_simp; done) | (go_simp; with_reducible rfl)))); simp only [Act.put, List.setIfInBounds_toArray, List.set_cons_zero, List.set_cons_succ])
          | (refine AnyT.take (i := 7) (v := undef) rfl (by kernel_rfl) (fun _ _ _ h => h) (Or.inr ⟨by rfl, rfl⟩) (by assumption) ?_; simp only [Act.put, List.setIfInBounds_toArray, List.set_cons_zero, List.set_cons_succ])
        first
          | (refine AnyT.take (i := 8) (v := ?_) rfl (by kernel_rfl) (fun _ _ _ h => h) (Or.inl ⟨by rfl, ?_⟩) (by assumption) ?_; rotate_left; (· (intro V hSV; (try dsimp only at hSV); (first | (go_simp; done) | (go_simp; with_reducible rfl)))); simp only [Act.put, List.setIfInBounds_toArray, List.set_cons_zero, List.set_cons_succ])
          | (refine AnyT.take (i := 8) (v := undef) rfl (by kernel_rfl) (fun _ _ _ h => h) (Or.inr ⟨by rfl, rfl⟩) (by assumption) ?_; simp only [Act.put, List.setIfInBounds_toArray, List.set_cons_zero, List.set_cons_succ])
        first
          | (refine AnyT.take (i := 9) (v := ?_) rfl (by kernel_rfl) (fun _ _ _ h => h) (Or.inl ⟨by rfl, ?_⟩) (by assumption) ?_; rotate_left; (· (intro V hSV; (try dsimp only at hSV); (first | (go_simp; done) | (go_simp; with_reducible rfl)))); simp only [Act.put, List.setIfInBounds_toArray, List.set_cons_zero, List.set_cons_succ])
          | (refine AnyT.take (i := 9) (v := undef) rfl (by kernel_rfl) (fun _ _ _ h => h) (Or.inr ⟨by rfl, rfl⟩) (by assumption) ?_; simp only [Act.put, List.setIfInBounds_toArray, List.set_cons_zero, List.set_cons_succ])
        first
          | (refine AnyT.take (i := 11) (v := ?_) rfl (by kernel_rfl) (fun _ _ _ h => h) (Or.inl ⟨by rfl, ?_⟩) (by assumption) ?_; rotate_left; (· (intro V hSV; (try dsimp only at hSV); (first | (go_simp; done) | (go_simp; with_reducible rfl)))); simp only [Act.put, List.setIfInBounds_toArray, List.set_cons_zero, List.set_cons_succ])
          | (refine AnyT.take (i := 11) (v := undef) rfl (by kernel_rfl) (fun _ _ _ h => h) (Or.inr ⟨by rfl, rfl⟩) (by assumption) ?_; simp only [Act.put, List.setIfInBounds_toArray, List.set_cons_zero, List.set_cons_succ])
        refine AnyT.ready (rs := [10]) (by kernel_rfl) (by simp) (ReadyT.cons rfl (fun K hK => ?_) ReadyT.nil)
        go_simp
        refine (no_u (T2.out.same (Keeps.refl _ _).drew)).mono ?_
        rintro e w5 ⟨rfl, rfl⟩
        go_wp2_with fail
        refine hK.out _ _ (fun _ => hHeld) (fun _ => ?_)
        clear hK K
        try simp only [Act.put, List.setIfInBounds_toArray, List.set_cons_zero, List.set_cons_succ]
        first
          | (refine AnyT.take (i := 12) (v := ?_) rfl (by kernel_rfl) (fun _ _ _ h => h) (Or.inl ⟨by rfl, ?_⟩) (by assumption) ?_; rotate_left; (· (intro V hSV; (try dsimp only at hSV); (first | (go_simp; done) | (go_simp; with_reducible rfl)))); simp only [Act.put, List.setIfInBounds_toArray, List.set_cons_zero, List.set_cons_succ])
          | (refine AnyT.take (i := 12) (v := undef) rfl (by kernel_rfl) (fun _ _ _ h => h) (Or.inr ⟨by rfl, rfl⟩) (by assumption) ?_; simp only [Act.put, List.setIfInBounds_toArray, List.set_cons_zero, List.set_cons_succ])
        first
          | (refine AnyT.take (i := 13) (v := ?_) rfl (by kernel_rfl) (fun _ _ _ h => h) (Or.inl ⟨by rfl, ?_⟩) (by assumption) ?_; rotate_left; (· (intro V hSV; (try dsimp only at hSV); (first | (go_simp; done) | (go_simp; with_reducible rfl)))); simp only [Act.put, List.setIfInBounds_toArray, List.set_cons_zero, List.set_cons_succ])
          | (refine AnyT.take (i := 13) (v := undef) rfl (by kernel_rfl) (fun _ _ _ h => h) (Or.inr ⟨by rfl, rfl⟩) (by assumption) ?_; simp only [Act.put, List.setIfInBounds_toArray, List.set_cons_zero, List.set_cons_succ])
        first
          | (refine AnyT.take (i := 14) (v := ?_) rfl (by kernel_rfl) (fun _ _ _ h => h) (Or.inl ⟨by rfl, ?_⟩) (by assumption) ?_; rotate_left; (· (intro V hSV; (try dsimp only at hSV); (first | (go_simp; done) | (go_simp; with_reducible rfl)))); simp only [Act.put, List.setIfInBounds_toArray, List.set_cons_zero, List.set_cons_succ])
          | (refine AnyT.take (i := 14) (v := undef) rfl (by kernel_rfl) (fun _ _ _ h => h) (Or.inr ⟨by rfl, rfl⟩) (by assumption) ?_; simp only [Act.put, List.setIfInBounds_toArray, List.set_cons_zero, List.set_cons_succ])
        first
          | (refine AnyT.take (i := 15) (v := ?_) rfl (by kernel_rfl) (fun _ _ _ h => h) (Or.inl ⟨by rfl, ?_⟩) (by assumption) ?_; rotate_left; (· (intro V hSV; (try dsimp only at hSV); (first | (go_simp; done) | (go_simp; with_reducible rfl)))); simp only [Act.put, List.setIfInBounds_toArray, List.set_cons_zero, List.set_cons_succ])
          | (refine AnyT.take (i := 15) (v := undef) rfl (by kernel_rfl) (fun _ _ _ h => h) (Or.inr ⟨by rfl, rfl⟩) (by assumption) ?_; simp only [Act.put, List.setIfInBounds_toArray, List.set_cons_zero, List.set_cons_succ])
        first
          | (refine AnyT.take (i := 16) (v := ?_) rfl (by kernel_rfl) (fun _ _ _ h => h) (Or.inl ⟨by rfl, ?_⟩) (by assumption) ?_; rotate_left; (· (intro V hSV; (try dsimp only at hSV); (first | (go_simp; done) | (go_simp; with_reducible rfl)))); simp only [Act.put, List.setIfInBounds_toArray, List.set_cons_zero, List.set_cons_succ])
          | (refine AnyT.take (i := 16) (v := undef) rfl (by kernel_rfl) (fun _ _ _ h => h) (Or.inr ⟨by rfl, rfl⟩) (by assumption) ?_; simp only [Act.put, List.setIfInBounds_toArray, List.set_cons_zero, List.set_cons_succ])
        first
          | (refine AnyT.take (i := 17) (v := ?_) rfl (by kernel_rfl) (fun _ _ _ h => h) (Or.inl ⟨by rfl, ?_⟩) (by assumption) ?_; rotate_left; (· (intro V hSV; (try dsimp only at hSV); (first | (go_simp; done) | (go_simp; with_reducible rfl)))); simp only [Act.put, List.setIfInBounds_toArray, List.set_cons_zero, List.set_cons_succ])
          | (refine AnyT.take (i := 17) (v := undef) rfl (by kernel_rfl) (fun _ _ _ h => h) (Or.inr ⟨by rfl, rfl⟩) (by assumption) ?_; simp only [Act.put, List.setIfInBounds_toArray, List.set_cons_zero, List.set_cons_succ])
        first
          | (refine AnyT.take (i := 18) (v := ?_) rfl (by kernel_rfl) (fun _ _ _ h => h) (Or.inl ⟨by rfl, ?_⟩) (by assumption) ?_; rotate_left; (· (intro V hSV; (try dsimp only at hSV); (first | (go_simp; done) | (go_simp; with_reducible rfl)))); simp only [Act.put, List.setIfInBounds_toArray, List.set_cons_zero, List.set_cons_succ])
          | (refine AnyT.take (i := 18) (v := undef) rfl (by kernel_rfl) (fun _ _ _ h => h) (Or.inr ⟨by rfl, rfl⟩) (by assumption) ?_; simp only [Act.put, List.setIfInBounds_toArray, List.set_cons_zero, List.set_cons_succ])
        first
          | (refine AnyT.take (i := 20) (v := ?_) rfl (by kernel_rfl) (fun _ _ _ h => h) (Or.inl ⟨by rfl, ?_⟩) (by assumption) ?_; rotate_left; (· (intro V hSV; (try dsimp only at hSV); (first | (go_simp; done) | (go_simp; with_reducible rfl)))); simp only [Act.put, List.setIfInBounds_toArray, List.set_cons_zero, List.set_cons_succ])
          | (refine AnyT.take (i := 20) (v := undef) rfl (by kernel_rfl) (fun _ _ _ h => h) (Or.inr ⟨by rfl, rfl⟩) (by assumption) ?_; simp only [Act.put, List.setIfInBounds_toArray, List.set_cons_zero, List.set_cons_succ])
        first
          | (refine AnyT.take (i := 21) (v := ?_) rfl (by kernel_rfl) (fun _ _ _ h => h) (Or.inl ⟨by rfl, ?_⟩) (by assumption) ?_; rotate_left; (· (intro V hSV; (try dsimp only at hSV); (first | (go_simp; done) | (go_simp; with_reducible rfl)))); simp only [Act.put, List.setIfInBounds_toArray, List.set_cons_zero, List.set_cons_succ])
          | (refine AnyT.take (i := 21) (v := undef) rfl (by kernel_rfl) (fun _ _ _ h => h) (Or.inr ⟨by rfl, rfl⟩) (by assumption) ?_; simp only [Act.put, List.setIfInBounds_toArray, List.set_cons_zero, List.set_cons_succ])
        refine AnyT.ready (rs := [19]) (by kernel_rfl) (by simp) (ReadyT.cons rfl (fun K hK => ?_) ReadyT.nil)
        go_simp
        refine (place_u (T2.out.same (Keeps.refl _ _).drew) (G1.out _ (KD.out.mono fun _ _ => False.elim : Keeps (fun x => X x ∨ Y x) W1 _).drew)).mono ?_
        rintro e w5 ⟨rfl, hK5⟩
        go_wp2_with fail
        have k5 := Lib.hid ((KD.out.drew).trans hK5 fun _ _ => False.elim)
        have hHeld := (S0.out w5 (k5.out.mono fun _ _ => False.elim)).2.1
        clear hK5
        refine hK.out _ _ (fun _ => hHeld) (fun _ => ?_)
        clear hK K
        try simp only [Act.put, List.setIfInBounds_toArray, List.set_cons_zero, List.set_cons_succ]
        first
          | (refine AnyT.take (i := 22) (v := ?_) rfl (by kernel_rfl) (fun _ _ _ h => h) (Or.inl ⟨by rfl, ?_⟩) (by assumption) ?_; rotate_left; (· (intro V hSV; (try dsimp only at hSV); (first | (go_simp; done) | (go_simp; with_reducible rfl)))); simp only [Act.put, List.setIfInBounds_toArray, List.set_cons_zero, List.set_cons_succ])
          | (refine AnyT.take (i := 22) (v := undef) rfl (by kernel_rfl) (fun _ _ _ h => h) (Or.inr ⟨by rfl, rfl⟩) (by assumption) ?_; simp only [Act.put, List.setIfInBounds_toArray, List.set_cons_zero, List.set_cons_succ])
        first
          | (refine AnyT.take (i := 23) (v := ?_) rfl (by kernel_rfl) (fun _ _ _ h => h) (Or.inl ⟨by rfl, ?_⟩) (by assumption) ?_; rotate_left; (· (intro V hSV; (try dsimp only at hSV); (first | (go_simp; done) | (go_simp; with_reducible rfl)))); simp only [Act.put, List.setIfInBounds_toArray, List.set_cons_zero, List.set_cons_succ])
          | (refine AnyT.take (i := 23) (v := undef) rfl (by kernel_rfl) (fun _ _ _ h => h) (Or.inr ⟨by rfl, rfl⟩) (by assumption) ?_; simp only [Act.put, List.setIfInBounds_toArray, List.set_cons_zero, List.set_cons_succ])
        first
          | (refine AnyT.take (i := 24) (v := ?_) rfl (by kernel_rfl) (fun _ _ _ h => h) (Or.inl ⟨by rfl, ?_⟩) (by assumption) ?_; rotate_left; (· (intro V hSV; (try dsimp only at hSV); (first | (go_simp; done) | (go_simp; with_reducible rfl)))); simp only [Act.put, List.setIfInBounds_toArray, List.set_cons_zero, List.set_cons_succ])
          | (refine AnyT.take (i := 24) (v := undef) rfl (by kernel_rfl) (fun _ _ _ h => h) (Or.inr ⟨by rfl, rfl⟩) (by assumption) ?_; simp only [Act.put, List.setIfInBounds_toArray, List.set_cons_zero, List.set_cons_succ])
        refine AnyT.ready (rs := [25]) (by kernel_rfl) (by simp) (ReadyT.cons rfl (fun K hK => ?_) ReadyT.nil)
        go_simp
        refine hK.out _ _ (fun h => absurd h (by simp)) (fun _ => ?_)
        clear hK K
        try simp only [Act.put, List.setIfInBounds_toArray, List.set_cons_zero, List.set_cons_succ]
        refine AnyT.done (by kernel_rfl) ?_ _
        go_wp2_with fail
        go_ret
        rw [hdo.out]
        exact ⟨rfl, (Two8.same F P1.out R1.out ap.out k5.out).after k1'.out⟩
  have n0 : (k == 0) = false := by simpa using h0
  by_cases h1 : k = 1
  · subst h1
    have hdo := Lib.hid (show mDo A ⟨1, ac, ak, av⟩ = (mPut A ac ak av).1 by unfold mDo; simp)
    clear b1 b2 b3
    go_wp2_with fail
    clear b0
    have s0 := Lib.hid (And.intro (S0.out _ (Keeps.refl _ _).drew).2.1 (And.intro (S0.out _ (Keeps.refl _ _).drew).2.2.1 (S0.out _ (Keeps.refl _ _).drew).2.2.2))
    go_region_held3 (fun V => V.cell? ⟨w.heap.size, 1, none⟩ = some (.int .i64 ac) ∧ V.cell? ⟨w.heap.size, 2, none⟩ = some (.int .i64 ak) ∧ V.cell? ⟨w.heap.size, 3, none⟩ = some (.int .i64 av)) (first | exact sB.out | exact sA.out | exact s0.out)
      (first
        | (go_at_call 11; first | (refine (no_u T3.out).mono ?_; rintro e w' ⟨rfl, rfl⟩) | (refine (no_u T2.out).mono ?_; rintro e w' ⟨rfl, rfl⟩))
        | (go_at_call 57; refine (F.put (F.keeps P1.out Wr2.out.keeps ap.out) ac ak av hcw).mono ?_; rintro e w3 ⟨er, pl, rfl, hT, hW⟩; have D3 := Lib.hid (two_rs8 F P1.out ap.out Wr2.out hW); have T3 := Lib.hid (hT.less (Nat.zero_le _)); have sB := Lib.hid (And.intro (S0.out _ D3.out.keeps).2.1 (And.intro (S0.out _ D3.out.keeps).2.2.1 (S0.out _ D3.out.keeps).2.2.2)); clear hT hW)
        | (go_at_call 20; refine (rput8 (R1.out.keeps Ws2.out.keeps nq.out) ok.out ac ak av).mono ?_; rintro e w3 ⟨rfl, hW⟩; have D3 := Lib.hid (two_sr8 F R1.out ap.out Ws2.out hW); have T3 := Lib.hid ((T2.out.keeps hW.keeps fun x hx e => absurd (R1.out.old x e) (by omega)).less (Nat.zero_le _)); have sB := Lib.hid (And.intro (S0.out _ D3.out.keeps).2.1 (And.intro (S0.out _ D3.out.keeps).2.2.1 (S0.out _ D3.out.keeps).2.2.2)); clear hW)
        | (go_at_call 57; refine (F.put (F.same P1.out (Keeps.refl _ _).drew) ac ak av hcw).mono ?_; rintro e w2 ⟨er, pl, rfl, hT, hW⟩; have Ws2 := Lib.hid (mdid_drew hW); have T2 := Lib.hid (show ErrU W1.heap.size w2 er _ pl from hT); have sA := Lib.hid (And.intro (S0.out _ (Ws2.out.keeps.mono fun _ _ g => .inl g)).2.1 (And.intro (S0.out _ (Ws2.out.keeps.mono fun _ _ g => .inl g)).2.2.1 (S0.out _ (Ws2.out.keeps.mono fun _ _ g => .inl g)).2.2.2)); clear hT hW)
        | (go_at_call 20; refine (rput8 (R1.out.same (Keeps.refl _ _).drew) ok.out ac ak av).mono ?_; rintro e w2 ⟨rfl, hW⟩; have Wr2 := Lib.hid (rmid_drew hW); have sA := Lib.hid (And.intro (S0.out _ (Wr2.out.keeps.mono fun _ _ g => .inr g)).2.1 (And.intro (S0.out _ (Wr2.out.keeps.mono fun _ _ g => .inr g)).2.2.1 (S0.out _ (Wr2.out.keeps.mono fun _ _ g => .inr g)).2.2.2)); clear hW))
    all_goals (go_wp2_with fail; go_ret; rw [hdo.out]; exact ⟨by simp, D3.out.after k1'.out⟩)
  have n1 : (k == 1) = false := by simpa using h1
  by_cases h2 : k = 2
  · subst h2
    have hdo := Lib.hid (show mDo A ⟨2, ac, ak, av⟩ = (mPut A ac ak av).1 by unfold mDo; simp)
    clear b1 b2 b3
    go_wp2_with fail
    clear b0
    have s0 := Lib.hid (And.intro (S0.out _ (Keeps.refl _ _).drew).2.1 (And.intro (S0.out _ (Keeps.refl _ _).drew).2.2.1 (S0.out _ (Keeps.refl _ _).drew).2.2.2))
    go_region_held3 (fun V => V.cell? ⟨w.heap.size, 1, none⟩ = some (.int .i64 ac) ∧ V.cell? ⟨w.heap.size, 2, none⟩ = some (.int .i64 ak) ∧ V.cell? ⟨w.heap.size, 3, none⟩ = some (.int .i64 av)) (first | exact sB.out | exact sA.out | exact s0.out)
      (first
        | (go_at_call 11; first | (refine (no_u T3.out).mono ?_; rintro e w' ⟨rfl, rfl⟩) | (refine (no_u T2.out).mono ?_; rintro e w' ⟨rfl, rfl⟩))
        | (go_at_call 57; refine (F.put (F.keeps P1.out Wr2.out.keeps ap.out) ac ak av hcw).mono ?_; rintro e w3 ⟨er, pl, rfl, hT, hW⟩; have D3 := Lib.hid (two_rs8 F P1.out ap.out Wr2.out hW); have T3 := Lib.hid (hT.less (Nat.zero_le _)); have sB := Lib.hid (And.intro (S0.out _ D3.out.keeps).2.1 (And.intro (S0.out _ D3.out.keeps).2.2.1 (S0.out _ D3.out.keeps).2.2.2)); clear hT hW)
        | (go_at_call 20; refine (rput8 (R1.out.keeps Ws2.out.keeps nq.out) ok.out ac ak av).mono ?_; rintro e w3 ⟨rfl, hW⟩; have D3 := Lib.hid (two_sr8 F R1.out ap.out Ws2.out hW); have T3 := Lib.hid ((T2.out.keeps hW.keeps fun x hx e => absurd (R1.out.old x e) (by omega)).less (Nat.zero_le _)); have sB := Lib.hid (And.intro (S0.out _ D3.out.keeps).2.1 (And.intro (S0.out _ D3.out.keeps).2.2.1 (S0.out _ D3.out.keeps).2.2.2)); clear hW)
        | (go_at_call 57; refine (F.put (F.same P1.out (Keeps.refl _ _).drew) ac ak av hcw).mono ?_; rintro e w2 ⟨er, pl, rfl, hT, hW⟩; have Ws2 := Lib.hid (mdid_drew hW); have T2 := Lib.hid (show ErrU W1.heap.size w2 er _ pl from hT); have sA := Lib.hid (And.intro (S0.out _ (Ws2.out.keeps.mono fun _ _ g => .inl g)).2.1 (And.intro (S0.out _ (Ws2.out.keeps.mono fun _ _ g => .inl g)).2.2.1 (S0.out _ (Ws2.out.keeps.mono fun _ _ g => .inl g)).2.2.2)); clear hT hW)
        | (go_at_call 20; refine (rput8 (R1.out.same (Keeps.refl _ _).drew) ok.out ac ak av).mono ?_; rintro e w2 ⟨rfl, hW⟩; have Wr2 := Lib.hid (rmid_drew hW); have sA := Lib.hid (And.intro (S0.out _ (Wr2.out.keeps.mono fun _ _ g => .inr g)).2.1 (And.intro (S0.out _ (Wr2.out.keeps.mono fun _ _ g => .inr g)).2.2.1 (S0.out _ (Wr2.out.keeps.mono fun _ _ g => .inr g)).2.2.2)); clear hW))
    all_goals (go_wp2_with fail; go_ret; rw [hdo.out]; exact ⟨by simp, D3.out.after k1'.out⟩)
  have n2 : (k == 2) = false := by simpa using h2
  by_cases h3 : k = 3
  · subst h3
    have hdo := Lib.hid (show mDo A ⟨3, ac, ak, av⟩ = (mDel A ac ak).1 by unfold mDo; simp)
    clear b1 b2 b3
    go_wp2_with fail
    clear b0
    have s0 := Lib.hid (And.intro (S0.out _ (Keeps.refl _ _).drew).2.1 (S0.out _ (Keeps.refl _ _).drew).2.2.1)
    go_region_held3 (fun V => V.cell? ⟨w.heap.size, 1, none⟩ = some (.int .i64 ac) ∧ V.cell? ⟨w.heap.size, 2, none⟩ = some (.int .i64 ak)) (first | exact sB.out | exact sA.out | exact s0.out)
      (first
        | (go_at_call 11; first | (refine (no_u T3.out).mono ?_; rintro e w' ⟨rfl, rfl⟩) | (refine (no_u T2.out).mono ?_; rintro e w' ⟨rfl, rfl⟩))
        | (go_at_call 58; refine (F.del_ (F.keeps P1.out Wr2.out.keeps ap.out) ac ak hcw).mono ?_; rintro e w3 ⟨er, pl, rfl, hT, hW⟩; have D3 := Lib.hid (two_rs8 F P1.out ap.out Wr2.out hW); have T3 := Lib.hid (hT.less (Nat.zero_le _)); have sB := Lib.hid (And.intro (S0.out _ D3.out.keeps).2.1 (S0.out _ D3.out.keeps).2.2.1); clear hT hW)
        | (go_at_call 59; refine (rdel8 (R1.out.keeps Ws2.out.keeps nq.out) ok.out ac ak).mono ?_; rintro e w3 ⟨rfl, hW⟩; have D3 := Lib.hid (two_sr8 F R1.out ap.out Ws2.out hW); have T3 := Lib.hid ((T2.out.keeps hW.keeps fun x hx e => absurd (R1.out.old x e) (by omega)).less (Nat.zero_le _)); have sB := Lib.hid (And.intro (S0.out _ D3.out.keeps).2.1 (S0.out _ D3.out.keeps).2.2.1); clear hW)
        | (go_at_call 58; refine (F.del_ (F.same P1.out (Keeps.refl _ _).drew) ac ak hcw).mono ?_; rintro e w2 ⟨er, pl, rfl, hT, hW⟩; have Ws2 := Lib.hid (mdid_drew hW); have T2 := Lib.hid (show ErrU W1.heap.size w2 er _ pl from hT); have sA := Lib.hid (And.intro (S0.out _ (Ws2.out.keeps.mono fun _ _ g => .inl g)).2.1 (S0.out _ (Ws2.out.keeps.mono fun _ _ g => .inl g)).2.2.1); clear hT hW)
        | (go_at_call 59; refine (rdel8 (R1.out.same (Keeps.refl _ _).drew) ok.out ac ak).mono ?_; rintro e w2 ⟨rfl, hW⟩; have Wr2 := Lib.hid (rmid_drew hW); have sA := Lib.hid (And.intro (S0.out _ (Wr2.out.keeps.mono fun _ _ g => .inr g)).2.1 (S0.out _ (Wr2.out.keeps.mono fun _ _ g => .inr g)).2.2.1); clear hW))
    all_goals (go_wp2_with fail; go_ret; rw [hdo.out]; exact ⟨by simp, D3.out.after k1'.out⟩)
  have n3 : (k == 3) = false := by simpa using h3
  by_cases h4 : k = 4
  · subst h4
    have hdo := Lib.hid (show mDo A ⟨4, ac, ak, av⟩ = A by unfold mDo; simp)
    go_wp2_with fail
    refine (F.ceil_ P1.out ac ak).mono ?_
    rintro e w2 ⟨ev, pl, rfl, hT, hK⟩
    have T2 := Lib.hid (hT.less (Nat.zero_le _))
    have KD := Lib.hid hK
    obtain ⟨b0, b1, b2, b3⟩ := S0.out w2 (hK.mono fun _ _ => False.elim)
    clear hT hK
    go_wp2_with fail
    refine (rceil8 (R1.out.same KD.out) ok.out ac ak).mono ?_
    rintro e w' ⟨rfl, rfl⟩
    obtain ⟨gv, gb, gf, gg⟩ : ∃ gv gb gf, mCeil A ac ak = (gv, gb, gf) := ⟨_, _, _, rfl⟩
    rw [gg] at T2
    simp only [gg]
    simp only at T2
    cases gb
    all_goals
      go_wp2_with (first | (go_at_call 11; refine (no_u T2.out).mono ?_; rintro e w' ⟨rfl, rfl⟩))
      go_ret
      rw [hdo.out]
      exact ⟨rfl, (Two8.same F P1.out R1.out ap.out KD.out).after k1'.out⟩
  have n4 : (k == 4) = false := by simpa using h4
  by_cases h5 : k = 5
  · subst h5
    have hdo := Lib.hid (show mDo A ⟨5, ac, ak, av⟩ = A by unfold mDo; simp)
    go_wp2_with fail
    refine (F.range_ P1.out ac ak av).mono ?_
    rintro e w2 ⟨ev, pl, rfl, hT, hK⟩
    have T2 := Lib.hid (hT.less (Nat.zero_le _))
    have KD := Lib.hid hK
    obtain ⟨b0, b1, b2, b3⟩ := S0.out w2 (hK.mono fun _ _ => False.elim)
    clear hT hK
    go_wp2_with fail
    refine (rrange8 (R1.out.same KD.out) ok.out ac ak av).mono ?_
    rintro e w' ⟨rfl, rfl⟩
    obtain ⟨gv, gf, gg⟩ : ∃ gv gf, mRange A ac ak av = (gv, gf) := ⟨_, _, rfl⟩
    rw [gg] at T2
    simp only [gg]
    simp only at T2
    go_wp2_with (first | (go_at_call 11; refine (no_u T2.out).mono ?_; rintro e w' ⟨rfl, rfl⟩))
    go_ret
    rw [hdo.out]
    exact ⟨rfl, (Two8.same F P1.out R1.out ap.out KD.out).after k1'.out⟩
  have n5 : (k == 5) = false := by simpa using h5
  have hdo : mDo A ⟨k, ac, ak, av⟩ = A := by unfold mDo; simp [h1, h2, h3]
  go_wp2_with fail
  go_ret
  rw [hdo]
  exact ⟨rfl, (Two8.same F P1.out R1.out ap.out (Keeps.refl _ _)).after k1'.out⟩
end Go.Proofs.YthidipigpfcbbaaGreatDoor
