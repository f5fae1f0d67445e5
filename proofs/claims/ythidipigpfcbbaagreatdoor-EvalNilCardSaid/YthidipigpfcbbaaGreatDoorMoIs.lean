/-
  concordlaw08.Is by contract, for any program's states that keep 'Face': of both in one state it answers true (printed by gen/mkis8.py).
-/
import Derived.Test.YthidipigpfcbbaaGreatDoorMoDo
namespace Go.Proofs.YthidipigpfcbbaaGreatDoor
open Go.RowKit Go.Maps Go.Extern.Stop Go.Stop Go.Extern

theorem ni_self {w : World} {l : List Int} {v v' : Value} (h : IRow w v l) (h' : IRow w v' l) (few : l.length ≤ 1000000) :
    Calls Tryz.prog 30 #[v, v'] w fun e w' => e = .returned (.bool true) ∧ Keeps (fun _ => False) w w' :=
  (ni_any h h' few).mono fun _ _ ⟨h1, h2⟩ => ⟨by rw [h1, decide_eq_true rfl], h2⟩
theorem pr_self {w : World} {l : Tl} {v v' : Value} (h : PRow w v l) (h' : PRow w v' l) (few : l.length ≤ 1000000) :
    Calls Tryz.prog 44 #[v, v'] w fun e w' => e = .returned (.bool true) ∧ Keeps (fun _ => False) w w' :=
  (pr_any h h' few).mono fun _ _ ⟨h1, h2⟩ => ⟨by rw [h1, decide_eq_true rfl], h2⟩

set_option maxRecDepth 100000 in
set_option maxHeartbeats 4000000 in
theorem is_any8 {PM : PMem} (F : Face PM) {w : World} {s r : Nat} {A : M8} {X Y : Nat → Prop} (hS : PM w s A X) (hR : RM w r A Y) :
    Calls Tryz.prog 21 #[.pointer (some ⟨s, 0, none⟩), .pointer (some ⟨r, 0, none⟩)] w fun e w' => e = .returned (.bool true) ∧ Keeps (fun _ => False) w w' := by
  have hok := F.ok hS
  have ok := Lib.hid hok
  have P0 := Lib.hid hS
  have R0 := Lib.hid hR
  have fk : A.K.length ≤ 1000000 := by have := hok.len; have := hok.few; omega
  obtain ⟨n, hn⟩ : ∃ n, A.K.length = n := ⟨_, rfl⟩
  have hln := hok.len
  have n8 : n ≤ 8 := by have := hok.few; omega
  have RK0 : ∃ vK, Hid (IRow w vK A.K) ∧ Hid (∀ V, Keeps (fun _ => False) w V → V.cell? ⟨r, 0, none⟩ = some vK) := by
    obtain ⟨vK, vL, ws, h⟩ := hR
    exact ⟨vK, Lib.hid h.kinds, Lib.hid fun V K => (h.blk.keeps K id).at_ 0⟩
  obtain ⟨vK, RK0, S0⟩ := RK0
  obtain ⟨ok_, ck, rfl, _⟩ := row_shape RK0.out
  rw [hn] at S0 RK0
  have hLn : A.L.length = n := by omega
  have hLn' := Lib.hid hLn
  clear hS hR hok hln hLn
  go_enter Tryz.func21, Tryz.ntmps21
  go_wp2_with fail
  refine AnyT.begin (S := fun V => V.cell? ⟨r, 0, none⟩ = some (.slice ok_ n ck)) (by kernel_rfl) (S0.out _ (Keeps.refl _ _).drew) (fun hHeld => ?_)
  first
    | (refine AnyT.take (i := 0) (v := ?_) rfl (by kernel_rfl) (fun _ _ _ h => h) (Or.inl ⟨by rfl, ?_⟩) (by assumption) ?_; rotate_left; (· (intro V hSV; (try dsimp only at hSV); (first | (go_simp; done) | (go_simp; with_reducible rfl)))); simp only [Act.put, List.setIfInBounds_toArray, List.set_cons_zero, List.set_cons_succ])
    | (refine AnyT.take (i := 0) (v := undef) rfl (by kernel_rfl) (fun _ _ _ h => h) (Or.inr ⟨by rfl, rfl⟩) (by assumption) ?_; simp only [Act.put, List.setIfInBounds_toArray, List.set_cons_zero, List.set_cons_succ])
  first
    | (refine AnyT.take (i := 1) (v := ?_) rfl (by kernel_rfl) (fun _ _ _ h => h) (Or.inl ⟨by rfl, ?_⟩) (by assumption) ?_; rotate_left; (· (intro V hSV; (try dsimp only at hSV); (first | (go_simp; done) | (go_simp; with_reducible rfl)))); simp only [Act.put, List.setIfInBounds_toArray, List.set_cons_zero, List.set_cons_succ])
    | (refine AnyT.take (i := 1) (v := undef) rfl (by kernel_rfl) (fun _ _ _ h => h) (Or.inr ⟨by rfl, rfl⟩) (by assumption) ?_; simp only [Act.put, List.setIfInBounds_toArray, List.set_cons_zero, List.set_cons_succ])
  first
    | (refine AnyT.take (i := 2) (v := ?_) rfl (by kernel_rfl) (fun _ _ _ h => h) (Or.inl ⟨by rfl, ?_⟩) (by assumption) ?_; rotate_left; (· (intro V hSV; (try dsimp only at hSV); (first | (go_simp; done) | (go_simp; with_reducible rfl)))); simp only [Act.put, List.setIfInBounds_toArray, List.set_cons_zero, List.set_cons_succ])
    | (refine AnyT.take (i := 2) (v := undef) rfl (by kernel_rfl) (fun _ _ _ h => h) (Or.inr ⟨by rfl, rfl⟩) (by assumption) ?_; simp only [Act.put, List.setIfInBounds_toArray, List.set_cons_zero, List.set_cons_succ])
  first
    | (refine AnyT.take (i := 3) (v := ?_) rfl (by kernel_rfl) (fun _ _ _ h => h) (Or.inl ⟨by rfl, ?_⟩) (by assumption) ?_; rotate_left; (· (intro V hSV; (try dsimp only at hSV); (first | (go_simp; done) | (go_simp; with_reducible rfl)))); simp only [Act.put, List.setIfInBounds_toArray, List.set_cons_zero, List.set_cons_succ])
    | (refine AnyT.take (i := 3) (v := undef) rfl (by kernel_rfl) (fun _ _ _ h => h) (Or.inr ⟨by rfl, rfl⟩) (by assumption) ?_; simp only [Act.put, List.setIfInBounds_toArray, List.set_cons_zero, List.set_cons_succ])
  first
    | (refine AnyT.take (i := 5) (v := ?_) rfl (by kernel_rfl) (fun _ _ _ h => h) (Or.inl ⟨by rfl, ?_⟩) (by assumption) ?_; rotate_left; (· (intro V hSV; (try dsimp only at hSV); (first | (go_simp; done) | (go_simp; with_reducible rfl)))); simp only [Act.put, List.setIfInBounds_toArray, List.set_cons_zero, List.set_cons_succ])
    | (refine AnyT.take (i := 5) (v := undef) rfl (by kernel_rfl) (fun _ _ _ h => h) (Or.inr ⟨by rfl, rfl⟩) (by assumption) ?_; simp only [Act.put, List.setIfInBounds_toArray, List.set_cons_zero, List.set_cons_succ])
  first
    | (refine AnyT.take (i := 6) (v := ?_) rfl (by kernel_rfl) (fun _ _ _ h => h) (Or.inl ⟨by rfl, ?_⟩) (by assumption) ?_; rotate_left; (· (intro V hSV; (try dsimp only at hSV); (first | (go_simp; done) | (go_simp; with_reducible rfl)))); simp only [Act.put, List.setIfInBounds_toArray, List.set_cons_zero, List.set_cons_succ])
    | (refine AnyT.take (i := 6) (v := undef) rfl (by kernel_rfl) (fun _ _ _ h => h) (Or.inr ⟨by rfl, rfl⟩) (by assumption) ?_; simp only [Act.put, List.setIfInBounds_toArray, List.set_cons_zero, List.set_cons_succ])
  first
    | (refine AnyT.take (i := 7) (v := ?_) rfl (by kernel_rfl) (fun _ _ _ h => h) (Or.inl ⟨by rfl, ?_⟩) (by assumption) ?_; rotate_left; (· (intro V hSV; (try dsimp only at hSV); (first | (go_simp; done) | (go_simp; with_reducible rfl)))); simp only [Act.put, List.setIfInBounds_toArray, List.set_cons_zero, List.set_cons_succ])
    | (refine AnyT.take (i := 7) (v := undef) rfl (by kernel_rfl) (fun _ _ _ h => h) (Or.inr ⟨by rfl, rfl⟩) (by assumption) ?_; simp only [Act.put, List.setIfInBounds_toArray, List.set_cons_zero, List.set_cons_succ])
  first
    | (refine AnyT.take (i := 8) (v := ?_) rfl (by kernel_rfl) (fun _ _ _ h => h) (Or.inl ⟨by rfl, ?_⟩) (by assumption) ?_; rotate_left; (· (intro V hSV; (try dsimp only at hSV); (first | (go_simp; done) | (go_simp; with_reducible rfl)))); simp only [Act.put, List.setIfInBounds_toArray, List.set_cons_zero, List.set_cons_succ])
    | (refine AnyT.take (i := 8) (v := undef) rfl (by kernel_rfl) (fun _ _ _ h => h) (Or.inr ⟨by rfl, rfl⟩) (by assumption) ?_; simp only [Act.put, List.setIfInBounds_toArray, List.set_cons_zero, List.set_cons_succ])
  refine AnyT.ready (rs := [4]) (by kernel_rfl) (by simp) (ReadyT.cons rfl (fun K hK => ?_) ReadyT.nil)
  go_simp
  refine (F.kinds_ (F.same P0.out (Keeps.refl _ _).drew)).mono ?_
  rintro e w2 ⟨u1, rfl, t1, t1g, k1⟩
  have T1 := Lib.hid t1
  have K1 := Lib.hid (((Keeps.refl (fun _ => False) w).drew).trans k1 fun _ _ => False.elim)
  clear t1 t1g k1
  go_wp2_with fail
  have hHeld := S0.out w2 K1.out
  refine hK.out _ _ (fun _ => hHeld) (fun _ => ?_)
  clear hK K
  try simp only [Act.put, List.setIfInBounds_toArray, List.set_cons_zero, List.set_cons_succ]
  refine AnyT.ready (rs := [9]) (by kernel_rfl) (by simp) (ReadyT.cons rfl (fun K hK => ?_) ReadyT.nil)
  go_simp
  refine (ni_self T1.out (ownsRow_keeps RK0.out K1.out fun _ _ => id) fk).mono ?_
  rintro e w3 ⟨rfl, k1⟩
  have K3 := Lib.hid (K1.out.trans k1 fun _ _ => False.elim)
  clear k1
  go_wp2_with fail
  have hHeld := S0.out w3 K3.out
  refine hK.out _ _ (fun _ => hHeld) (fun _ => ?_)
  clear hK K
  try simp only [Act.put, List.setIfInBounds_toArray, List.set_cons_zero, List.set_cons_succ]
  first
    | (refine AnyT.take (i := 10) (v := ?_) rfl (by kernel_rfl) (fun _ _ _ h => h) (Or.inl ⟨by rfl, ?_⟩) (by assumption) ?_; rotate_left; (· (intro V hSV; (try dsimp only at hSV); (first | (go_simp; done) | (go_simp; with_reducible rfl)))); simp only [Act.put, List.setIfInBounds_toArray, List.set_cons_zero, List.set_cons_succ])
    | (refine AnyT.take (i := 10) (v := undef) rfl (by kernel_rfl) (fun _ _ _ h => h) (Or.inr ⟨by rfl, rfl⟩) (by assumption) ?_; simp only [Act.put, List.setIfInBounds_toArray, List.set_cons_zero, List.set_cons_succ])
  refine AnyT.ready (rs := [11]) (by kernel_rfl) (by simp) (ReadyT.cons rfl (fun K hK => ?_) ReadyT.nil)
  go_simp
  refine hK.out _ _ (fun h => absurd h (by simp)) (fun _ => ?_)
  clear hK K
  try simp only [Act.put, List.setIfInBounds_toArray, List.set_cons_zero, List.set_cons_succ]
  refine AnyT.done (by kernel_rfl) ?_ _
  have c0 := S0.out w3 K3.out
  go_wp2_with fail
  go_loopw [27] (fun iv wr => ∃ i : Nat, iv = .int .i64 i ∧ i ≤ n ∧ Keeps (fun _ => False) w wr) (fun iv _ => n - (intOf iv).toNat)
  case atStart => exact ⟨0, rfl, Nat.zero_le _, K3.out⟩
  case round =>
    obtain ⟨i, rfl, hi, hK⟩ := hrel
    have KR := Lib.hid hK
    clear hK
    by_cases hlt : i < n
    · have b1 : (i : Int) < (n : Int) := by omega
      have hth : A.there (i : Int) := ⟨by omega, by rw [hLn'.out]; omega⟩
      obtain ⟨W, hW⟩ : ∃ W, A.col (i : Int) = W := ⟨_, rfl⟩
      have hat := M8.col_at hth
      rw [hW, Int.toNat_natCast] at hat
      have few := (ok.out.ups W (List.mem_of_getElem? hat)).2
      have CL := F.list_ (F.same P0.out KR.out) (i : Int) hth
      rw [hW] at CL
      have CL := Lib.hid CL
      have CZ := Lib.hid (fun V (K : Keeps (fun _ => False) w V) => F.size_ (F.same P0.out K) (i : Int) hth)
      obtain ⟨m, hm⟩ : ∃ m, W.length = m := ⟨_, rfl⟩
      have hm' := Lib.hid hm
      have CA := Lib.hid (fun V (K : Keeps (fun _ => False) w V) => (R0.out.same K).colAt hat)
      have hW' := Lib.hid hW
      have few' : W.length ≤ 1000000 := by omega
      clear hth hat few hm hW
      go_wp2_with fail
      refine CL.out.mono ?_
      rintro e w4 ⟨u, rfl, hu, _, hK⟩
      have U := Lib.hid hu
      have K4 := Lib.hid (KR.out.trans hK fun _ _ => False.elim)
      clear hu hK
      go_wp2_with fail
      refine (CZ.out _ K4.out).mono ?_
      rintro e w5 ⟨rfl, hK⟩
      have U5 := Lib.hid (ownsRow_keeps U.out hK fun _ _ => id)
      have K5 := Lib.hid (K4.out.trans hK fun _ _ => False.elim)
      rw [hW'.out]
      obtain ⟨g, mm, cap, o, n5, cc, hA⟩ := CA.out w5 K5.out
      have hlen := hA.len
      rw [hm'.out] at hlen ⊢
      subst hlen
      have e1 := hA.outer
      have e2 := hA.inner
      have im : (i : Int) < (mm : Int) := by have := hA.lt; omega
      have RW := Lib.hid hA.row
      clear hA hK
      go_wp2_with (first
        | (go_at_call 11; refine (no_nil _).mono ?_; rintro e w' ⟨rfl, rfl⟩)
        | (go_at_call 44; refine (pr_self U5.out RW.out few').mono ?_; rintro e w6 ⟨rfl, hK⟩; have K6 := Lib.hid (K5.out.trans hK fun _ _ => False.elim); have e3 := (hK.cell (cell_lt e1) id).trans e1; have e4 := (hK.cell (cell_lt e2) id).trans e2; clear hK))
      go_roundw
      case rel => exact ⟨i + 1, by go_num, by omega, K6.out⟩
      case measure => simp [intOf]; omega
    · obtain rfl : i = n := by omega
      have b1 : ¬ (i : Int) < (i : Int) := by omega
      go_wp2_with fail
      go_ret
      exact ⟨rfl, KR.out⟩
end Go.Proofs.YthidipigpfcbbaaGreatDoor
