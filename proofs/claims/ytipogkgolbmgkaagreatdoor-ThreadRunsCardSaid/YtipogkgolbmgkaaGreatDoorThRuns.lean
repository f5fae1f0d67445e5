/-
  thread.Run by contract: as runN says.
-/
import Derived.Test.YtipogkgolbmgkaaGreatDoorThDoStep
import Derived.LoopTactic
namespace Go.Proofs.YtipogkgolbmgkaaGreatDoor
open Go.RowKit Go.Extern.Stop Go.Stop Go.Extern

theorem ThM.mono {w : World} {t b a pl pb : Nat} {S : Ths} {Z : Nat → Prop} (h : ThM w t b a pl pb S Z) : (∀ x, Z x → x < w.heap.size) ∧ Glob w ∧ ¬ Z etB ∧ S.Ok := by
  obtain ⟨ev, lv, X, hQ, hok, _⟩ := h
  exact ⟨hQ.old, hQ.glob, hQ.gz, hok⟩

theorem ThM.same {w w' : World} {t b a pl pb : Nat} {S : Ths} {Z : Nat → Prop} (h : ThM w t b a pl pb S Z) (k : Keeps (fun _ => False) w w') : ThM w' t b a pl pb S Z := by
  obtain ⟨ev, lv, X, hQ, hok, he, hf⟩ := h
  exact ⟨ev, lv, X, hQ.same k, hok, he.keeps k fun _ _ _ => id, hf⟩

theorem ThM.keeps {w w' : World} {t b a pl pb : Nat} {S : Ths} {Z T : Nat → Prop} (h : ThM w t b a pl pb S Z) (k : Keeps T w w') (hT : ∀ x, Z x → ¬ T x) (hg : ¬ T etB) : ThM w' t b a pl pb S Z := by
  obtain ⟨ev, lv, X, hQ, hok, he, hf⟩ := h
  exact ⟨ev, lv, X, hQ.keeps k hT hg, hok, he.keeps k fun ty x hx => hT _ (hf ty x hx), hf⟩

/-- The cells of a thread that looks read. -/
theorem ThM.look {w : World} {t b a pl pb : Nat} {S : Ths} {Z : Nat → Prop} (h : ThM w t b a pl pb S Z) :
    ∃ ev lv, w.cell? ⟨t, 1, none⟩ = some (bodyV pb) ∧ w.cell? ⟨t, 2, none⟩ = some (.int .i64 (S.round : Int)) ∧ w.cell? ⟨t, 3, none⟩ = some (.int .i64 (S.steps : Int)) ∧ w.cell? ⟨t, 4, none⟩ = some lv ∧ w.cell? ⟨t, 7, none⟩ = some (.bool S.done) ∧ w.cell? ⟨t, 8, none⟩ = some ev ∧ ErrV w ev S.err ∧ ERow w lv S.log ∧ ∀ ty x, ev = .iface ty (.pointer (some x)) → Z x.block := by
  obtain ⟨ev, lv, X, hQ, hok, he, hf⟩ := h
  exact ⟨ev, lv, hQ.th.blk.at_ 1, hQ.th.blk.at_ 2, hQ.th.blk.at_ 3, hQ.th.blk.at_ 4, hQ.th.blk.at_ 7, hQ.th.blk.at_ 8, he, hQ.th.row, hf⟩

theorem ErrV.forms {w : World} {v : Value} {e : EA} (h : ErrV w v e) : v = .nilIface ∨ ∃ ty x, v = .iface ty x := by
  cases e with
  | ok => exact .inl h
  | no k => exact .inr ⟨_, _, h⟩
  | at_ i k => obtain ⟨p, h, _⟩ := h; exact .inr ⟨_, _, h⟩

theorem runN_step (p : List Mic) (n : Nat) (S : Ths) (h : S.done = false) : runN p (n + 1) S = runN p n (step p S) := by simp [runN, h]

set_option maxRecDepth 100000 in
set_option maxHeartbeats 1000000 in
theorem run_any {w : World} {t b a pl pb : Nat} {S : Ths} {Z : Nat → Prop} {p : List Mic} (h : ThM w t b a pl pb S Z) (hp : Prog w pb p Z) (hs : SmallP p) (N : Nat) (hN : N ≤ 100000) :
    Calls Tryz.prog 9 #[.pointer (some ⟨t, 0, none⟩), .int .i64 (N : Int)] w fun e w' => Stepped w t b a pl pb (runN p N S) Z e w' := by
  obtain ⟨ev, lv, c1, _⟩ := h.look
  have hn := Lib.hid (tnone_there w c1)
  have h' := Lib.hid h
  have hp' := Lib.hid hp
  have hs' := Lib.hid hs
  clear h hp hs c1
  go_enter Tryz.func9, Tryz.ntmps9
  go_wp2_with (go_at_call 32; refine hn.out.mono ?_; rintro e w' ⟨rfl, rfl⟩)
  go_loopw [5] (fun nv wr => ∃ (k : Nat) (S' : Ths) (Z' : Nat → Prop), nv = .int .i64 (k : Int) ∧ k ≤ N ∧ ThM wr t b a pl pb S' Z' ∧ Mv Z Z' w wr ∧ runN p N S = runN p (N - k) S') (fun nv _ => N - (intOf nv).toNat)
  case atStart => exact ⟨0, S, Z, rfl, Nat.zero_le _, h'.out, Mv.refl Z w, rfl⟩
  case round =>
    obtain ⟨k, S', Z', rfl, hk, hT, hm, hr⟩ := hrel
    have T1 := Lib.hid hT
    have M1 := Lib.hid hm
    have R1 := Lib.hid hr
    obtain ⟨ev', lv', _, _, _, _, c7, c8, he, _, hf⟩ := hT.look
    have E1 := Lib.hid he
    have F1 := Lib.hid hf
    have hev := he.forms
    clear hT hm hr he hf
    by_cases hlt : k < N
    · have hlt' : (k : Int) < (N : Int) := by omega
      cases hd : S'.done with
      | true =>
        rw [hd] at c7
        have hd' := Lib.hid hd
        clear hd
        have fin : Stepped w t b a pl pb (runN p N S) Z (.returned ev') wr := by
          rw [R1.out, runN_done p _ _ hd'.out]
          exact ⟨ev', rfl, E1.out, Z', T1.out, M1.out, F1.out⟩
        have fin' := Lib.hid fin
        clear fin
        rcases hev with rfl | ⟨ty, vx, rfl⟩
        all_goals
          go_wp2_with fail
          go_ret
          exact fin'.out
      | false =>
        rw [hd] at c7
        have hst := Lib.hid (step_any T1.out (hp'.out.mv M1.out) hs'.out hd)
        have hd' := Lib.hid hd
        clear hd c8 hev
        go_wp2_with fail
        refine hst.out.mono ?_
        rintro e W2 ⟨v, rfl, hv, Z2, hT, hm, hf⟩
        have T2 := Lib.hid hT
        have M2 := Lib.hid (M1.out.trans hm)
        have V2 := Lib.hid hv
        have F2 := Lib.hid hf
        have hR2 : runN p N S = runN p (N - (k + 1)) (step p S') := by
          rw [R1.out, show N - k = (N - (k + 1)) + 1 by omega, runN_step p _ _ hd'.out]
        have R2 := Lib.hid hR2
        clear hT hm hv hf hR2
        by_cases he : (step p S').err = .ok
        · have hv := V2.out
          rw [he] at hv
          obtain rfl : v = .nilIface := hv
          have he' := Lib.hid he
          clear he
          go_wp2_with fail
          go_roundw
          case rel => exact ⟨k + 1, step p S', Z2, by go_num, by omega, T2.out, M2.out, R2.out⟩
          case measure => simp [intOf]; omega
        · obtain ⟨ty, vx, rfl⟩ := V2.out.iface he
          have hdn : (step p S').done = true := by
            cases hq : (step p S').done with
            | true => rfl
            | false => exact absurd (T2.out.mono.2.2.2.err hq) he
          have fin : Stepped w t b a pl pb (runN p N S) Z (.returned (.iface ty vx)) W2 := by
            rw [R2.out, runN_done p _ _ hdn]
            exact ⟨_, rfl, V2.out, Z2, T2.out, M2.out, F2.out⟩
          have fin' := Lib.hid fin
          clear fin hdn he
          go_wp2_with fail
          go_ret
          exact fin'.out
    · obtain rfl : k = N := by omega
      have fin : Stepped w t b a pl pb (runN p k S) Z (.returned ev') wr := by
        rw [R1.out, Nat.sub_self]
        exact ⟨ev', rfl, E1.out, Z', T1.out, M1.out, F1.out⟩
      have fin' := Lib.hid fin
      clear fin
      rcases hev with rfl | ⟨ty, vx, rfl⟩
      all_goals
        go_wp2_with fail
        go_ret
        exact fin'.out
end Go.Proofs.YtipogkgolbmgkaaGreatDoor
