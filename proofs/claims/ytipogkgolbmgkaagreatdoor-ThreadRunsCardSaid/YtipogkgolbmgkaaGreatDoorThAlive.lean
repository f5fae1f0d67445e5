/-
  concordlaw05.alive returns true; nothing that was there has changed.
-/
import Derived.Test.YtipogkgolbmgkaaGreatDoorThOn
import Derived.Test.YtipogkgolbmgkaaGreatDoorWdOps
import Derived.Deep.Grids
namespace Go.Proofs.YtipogkgolbmgkaaGreatDoor
open Go.RowKit Go.Extern.Stop Go.Stop Go.Extern

/-- The chapter's example. -/
def prog4 : List Mic := [⟨4, 0, 1, 0, false, 0⟩, ⟨1, 0, 0, 0, false, 1⟩, ⟨2, 0, 0, 1, true, 1⟩, ⟨1, 0, 0, 0, false, 1⟩]
def alS (k : Nat) : Ths := runN prog4 k (Ths.start (Mm.start 20))

theorem prog4_small : SmallP prog4 := ⟨by intro m hm; simp [prog4] at hm; rcases hm with rfl | rfl | rfl | rfl <;> simp, by simp [prog4]⟩
theorem alS_mid (k : Nat) (hk : k < 4) : (alS k).done = false := by
  rcases (show k = 0 ∨ k = 1 ∨ k = 2 ∨ k = 3 by omega) with rfl | rfl | rfl | rfl <;> rfl
theorem alS_err (k : Nat) (hk : k < 4) : (alS (k + 1)).err = .ok := by
  rcases (show k = 0 ∨ k = 1 ∨ k = 2 ∨ k = 3 by omega) with rfl | rfl | rfl | rfl <;> rfl
theorem alS_end : (alS 4).done = true ∧ (alS 4).steps = 4 ∧ (alS 4).log.length = 4 ∧ (alS 4).m.mem 2 = 1 ∧ (alS 4).m.st.bs = [⟨1, 1, 0, true⟩] ∧ (alS 4).m.len = 20 ∧ (alS 4).m.cnt ≤ 100 := ⟨rfl, rfl, rfl, rfl, rfl, rfl, by decide⟩
theorem alS_next (k : Nat) (hk : k < 4) : step prog4 (alS k) = alS (k + 1) := by
  show step prog4 (alS k) = runN prog4 (k + 1) (Ths.start (Mm.start 20))
  rw [runN_add]
  show _ = runN prog4 (0 + 1) (alS k)
  rw [runN_step _ _ _ (alS_mid k hk)]
  rfl

theorem mics4 {w : World} {g : Nat} {t : TypeId} (h : Whole w g t #[.int .i64 4, .int .i64 0, .int .i64 1, .int .u64 0, .bool false, .int .i64 0, .int .i64 1, .int .i64 0, .int .i64 0, .int .u64 0, .bool false, .int .i64 1, .int .i64 2, .int .i64 0, .int .i64 0, .int .u64 1, .bool true, .int .i64 1, .int .i64 1, .int .i64 0, .int .i64 0, .int .u64 0, .bool false, .int .i64 1]) : Mics w (some ⟨g, 0, none⟩) prog4 := by
  intro i hi
  have hi : i < 4 := hi
  rcases (show i = 0 ∨ i = 1 ∨ i = 2 ∨ i = 3 by omega) with rfl | rfl | rfl | rfl
  · exact ⟨g, 0, rfl, h.at_ 0, h.at_ 1, h.at_ 2, h.at_ 3, h.at_ 4, h.at_ 5⟩
  · exact ⟨g, 0, rfl, h.at_ 6, h.at_ 7, h.at_ 8, h.at_ 9, h.at_ 10, h.at_ 11⟩
  · exact ⟨g, 0, rfl, h.at_ 12, h.at_ 13, h.at_ 14, h.at_ 15, h.at_ 16, h.at_ 17⟩
  · exact ⟨g, 0, rfl, h.at_ 18, h.at_ 19, h.at_ 20, h.at_ 21, h.at_ 22, h.at_ 23⟩

/-- The arena of a thread's blocks, a word of a live block, and what stays behind an access of it. -/
theorem ThM.word {w : World} {t b a pl pb : Nat} {S : Ths} {Z : Nat → Prop} (h : ThM w t b a pl pb S Z) {B : Blk} (hB : B ∈ S.m.st.bs) (hl : B.live = true) {k : Nat} (hk : k < B.size) :
    ∃ bw ws cnt lv, Arena w a bw ws cnt ∧ ws.getD (B.place + 1 + k) 0 = (S.m.mem (B.place + 1 + k) : Int) ∧ B.place + 1 + k < ws.length ∧ cnt ≤ 70 * S.m.cnt ∧ ERow w lv S.log ∧ w.cell? ⟨t, 4, none⟩ = some lv ∧ (∀ x, Its a bw x → Z x) ∧
      ∀ w', Keeps (Its a bw) w w' → w'.cell? ⟨t, 1, none⟩ = some (bodyV pb) ∧ w'.cell? ⟨t, 3, none⟩ = some (.int .i64 (S.steps : Int)) ∧ w'.cell? ⟨t, 4, none⟩ = some lv ∧ ERow w' lv S.log := by
  obtain ⟨ev, lv, X, hQ, hok, he, hf⟩ := h
  obtain ⟨h0, ws, cnt, hb, hlen, hc, hs⟩ := hQ.mm
  obtain ⟨bw, mb, fb, rows, hP⟩ := hb
  have hroom := h0.st.room
  have hfit := h0.st.fits B hB
  refine ⟨bw, ws, cnt, lv, hP.arena, hs B hB hl k hk, by omega, hc, hQ.th.row, hQ.th.blk.at_ 4, fun x hx => hQ.x x (hP.its x hx), fun w' k' => ?_⟩
  have ht := hQ.th.keeps k' fun x hx hI => (hQ.own x hx).2 (hP.its x hI)
  exact ⟨ht.blk.at_ 1, ht.blk.at_ 3, ht.blk.at_ 4, ht.row⟩

set_option maxRecDepth 100000 in
set_option maxHeartbeats 2000000 in
theorem alive5 (w : World) (hg : Glob w) :
    Calls Tryz.prog 6 #[] w fun e w' => e = .returned (.bool true) ∧ Keeps (fun _ => False) w w' := by
  have hg' := Lib.hid hg
  clear hg
  go_enter Tryz.func6, Tryz.ntmps6
  go_wp2_with fail
  refine (on_at 20 1 (by decide) (by decide) (by decide) w).mono ?_
  rintro e W1 ⟨a, b, X, rfl, hB, hX, hK⟩
  have B1 := Lib.hid (mm_start (n := 20) (by decide) (by decide) hB)
  have X1 := Lib.hid hX
  have K1 := Lib.hid hK
  clear hB hX hK
  obtain ⟨W2, hW2⟩ : ∃ W, W = W1.alloc (.cells #[.int .i64 4, .int .i64 0, .int .i64 1, .int .u64 0, .bool false, .int .i64 0, .int .i64 1, .int .i64 0, .int .i64 0, .int .u64 0, .bool false, .int .i64 1, .int .i64 2, .int .i64 0, .int .i64 0, .int .u64 1, .bool true, .int .i64 1, .int .i64 1, .int .i64 0, .int .i64 0, .int .u64 0, .bool false, .int .i64 1] 54) := ⟨_, rfl⟩
  have k2 : Keeps (fun _ => False) W1 W2 := by rw [hW2]; exact (Keeps.refl _ W1).alloc _
  have m2 : Whole W2 W1.heap.size 54 #[.int .i64 4, .int .i64 0, .int .i64 1, .int .u64 0, .bool false, .int .i64 0, .int .i64 1, .int .i64 0, .int .i64 0, .int .u64 0, .bool false, .int .i64 1, .int .i64 2, .int .i64 0, .int .i64 0, .int .u64 1, .bool true, .int .i64 1, .int .i64 1, .int .i64 0, .int .i64 0, .int .u64 0, .bool false, .int .i64 1] := by rw [hW2]; exact Whole.made _ _ _
  have M2 := Lib.hid m2
  have K2 := Lib.hid k2
  have hW2' := Lib.hid hW2
  have l2 := Lib.hid m2.lt
  clear k2 m2 hW2
  go_wp2_with fail
  rw [← hW2'.out]
  refine (body_new _ _ _ _).mono ?_
  rintro e W3 ⟨rfl, hW3⟩
  have k3 : Keeps (fun _ => False) W2 W3 := by rw [hW3]; exact (Keeps.refl _ W2).alloc _
  have m3 : Whole W3 W2.heap.size 22 #[.slice (some ⟨W1.heap.size, 0, none⟩) 4 4] := by rw [hW3]; exact Whole.made _ _ _
  have M3 := Lib.hid m3
  have K3 := Lib.hid ((K1.out.trans_ K2.out).trans_ k3)
  have hX3 : Hid (∀ x, X x → w.heap.size ≤ x ∧ x < W1.heap.size) := Lib.hid fun x hx => ⟨X1.out x hx, B1.out.old x hx⟩
  have gl := Lib.hid (show etB < w.heap.size from hg'.out.lt)
  have cn := Lib.hid (tnew_any (pb := W2.heap.size) ((B1.out.same K2.out).same k3) rfl (Mm.start_get 20) (hg'.out.keeps K3.out id) (fun hx => by have := (X1.out _ hx); have := gl.out; omega))
  have MM := Lib.hid (mics4 (M2.out.keeps k3 id))
  have l3 := Lib.hid m3.lt
  clear k3 m3 hW3
  go_wp2_with fail
  refine cn.out.mono ?_
  rintro e W4 ⟨t, pl, Z, rfl, hT, hZ, hK⟩
  have T4 := Lib.hid hT
  have K4 := Lib.hid hK
  have Z4 := Lib.hid (show ∀ x, Z x → w.heap.size ≤ x ∧ (x < W1.heap.size ∨ W3.heap.size ≤ x) from fun x hx => (hZ x hx).elim (fun h => ⟨(hX3.out x h).1, .inl (hX3.out x h).2⟩) fun h => ⟨Nat.le_trans K3.out.size h, .inr h⟩)
  have l12 := Lib.hid (show W1.heap.size < W2.heap.size from l2.out)
  have P4 := Lib.hid (show Prog W4 W2.heap.size prog4 Z from ⟨⟨_, 4, (M3.out.keeps hK id).at_ 0, MM.out.keeps hK fun _ _ => id, fun x hx _ h => by
    injection hx with hx
    subst hx
    have h1 := (Z4.out _ h).2
    have := l12.out
    have := l3.out
    simp only at h1
    omega⟩, fun h => by
    have h1 := (Z4.out _ h).2
    have := l12.out
    have := l3.out
    omega⟩)
  clear hT hZ hK
  go_wp2_with fail
  go_loopw [4] (fun nv wr => ∃ (k : Nat) (Z' : Nat → Prop), nv = .int .i64 (k : Int) ∧ k ≤ 4 ∧ ThM wr t b a pl W2.heap.size (alS k) Z' ∧ Mv Z Z' W4 wr) (fun nv _ => 9 - (intOf nv).toNat)
  case atStart => exact ⟨0, Z, rfl, by omega, T4.out, Mv.refl Z W4⟩
  case round =>
    obtain ⟨k, Z', rfl, hk, hT, hm⟩ := hrel
    have T5 := Lib.hid hT
    have M5 := Lib.hid hm
    obtain ⟨ev', lv', c1, _, _, _, c7, _⟩ := hT.look
    clear hT hm
    by_cases hlt : k < 4
    · rw [alS_mid k hlt] at c7
      have cd := Lib.hid (done_any c1 c7)
      have hst := Lib.hid (step_any T5.out (P4.out.mv M5.out) prog4_small (alS_mid k hlt))
      rw [alS_next k hlt] at hst
      have k9 : (k : Int) < 9 := by omega
      have he := Lib.hid (alS_err k hlt)
      clear c1 c7
      go_wp2_with (go_at_call 11; refine cd.out.mono ?_; rintro e w' ⟨rfl, rfl⟩)
      refine hst.out.mono ?_
      rintro e W6 ⟨v, rfl, hv, Z2, hT, hm, hf⟩
      rw [he.out] at hv
      obtain rfl : v = .nilIface := hv
      have T6 := Lib.hid hT
      have M6 := Lib.hid (M5.out.trans hm)
      clear hT hm hf
      go_wp2_with (go_at_call 10; refine (no_nil _).mono ?_; rintro e w' ⟨rfl, rfl⟩)
      go_roundw
      case rel => exact ⟨k + 1, Z2, by go_num, by omega, T6.out, M6.out⟩
      case measure => simp [intOf]; omega
    · obtain rfl : k = 4 := by omega
      obtain ⟨e1, e2, e3, e4, e5, e6, e7⟩ := alS_end
      rw [e1] at c7
      have cd := Lib.hid (done_any c1 c7)
      obtain ⟨bw, ws, cnt, lv, hA, hw, hlen, hcnt, _, _, hI, hst⟩ := T5.out.word (B := ⟨1, 1, 0, true⟩) (by rw [e5]; exact List.mem_singleton.2 rfl) rfl (k := 0) (by show 0 < 1; omega)
      have hw : ws.getD 2 0 = 1 := hw.trans (by show ((alS 4).m.mem 2 : Int) = 1; rw [e4]; rfl)
      have ca := load_in a bw ws cnt 2 hlen (by omega) wr hA
      rw [hw] at ca
      have ca' := Lib.hid ca
      have hst' := Lib.hid hst
      have hI' := Lib.hid hI
      clear c1 c7 hA hw hlen hcnt hI hst ca e1 e4 e5 e6 e7
      go_wp2_with (go_at_call 11; refine cd.out.mono ?_; rintro e w' ⟨rfl, rfl⟩)
      refine ca'.out.mono ?_
      rintro e W7 ⟨rfl, hA, hK⟩
      obtain ⟨d1, d3, d4, dr⟩ := hst'.out W7 hK
      rw [e2] at d3
      have cs := Lib.hid (steps_any d1 d3)
      have cg := Lib.hid (log_any d1 d4 dr (by rw [e3]; omega))
      have e3' := Lib.hid e3
      have K7 := Lib.hid (show Keeps (fun _ => False) w W7 from ((K3.out.trans_ K4.out).trans M5.out.keeps fun x hx h => absurd hx (Nat.not_lt.2 (Z4.out x h).1)).trans hK fun x hx h => (M5.out.new x (hI'.out x h)).elim (fun h => absurd hx (Nat.not_lt.2 (Z4.out x h).1)) fun h => absurd hx (Nat.not_lt.2 (Nat.le_trans (K3.out.trans_ K4.out).size h)))
      clear hA hK d1 d3 d4 dr e2 e3
      go_wp2_with (first
        | (go_at_call 10; refine (no_nil _).mono ?_; rintro e w' ⟨rfl, rfl⟩)
        | (go_at_call 15; refine cs.out.mono ?_; rintro e w' ⟨rfl, rfl⟩)
        | (go_at_call 14; refine cg.out.mono ?_; rintro e W8 ⟨g, he, hW, hgs, hK⟩; rw [e3'.out] at he; subst he; have K8 := Lib.hid (K7.out.trans_ hK); clear hW hgs hK))
      go_ret
      exact ⟨rfl, K8.out⟩
end Go.Proofs.YtipogkgolbmgkaaGreatDoor
