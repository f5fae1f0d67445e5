/-
  thread: a thread in memory, as a plain state; runBody by contract.
-/
import Derived.Test.YtipogkgolbmgkaaGreatDoorThBody
import Derived.Test.YtipogkgolbmgkaaGreatDoorThStep
import Derived.StillTailTactics
namespace Go.Proofs.YtipogkgolbmgkaaGreatDoor
open Go.RowKit Go.Extern.Stop Go.Stop Go.Extern

/-- The function value of a body. -/
def bodyV (pb : Nat) : Value := .func (.func 25) #[] #[.pointer (some ⟨pb, 0, none⟩)]

/-- The program of a body, as its function has it; apart from Z. -/
structure Prog (w : World) (pb : Nat) (p : List Mic) (Z : Nat → Prop) : Prop where
  ex : ∃ ao cap, w.cell? ⟨pb, 0, none⟩ = some (.slice ao p.length cap) ∧ Mics w ao p ∧ ∀ x, ao = some x → 0 < p.length → ¬ Z x.block
  apart : ¬ Z pb

theorem Prog.keeps {w w' : World} {pb : Nat} {p : List Mic} {Z Z' S : Nat → Prop} (h : Prog w pb p Z) (k : Keeps S w w') (hS : ∀ x, x < w.heap.size → ¬ Z x → ¬ S x) (hZ : ∀ x, x < w.heap.size → ¬ Z x → ¬ Z' x) : Prog w' pb p Z' := by
  obtain ⟨⟨ao, cap, h1, h2, h3⟩, h4⟩ := h
  have hlt : ∀ x, ao = some x → 0 < p.length → x.block < w.heap.size := by
    intro x hx hp
    obtain ⟨b, off, hb, h0, _⟩ := h2 0 hp
    rw [hx] at hb
    injection hb with hb
    subst hb
    exact cell_lt h0
  refine ⟨⟨ao, cap, (k.cell (p := ⟨pb, 0, none⟩) (cell_lt h1) (hS pb (cell_lt h1) h4)).trans h1, ?_, fun x hx hp => hZ _ (hlt x hx hp) (h3 x hx hp)⟩, hZ pb (cell_lt h1) h4⟩
  intro i hi
  exact h2.keeps (S := S) k (fun x hx => hS _ (hlt x hx (by omega)) (h3 x hx (by omega))) i hi
theorem Prog.mv {w w' : World} {pb : Nat} {p : List Mic} {Z Z' : Nat → Prop} (h : Prog w pb p Z) (m : Mv Z Z' w w') : Prog w' pb p Z' :=
  h.keeps m.keeps (fun _ _ => id) fun _ hx hn => m.apart hx hn

/-- A thread's parts while no step is under way, but for its error. -/
structure ThQ (w : World) (t b a pl : Nat) (bv : Value) (rd st : Nat) (log : List Ent) (dn : Bool) (ev : Value) (m : Mm) (lv : Value) (X Z : Nat → Prop) : Prop where
  th : ThRaw w t b pl bv (rd : Int) (st : Int) log lv false dn ev
  mm : MmM w b a m X
  x : ∀ x, X x → Z x
  own : ∀ x, Own3 t pl lv x → Z x ∧ ¬ X x
  old : ∀ x, Z x → x < w.heap.size
  glob : Glob w
  gz : ¬ Z etB

/-- A new Ctx for a step. -/
theorem ThQ.begin {w : World} {t b a pl : Nat} {bv : Value} {rd st : Nat} {log : List Ent} {ev : Value} {m : Mm} {lv : Value} {X Z : Nat → Prop} (h : ThQ w t b a pl bv rd st log false ev m lv X Z) {w1 : World} (k : Keeps (fun _ => False) w w1) {c : Nat} (hc : w.heap.size ≤ c) (hC : Whole w1 c 111 #[.pointer (some ⟨t, 0, none⟩), .int .i64 0, .bool false]) (hok : Rn.Ok ⟨log, 0, false, m⟩) :
    RunP (w1.setCell ⟨t, 6, none⟩ (.bool true)) c t b a pl bv (rd : Int) (st : Int) ev ⟨log, 0, false, m⟩ lv X (fun x => Z x ∨ x = c) ∧ Keeps Z w (w1.setCell ⟨t, 6, none⟩ (.bool true)) := by
  have hct : ¬ t = c := fun e => by have := h.old t (h.own t (.inl rfl)).1; omega
  have ks : Keeps (fun x => x = t) w1 (w1.setCell ⟨t, 6, none⟩ (.bool true)) := (Keeps.refl (fun x => x = t) w1).setCell (p := ⟨t, 6, none⟩) (fun _ => rfl) _
  have th1 := h.th.same k
  have hnX : ¬ X t := (h.own t (.inl rfl)).2
  refine ⟨{
    ctx := hC.keeps ks fun e => hct e.symm
    th := ⟨th1.blk.set_ 6 (.bool true), th1.row.keeps ks fun g hg e => (th1.row_ne hg).1 e, th1.map.keeps ks fun e => th1.ne e.symm⟩
    mm := (h.mm.same k).keeps ks fun x hx e => hnX (e ▸ hx)
    ok := hok
    x := fun x hx => .inl (h.x x hx)
    own := fun x hx => ⟨.inl (h.own x hx).1, (h.own x hx).2⟩
    cz := ⟨.inr rfl, fun hx => by have := h.old c (h.x c hx); omega⟩
    old := fun x hx => ?_
    glob := (h.glob.keeps k id).keeps ks fun e => h.gz (by subst e; exact (h.own _ (.inl rfl)).1)
    gz := fun hx => hx.elim h.gz fun e => by have : etB < w.heap.size := h.glob.lt; omega }, (k.mono fun _ _ => False.elim).trans ks fun x _ e => by rw [e]; exact (h.own t (.inl rfl)).1⟩
  rw [World.size_setCell]
  rcases hx with hx | rfl
  · exact Nat.lt_of_lt_of_le (h.old x hx) k.size
  · exact hC.lt

/-- What runBody leaves. -/
def BodyRan (w : World) (t b a pl : Nat) (bv : Value) (rd st : Nat) (ev : Value) (Z : Nat → Prop) (r : EA × Rn) (e : Ending) (w' : World) : Prop :=
  ∃ v, e = .returned v ∧ ErrV w' v r.1 ∧ FreshE w.heap.size v ∧ r.2.Ok ∧ ∃ lv X Z', ThQ w' t b a pl bv rd st r.2.log false ev r.2.m lv X Z' ∧ Mv Z Z' w w'

/-- Behind the body and the deferred function. -/
theorem RunP.finish {w w1 w2 : World} {c t b a pl pe : Nat} {bv : Value} {rd st : Nat} {ev v : Value} {s : Rn} {Z Z0 Z1 : Nat → Prop} {e : EA}
    (h : RunM w1 c t b a pl bv (rd : Int) (st : Int) ev s Z1) (hm : Mv Z0 Z1 w2 w1) (hk : Keeps Z w w2) (hZ : ∀ x, Z0 x → Z x ∨ w.heap.size ≤ x) (hpe : Whole w1 pe 36 #[.nilIface]) (npe : ¬ Z1 pe) (wpe : w.heap.size ≤ pe) (hv : ErrV w1 v e) :
    ErrV (shutW (w1.setCell ⟨pe, 0, none⟩ v) c t) v e ∧ s.Ok ∧ ∃ lv X Z', ThQ (shutW (w1.setCell ⟨pe, 0, none⟩ v) c t) t b a pl bv rd st s.log false ev s.m lv X Z' ∧ Mv Z Z' w (shutW (w1.setCell ⟨pe, 0, none⟩ v) c t) := by
  obtain ⟨lv, X, h⟩ := h
  have k1 : Keeps (fun x => x = pe) w1 (w1.setCell ⟨pe, 0, none⟩ v) := (Keeps.refl (fun x => x = pe) w1).setCell (p := ⟨pe, 0, none⟩) (fun _ => rfl) _
  have k2 : Keeps (fun x => x = c) (w1.setCell ⟨pe, 0, none⟩ v) (((w1.setCell ⟨pe, 0, none⟩ v).setCell ⟨c, 1, none⟩ (.int .i64 6000)).setCell ⟨c, 2, none⟩ (.bool true)) := ((Keeps.refl (fun x => x = c) _).setCell (p := ⟨c, 1, none⟩) (fun _ => rfl) _).setCell (p := ⟨c, 2, none⟩) (fun _ => rfl) _
  have k3 : Keeps (fun x => x = t) (((w1.setCell ⟨pe, 0, none⟩ v).setCell ⟨c, 1, none⟩ (.int .i64 6000)).setCell ⟨c, 2, none⟩ (.bool true)) (shutW (w1.setCell ⟨pe, 0, none⟩ v) c t) := (Keeps.refl (fun x => x = t) _).setCell (p := ⟨t, 6, none⟩) (fun _ => rfl) _
  have nct : ∀ x, Own3 t pl lv x → ¬ x = c := by
    rintro x (rfl | rfl | hx) e
    · exact h.ctx.ne_ h.th.blk (by decide) e.symm
    · exact h.ctx.ne_map h.th.map e.symm
    · subst e; exact Go.Proofs.YtipogkgolbmgkaaGreatDoor.row_ne h.th.row h.ctx (by decide) hx
  have zp : ∀ x, Z1 x → ¬ x = pe := fun x hx e => npe (e ▸ hx)
  have th1 := (h.th.keeps k1 fun x hx => zp x (h.own x hx).1).keeps k2 nct
  have mm1 := ((h.mm.keeps k1 fun x hx => zp x (h.x x hx)).keeps k2 fun x hx e => h.cz.2 (e ▸ hx)).keeps k3 fun x hx e => (h.own t (.inl rfl)).2 (e ▸ hx)
  have kall : Keeps (fun x => x = pe ∨ x = c ∨ x = t) w1 (shutW (w1.setCell ⟨pe, 0, none⟩ v) c t) := ((k1.mono fun _ _ => .inl).trans k2 fun _ _ h => .inr (.inl h)).trans k3 fun _ _ h => .inr (.inr h)
  refine ⟨?_, h.ok, lv, X, Z1, {
    th := ⟨th1.blk.set_ 6 (.bool false), th1.row.keeps k3 fun g hg e => (th1.row_ne hg).1 e, th1.map.keeps k3 fun e => th1.ne e.symm⟩
    mm := mm1
    x := h.x
    own := h.own
    old := fun x hx => Nat.lt_of_lt_of_le (h.old x hx) kall.size
    glob := h.glob.keeps kall ?_
    gz := h.gz }, ⟨?_, fun x hx => ?_⟩⟩
  · cases e with
    | ok => exact hv
    | no q => exact hv
    | at_ i q =>
      obtain ⟨p, rfl, hp⟩ := hv
      refine ⟨p, rfl, hp.keeps kall ?_⟩
      rintro (rfl | rfl | rfl)
      · exact hp.ne_ hpe (by decide) rfl
      · exact hp.ne_ h.ctx (by decide) rfl
      · exact hp.ne_ h.th.blk (by decide) rfl
  · rintro (e | e | e)
    · subst e
      have hg := h.glob
      unfold Glob at hg
      rw [hpe.at_ 0] at hg
      cases hg
    · subst e
      exact h.gz h.cz.1
    · subst e
      exact h.gz (h.own _ (.inl rfl)).1
  · refine (hk.trans hm.keeps fun x hx hz => (hZ x hz).elim id fun h' => absurd hx (Nat.not_lt.2 h')).trans kall fun x hx hz => ?_
    have back : ∀ y, y < w.heap.size → Z1 y → Z y := fun y hy hz => (hm.new y hz).elim (fun h0 => (hZ y h0).elim id fun h' => absurd hy (Nat.not_lt.2 h')) fun h' => absurd hy (Nat.not_lt.2 (Nat.le_trans hk.size h'))
    rcases hz with rfl | rfl | rfl
    · exact absurd hx (Nat.not_lt.2 wpe)
    · exact back _ hx h.cz.1
    · exact back _ hx (h.own _ (.inl rfl)).1
  · exact (hm.new x hx).elim (hZ x) fun h' => .inr (Nat.le_trans hk.size h')

set_option maxRecDepth 100000 in
set_option maxHeartbeats 1000000 in
theorem runBody_any {w : World} {t b a pl pb : Nat} {rd st : Nat} {log : List Ent} {ev : Value} {m : Mm} {Z : Nat → Prop} {p : List Mic} (h : ∃ lv X, ThQ w t b a pl (bodyV pb) rd st log false ev m lv X Z) (hp : Prog w pb p Z) (hs : SmallP p) (hok : Rn.Ok ⟨log, 0, false, m⟩) (few : log.length ≤ 4000) (hcnt : m.cnt < 9000) :
    Calls Tryz.prog 38 #[.pointer (some ⟨t, 0, none⟩)] w fun e w' => BodyRan w t b a pl (bodyV pb) rd st ev Z (body rd p (fun _ => 0) 0 ⟨log, 0, false, m⟩) e w' := by
  obtain ⟨lv, X, h⟩ := h
  have hmf := make_func
  have lt : t < w.heap.size := h.old t (h.own t (.inl rfl)).1
  obtain ⟨W1, hW1⟩ : ∃ W, W = (((w.alloc (.cells #[.pointer (some ⟨t, 0, none⟩)] 31)).alloc (.cells #[.nilIface] 36)).alloc (.cells #[.pointer (some ⟨t, 0, none⟩), .int .i64 0, .bool false] 111)).alloc (.cells #[.pointer (some ⟨w.heap.size + 1 + 1, 0, none⟩)] 64) := ⟨_, rfl⟩
  have k1 : Keeps (fun _ => False) w W1 := by rw [hW1]; exact ((((Keeps.refl _ w).alloc _).alloc _).alloc _).alloc _
  have n0 : Whole W1 w.heap.size 31 #[.pointer (some ⟨t, 0, none⟩)] := by rw [hW1]; exact (((made_at _ (by simp) _ _).alloc _).alloc _).alloc _
  have n1 : Whole W1 (w.heap.size + 1) 36 #[.nilIface] := by rw [hW1]; exact ((made_at _ (by simp) _ _).alloc _).alloc _
  have m2 : Whole W1 (w.heap.size + 1 + 1) 111 #[.pointer (some ⟨t, 0, none⟩), .int .i64 0, .bool false] := by rw [hW1]; exact (made_at _ (by simp) _ _).alloc _
  have n3 : Whole W1 (w.heap.size + 1 + 1 + 1) 64 #[.pointer (some ⟨w.heap.size + 1 + 1, 0, none⟩)] := by rw [hW1]; exact made_at _ (by simp) _ _
  obtain ⟨hP, hK⟩ := h.begin k1 (c := w.heap.size + 1 + 1) (by omega) m2 hok
  have t6 : W1.cell? ⟨t, 6, none⟩ = some (.bool false) := (h.th.same k1).blk.at_ 6
  have f6 : W1.frozen? ⟨t, 6, none⟩ = false := (h.th.same k1).blk.free 6
  obtain ⟨W2, hW2⟩ : ∃ W, W = W1.setCell ⟨t, 6, none⟩ (.bool true) := ⟨_, rfl⟩
  rw [← hW2] at hP hK
  have ks : Keeps (fun x => x = t) W1 W2 := by rw [hW2]; exact (Keeps.refl (fun x => x = t) W1).setCell (p := ⟨t, 6, none⟩) (fun _ => rfl) _
  have m0 := n0.keeps ks (by omega)
  have m1 := n1.keeps ks (by omega)
  have m3 := n3.keeps ks (by omega)
  obtain ⟨W3, hW3⟩ : ∃ W, W = W2.drew := ⟨_, rfl⟩
  have kd : Keeps (fun _ => False) W2 W3 := by rw [hW3]; exact (Keeps.refl _ W2).drew
  have P3 := hP.same kd
  have r0 : W3.cell? ⟨w.heap.size, 0, none⟩ = some (.pointer (some ⟨t, 0, none⟩)) := (m0.keeps kd id).at_ 0
  have M1 := Lib.hid (m1.keeps kd id)
  have M0 := Lib.hid (m0.keeps kd id)
  have M3 := Lib.hid (m3.keeps kd id)
  have r3 : W3.cell? ⟨w.heap.size + 1 + 1 + 1, 0, none⟩ = some (.pointer (some ⟨w.heap.size + 1 + 1, 0, none⟩)) := M3.out.at_ 0
  have r1 : W3.cell? ⟨t, 1, none⟩ = some (bodyV pb) := P3.th.blk.at_ 1
  have r2 : W3.cell? ⟨t, 2, none⟩ = some (.int .i64 (rd : Int)) := P3.th.blk.at_ 2
  have P3' := Lib.hid P3
  have hp3 := hp.keeps (S := Z) (Z' := fun x => Z x ∨ x = w.heap.size + 1 + 1) (hK.trans kd fun _ _ => False.elim) (fun _ _ => id) fun x hx hn => fun h => h.elim hn fun e => by omega
  obtain ⟨⟨ao, cap, hb1, hb2, hb3⟩, _⟩ := hp3
  have cb := Lib.hid (body_any ⟨_, _, P3⟩ few hcnt ao cap p hs.1 hs.2 hb1 hb2 hb3)
  have KZ := Lib.hid (hK.trans kd fun _ _ => False.elim)
  have hW1' := Lib.hid hW1
  have hW2' := Lib.hid hW2
  have hW3' := Lib.hid hW3
  have l3 : Hid (w.heap.size + 1 + 1 + 1 < W3.heap.size) := Lib.hid M3.out.lt
  have hold := Lib.hid h.old
  rw [hW1] at t6 f6
  clear h hp hs hok few hcnt k1 m0 m1 m2 m3 n0 n1 n3 ks hP hK hW1 hW2 hW3 kd P3 hb1 hb2 hb3
  unfold bodyV at *
  go_enter_defers Tryz.func38, Tryz.ntmps38
  go_wp2_with fail
  rw [← hW1'.out, ← hW2'.out]
  refine still_tail_at 9 (by kernel_rfl) (by kernel_rfl) W3 hW3'.out ?_
  simp only [List.take_succ_cons, List.take_zero, List.drop_succ_cons, List.drop_zero]
  repeat still_step
  refine wpStill_nil ?_
  clear r0 r1 r2 r3 t6 f6
  go_wp2_with fail
  refine cb.out.mono ?_
  rintro e W4 ⟨v, rfl, hv, hf, Z4, hR, hm⟩
  have nz : ∀ x, w.heap.size ≤ x → ¬ x = w.heap.size + 1 + 1 → ¬ (Z x ∨ x = w.heap.size + 1 + 1) := fun x hx hn h => h.elim (fun h => by have := hold.out x h; omega) hn
  have E4 := M1.out.keeps hm.keeps (nz _ (by omega) (by omega))
  have Q4 := M3.out.keeps hm.keeps (nz _ (by omega) (by omega))
  have T4 := M0.out.keeps hm.keeps (nz _ (by omega) (by omega))
  have npe := hm.apart M1.out.lt (nz _ (by omega) (by omega))
  obtain ⟨h1, h2, h3⟩ := RunP.finish hR hm KZ.out (fun x hx => hx.imp id fun e => by omega) E4 npe (by omega) hv
  have F := Lib.hid (show BodyRan w t b a pl (bodyV pb) rd st ev Z (body rd p (fun _ => 0) 0 ⟨log, 0, false, m⟩) (.returned v) (shutW (W4.setCell ⟨w.heap.size + 1, 0, none⟩ v) (w.heap.size + 1 + 1) t) from ⟨v, rfl, h1, fun ty x hx => Nat.le_trans KZ.out.size (hf ty x hx), h2, h3⟩)
  have hvf : v = .nilIface ∨ ∃ ty x, v = .iface ty x := by
    generalize (body rd p (fun _ => 0) 0 ⟨log, 0, false, m⟩).1 = e at hv
    cases e with
    | ok => exact .inl hv
    | no k => exact .inr ⟨_, _, hv⟩
    | at_ i k => obtain ⟨p, hv, _⟩ := hv; exact .inr ⟨_, _, hv⟩
  obtain ⟨lv4, X4, P4⟩ := hR
  have ks5 : Keeps (fun x => x = w.heap.size + 1) W4 (W4.setCell ⟨w.heap.size + 1, 0, none⟩ v) := (Keeps.refl (fun x => x = w.heap.size + 1) W4).setCell (p := ⟨w.heap.size + 1, 0, none⟩) (fun _ => rfl) _
  have hd := Lib.hid (defer_any (w.heap.size + 1) (w.heap.size + 1 + 1 + 1) w.heap.size (w.heap.size + 1 + 1) t _ _ true (W4.setCell ⟨w.heap.size + 1, 0, none⟩ v) ((Q4.keeps ks5 (by omega)).at_ 0) ((T4.keeps ks5 (by omega)).at_ 0) (P4.ctx.keeps ks5 (by omega)) ((P4.th.blk.keeps ks5 (by omega)).at_ 6) ((P4.th.blk.keeps ks5 (by omega)).free 6))
  have hr : (shutW (W4.setCell ⟨w.heap.size + 1, 0, none⟩ v) (w.heap.size + 1 + 1) t).cell? ⟨w.heap.size + 1, 0, none⟩ = some v := ((((E4.set_ 0 v).far (p := ⟨w.heap.size + 1 + 1, 1, none⟩) (show ¬ (w.heap.size + 1 = w.heap.size + 1 + 1) by omega) _).far (p := ⟨w.heap.size + 1 + 1, 2, none⟩) (show ¬ (w.heap.size + 1 = w.heap.size + 1 + 1) by omega) _).far (p := ⟨t, 6, none⟩) (show ¬ (w.heap.size + 1 = t) by omega) _).at_ 0
  have hr' := Lib.hid hr
  have e0 : W4.cell? ⟨w.heap.size + 1, 0, none⟩ = some .nilIface := E4.at_ 0
  have ef : W4.frozen? ⟨w.heap.size + 1, 0, none⟩ = false := E4.free 0
  clear hv hf hm nz E4 Q4 T4 npe h1 h2 h3 P4 ks5 hr
  rcases hvf with rfl | ⟨ty, vx, rfl⟩
  all_goals
    go_wp2_with fail
    refine leaves_cons (f := 62) (args := #[.pointer (some ⟨w.heap.size + 1, 0, none⟩), .pointer (some ⟨w.heap.size + 1 + 1 + 1, 0, none⟩), .pointer (some ⟨w.heap.size, 0, none⟩)]) (by simp) (by simp [go_sem]) ?_
    refine hd.out.mono ?_
    rintro e u' w'' ⟨rfl, rfl, rfl⟩
    exact ⟨_, by simp [results, Tryz.results38, go_sem, hr'.out], F.out⟩
end Go.Proofs.YtipogkgolbmgkaaGreatDoor
