/-
  thread.Step by contract: as step says.
-/
import Derived.Test.YtipogkgolbmgkaaGreatDoorThBodyRun
namespace Go.Proofs.YtipogkgolbmgkaaGreatDoor
open Go.RowKit Go.Extern.Stop Go.Stop Go.Extern

/-- A thread in memory, as S says; what it has is among Z. -/
def ThM (w : World) (t b a pl pb : Nat) (S : Ths) (Z : Nat → Prop) : Prop :=
  ∃ ev lv X, ThQ w t b a pl (bodyV pb) S.round S.steps S.log S.done ev S.m lv X Z ∧ S.Ok ∧ ErrV w ev S.err ∧ ∀ ty x, ev = .iface ty (.pointer (some x)) → Z x.block

/-- What a call leaves that answers an error of the thread. -/
def Stepped (w : World) (t b a pl pb : Nat) (S : Ths) (Z : Nat → Prop) (e : Ending) (w' : World) : Prop :=
  ∃ v, e = .returned v ∧ ErrV w' v S.err ∧ ∃ Z', ThM w' t b a pl pb S Z' ∧ Mv Z Z' w w' ∧ ∀ ty x, v = .iface ty (.pointer (some x)) → Z' x.block

section
variable {w w' : World} {t b a pl : Nat} {bv : Value} {rd st : Nat} {log : List Ent} {dn : Bool} {ev : Value} {m : Mm} {lv : Value} {X Z S : Nat → Prop}

theorem ThQ.keeps (h : ThQ w t b a pl bv rd st log dn ev m lv X Z) (k : Keeps S w w') (hS : ∀ x, Z x → ¬ S x) (hg : ¬ S etB) : ThQ w' t b a pl bv rd st log dn ev m lv X Z where
  th := h.th.keeps k fun x hx => hS _ (h.own x hx).1
  mm := h.mm.keeps k fun x hx => hS _ (h.x x hx)
  x := h.x
  own := h.own
  old := fun x hx => Nat.lt_of_lt_of_le (h.old x hx) k.size
  glob := h.glob.keeps k hg
  gz := h.gz
theorem ThQ.same (h : ThQ w t b a pl bv rd st log dn ev m lv X Z) (k : Keeps (fun _ => False) w w') : ThQ w' t b a pl bv rd st log dn ev m lv X Z := h.keeps k (fun _ _ => id) id

theorem ThQ.stepped (h : ThQ w t b a pl bv rd st log dn ev m lv X Z) : ThQ (w.setCell ⟨t, 3, none⟩ (.int .i64 ((st : Int) + 1))) t b a pl bv rd (st + 1) log dn ev m lv X Z ∧ Keeps Z w (w.setCell ⟨t, 3, none⟩ (.int .i64 ((st : Int) + 1))) := by
  have ks : Keeps (fun x => x = t) w (w.setCell ⟨t, 3, none⟩ (.int .i64 ((st : Int) + 1))) := (Keeps.refl (fun x => x = t) w).setCell (p := ⟨t, 3, none⟩) (fun _ => rfl) _
  refine ⟨{
    th := ⟨h.th.blk.set_ 3 _, h.th.row.keeps ks fun g hg e => (h.th.row_ne hg).1 e, h.th.map.keeps ks fun e => h.th.ne e.symm⟩
    mm := h.mm.keeps ks fun x hx e => (h.own t (.inl rfl)).2 (e ▸ hx)
    x := h.x
    own := h.own
    old := fun x hx => Nat.lt_of_lt_of_le (h.old x hx) ks.size
    glob := h.glob.keeps ks fun e => h.gz (by subst e; exact (h.own _ (.inl rfl)).1)
    gz := h.gz }, ks.mono fun x _ e => by rw [e]; exact (h.own t (.inl rfl)).1⟩

/-- The thread's own parts have changed, none else. -/
theorem ThQ.own_change {rd' st' : Nat} {log' : List Ent} {dn' : Bool} {ev' lv' : Value} (h : ThQ w t b a pl bv rd st log dn ev m lv X Z) (k : Keeps (Own3 t pl lv) w w') (ht : ThRaw w' t b pl bv (rd' : Int) (st' : Int) log' lv' false dn' ev') (hl : ∀ x, lv'.ownBlock = some x → lv.ownBlock = some x) (Z' : Nat → Prop) (hZ : ∀ x, Z x → Z' x) (hZ' : ∀ x, Z' x → Z x ∨ (x < w'.heap.size ∧ x ≠ etB)) : ThQ w' t b a pl bv rd' st' log' dn' ev' m lv' X Z' where
  th := ht
  mm := h.mm.keeps k fun x hx ho => (h.own x ho).2 hx
  x := fun x hx => hZ x (h.x x hx)
  own := fun x hx => by
    have : Own3 t pl lv x := by
      rcases hx with e | e | e
      · exact .inl e
      · exact .inr (.inl e)
      · exact .inr (.inr (hl x e))
    exact ⟨hZ x (h.own x this).1, (h.own x this).2⟩
  old := fun x hx => (hZ' x hx).elim (fun h' => Nat.lt_of_lt_of_le (h.old x h') k.size) fun h' => h'.1
  glob := h.glob.keeps k fun e => h.gz (h.own _ e).1
  gz := fun hx => (hZ' _ hx).elim h.gz fun h' => h'.2 rfl
end

theorem close_yield {S : Ths} {r : EA × Rn} (h : r.1.num = 11) : S.close r = ⟨r.2.m, r.2.log, S.round, S.steps + 1, false, .ok⟩ := by unfold Ths.close; rw [if_pos h]
theorem close_end {S : Ths} {r : EA × Rn} (h : r.1.num ≠ 11) (h2 : r.1.num ≠ 12) : S.close r = ⟨r.2.m, r.2.log, S.round, S.steps + 1, true, r.1⟩ := by unfold Ths.close; rw [if_neg h, if_neg h2]
theorem close_cap {S : Ths} {r : EA × Rn} (h2 : r.1.num = 12) (h3 : 39 ≤ S.round) : S.close r = ⟨r.2.m, r.2.log, S.round, S.steps + 1, true, .no 15⟩ := by unfold Ths.close; rw [if_neg (by omega), if_pos h2, if_pos h3]
theorem close_anew {S : Ths} {r : EA × Rn} (h2 : r.1.num = 12) (h3 : ¬ 39 ≤ S.round) : S.close r = ⟨r.2.m, [], S.round + 1, S.steps + 1, false, .ok⟩ := by unfold Ths.close; rw [if_neg (by omega), if_pos h2, if_neg h3]

theorem ErrV.lt {w : World} {v : Value} {e : EA} (h : ErrV w v e) {ty : TypeId} {x : Addr} (hv : v = .iface ty (.pointer (some x))) : x.block < w.heap.size ∧ (∀ ty cs, Whole w x.block ty cs → ty = 99) := by
  subst hv
  cases e with
  | ok => cases h
  | no k => cases h
  | at_ i k =>
    obtain ⟨p, h, hp⟩ := h
    cases h
    refine ⟨hp.lt, fun ty cs hw => ?_⟩
    unfold Whole at hp hw
    rw [hp] at hw
    injection hw with hw
    injection hw with _ ht
    exact ht.symm

theorem body_run (S : Ths) (p : List Mic) : body S.round p (fun _ => 0) 0 ⟨S.log, 0, false, S.m⟩ = S.run p := rfl

set_option maxRecDepth 100000 in
set_option maxHeartbeats 2000000 in
theorem step_any {w : World} {t b a pl pb : Nat} {S : Ths} {Z : Nat → Prop} {p : List Mic} (h : ThM w t b a pl pb S Z) (hp : Prog w pb p Z) (hs : SmallP p) (hd : S.done = false) :
    Calls Tryz.prog 21 #[.pointer (some ⟨t, 0, none⟩)] w fun e w' => Stepped w t b a pl pb (step p S) Z e w' := by
  obtain ⟨ev, lv, X, hQ, hok, hev, _⟩ := h
  rw [hd] at hQ
  rw [hok.err hd] at hev
  obtain rfl : ev = .nilIface := hev
  have hso := (step_ok hok hs hd).1
  have c1 : w.cell? ⟨t, 1, none⟩ = some (bodyV pb) := hQ.th.blk.at_ 1
  have hn := Lib.hid (tnone_there w c1)
  have c7 : w.cell? ⟨t, 7, none⟩ = some (.bool false) := hQ.th.blk.at_ 7
  have c6 : w.cell? ⟨t, 6, none⟩ = some (.bool false) := hQ.th.blk.at_ 6
  have c3 : w.cell? ⟨t, 3, none⟩ = some (.int .i64 (S.steps : Int)) := hQ.th.blk.at_ 3
  have f3 : w.frozen? ⟨t, 3, none⟩ = false := hQ.th.blk.free 3
  have hst : (S.steps : Int) ≤ 840 := by have := hok.most; omega
  obtain ⟨q1, k1⟩ := hQ.stepped
  have hrb := Lib.hid (runBody_any ⟨_, _, q1⟩ (hp.keeps k1 (fun _ _ => id) fun _ _ => id) hs hok.start (by have := hok.few; omega) (by have := hok.cnt; have := hok.most; omega))
  have k1' := Lib.hid k1
  have hok' := Lib.hid hok
  have hso' := Lib.hid hso
  have hrd : (S.round : Int) ≤ 39 := by have := hok.round; omega
  have gl := Lib.hid (show etB < w.heap.size from hQ.glob.lt)
  clear q1 k1 hQ hp hs hok hso c1 hd
  rw [body_run] at hrb
  unfold step at *
  generalize S.run p = R at hrb hso' ⊢
  obtain ⟨er, s⟩ := R
  obtain ⟨W1, hW1⟩ : ∃ W, W = w.setCell ⟨t, 3, none⟩ (.int .i64 ((S.steps : Int) + 1)) := ⟨_, rfl⟩
  rw [← hW1] at hrb k1'
  have lw1 := Lib.hid k1'.out.size
  go_enter Tryz.func21, Tryz.ntmps21
  go_wp2_with (go_at_call 32; refine hn.out.mono ?_; rintro e w' ⟨rfl, rfl⟩)
  rw [← hW1]
  clear hW1 c7 c6 c3 f3
  refine hrb.out.mono ?_
  rintro e W2 ⟨v, rfl, hv, hf, hsok, lv2, X2, Z2, hQ2, hm⟩
  have V2 := Lib.hid hv
  have Q2 := Lib.hid hQ2
  have M2 := Lib.hid (show Mv Z Z2 w W2 from (Mv.of k1'.out).trans hm)
  have s2 := Lib.hid hsok
  have F2 := Lib.hid (show ∀ ty x, v = .iface ty (.pointer (some x)) → w.heap.size ≤ x.block from fun ty x hx => Nat.le_trans lw1.out (hf ty x hx))
  clear hv hf hsok hQ2 hm hrb hn k1'
  by_cases e11 : er.num = 11
  · have cw := Lib.hid (wraps_any V2.out 11 (by simp) true (decide_eq_true e11))
    have e11' := Lib.hid e11
    clear e11
    go_wp2_with fail
    refine cw.out.mono ?_
    rintro e W3 ⟨rfl, hK⟩
    have K3 := Lib.hid hK
    clear hK
    go_wp2_with fail
    go_ret
    have hso := hso'.out
    rw [close_yield (r := (er, s)) e11'.out] at hso ⊢
    exact ⟨_, rfl, rfl, Z2, ⟨_, _, _, Q2.out.same K3.out, hso, rfl, fun ty x hx => (by cases hx)⟩, M2.out.trans (Mv.stay K3.out), fun ty x hx => (by cases hx)⟩
  · have cw := Lib.hid (wraps_any V2.out 11 (by simp) false (decide_eq_false e11))
    have e11' := Lib.hid e11
    clear e11
    go_wp2_with fail
    refine cw.out.mono ?_
    rintro e W3 ⟨rfl, hK⟩
    have V3 := Lib.hid (V2.out.keeps hK (fun _ _ _ => id))
    have K3 := Lib.hid hK
    clear hK
    by_cases e12 : er.num = 12
    · have cw2 := Lib.hid (wraps_any V3.out 12 (by simp) true (decide_eq_true e12))
      have e12' := Lib.hid e12
      clear e12
      go_wp2_with fail
      refine cw2.out.mono ?_
      rintro e W4 ⟨rfl, hK⟩
      have Q4 := Lib.hid (Q2.out.same (K3.out.trans_ hK))
      have M4 := Lib.hid (M2.out.trans (Mv.stay (K3.out.trans_ hK)))
      have r2 : W4.cell? ⟨t, 2, none⟩ = some (.int .i64 (S.round : Int)) := Q4.out.th.blk.at_ 2
      clear hK
      by_cases e39 : 39 ≤ S.round
      · have hge : (39 : Int) ≤ (S.round : Int) := by omega
        have ce := Lib.hid (end_any (v := .iface 60 (.int .i64 15)) Q4.out.th ⟨.no 15, rfl⟩ rfl)
        have e39' := Lib.hid e39
        clear e39
        go_wp2_with fail
        refine ce.out.mono ?_
        rintro e W5 ⟨rfl, hT, hK⟩
        have T5 := Lib.hid hT
        have K5 := Lib.hid hK
        clear hT hK
        go_wp2_with fail
        go_ret
        have hso := hso'.out
        rw [close_cap (r := (er, s)) e12'.out e39'.out] at hso ⊢
        have k5 : Keeps (Own3 t pl lv2) W4 W5 := K5.out.mono fun _ _ => .inl
        exact ⟨_, rfl, rfl, Z2, ⟨_, _, _, Q4.out.own_change k5 T5.out (fun _ => id) Z2 (fun _ => id) (fun _ => .inl), hso, rfl, fun ty x hx => (by cases hx)⟩, M4.out.trans (Mv.of (k5.mono fun x _ hx => (Q4.out.own x hx).1)), fun ty x hx => (by cases hx)⟩
      · have hge : ¬ ((39 : Int) ≤ (S.round : Int)) := by omega
        have ca := Lib.hid (anew_any Q4.out.th (by omega))
        have e39' := Lib.hid e39
        clear e39
        go_wp2_with fail
        refine ca.out.mono ?_
        rintro e W5 ⟨rfl, hT, hK⟩
        have T5 := Lib.hid hT
        have K5 := Lib.hid hK
        clear hT hK
        go_wp2_with fail
        go_ret
        have hso := hso'.out
        rw [close_anew (r := (er, s)) e12'.out e39'.out] at hso ⊢
        have k5 : Keeps (Own3 t pl lv2) W4 W5 := K5.out.mono fun _ _ h => h.elim .inl fun h => .inr (.inl h)
        exact ⟨_, rfl, rfl, Z2, ⟨_, _, _, Q4.out.own_change k5 T5.out (fun x hx => by cases hx) Z2 (fun _ => id) (fun _ => .inl), hso, rfl, fun ty x hx => (by cases hx)⟩, M4.out.trans (Mv.of (k5.mono fun x _ hx => (Q4.out.own x hx).1)), fun ty x hx => (by cases hx)⟩
    · have cw2 := Lib.hid (wraps_any V3.out 12 (by simp) false (decide_eq_false e12))
      have e12' := Lib.hid e12
      clear e12
      go_wp2_with fail
      refine cw2.out.mono ?_
      rintro e W4 ⟨rfl, hK⟩
      have Q4 := Lib.hid (Q2.out.same (K3.out.trans_ hK))
      have M4 := Lib.hid (M2.out.trans (Mv.stay (K3.out.trans_ hK)))
      have V4 := Lib.hid (V3.out.keeps hK (fun _ _ _ => id))
      clear hK
      have ce := Lib.hid (end_any Q4.out.th ⟨_, V4.out⟩ rfl)
      go_wp2_with fail
      refine ce.out.mono ?_
      rintro e W5 ⟨rfl, hT, hK⟩
      have T5 := Lib.hid hT
      have K5 := Lib.hid hK
      clear hT hK
      go_wp2_with fail
      go_ret
      have hso := hso'.out
      rw [close_end (r := (er, s)) e11'.out e12'.out] at hso ⊢
      have k5 : Keeps (Own3 t pl lv2) W4 W5 := K5.out.mono fun _ _ => .inl
      have hnt : ∀ ty x, v = .iface ty (.pointer (some x)) → ¬ x.block = t := fun ty x hx e => absurd ((V4.out.lt hx).2 _ _ (by rw [e]; exact Q4.out.th.blk)) (by decide)
      refine ⟨v, rfl, V4.out.keeps K5.out hnt, fun x => Z2 x ∨ ∃ ty y, v = .iface ty (.pointer (some y)) ∧ x = y.block, ⟨_, _, _, Q4.out.own_change k5 T5.out (fun _ => id) _ (fun _ => .inl) (fun x hx => hx.imp id ?_), hso, V4.out.keeps K5.out hnt, fun ty x hx => .inr ⟨ty, x, hx, rfl⟩⟩, ⟨M4.out.keeps.trans k5 fun x hx ho => ?_, fun x hx => ?_⟩, fun ty x hx => .inr ⟨ty, x, hx, rfl⟩⟩
      · rintro ⟨ty, y, hy, rfl⟩
        exact ⟨Nat.lt_of_lt_of_le (V4.out.lt hy).1 K5.out.size, fun e => by have := gl.out; have := F2.out ty y hy; omega⟩
      · exact (M4.out.new x (Q4.out.own x ho).1).elim id fun h' => absurd hx (Nat.not_lt.2 h')
      · rcases hx with hx | ⟨ty, y, hy, rfl⟩
        · exact M4.out.new x hx
        · exact .inr (F2.out ty y hy)
end Go.Proofs.YtipogkgolbmgkaaGreatDoor
