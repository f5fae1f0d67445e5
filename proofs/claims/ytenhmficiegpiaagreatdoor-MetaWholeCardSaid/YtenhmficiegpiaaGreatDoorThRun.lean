/-
  thread: a step under way in memory; Ctx.access by contract, whatever access its function does.
-/
import Derived.Test.YtenhmficiegpiaaGreatDoorThNoted
import Derived.Test.YtenhmficiegpiaaGreatDoorThAns
namespace Go.Proofs.YtenhmficiegpiaaGreatDoor
open Go.RowKit Go.Extern.Stop Go.Stop Go.Extern

/-- The block of the library's variable errors.errorType. -/
abbrev etB : Nat := 0

/-- A step of thread t under way, by the Ctx c; what it has is among Z. -/
structure RunP (w : World) (c t b a pl : Nat) (bv : Value) (round steps : Int) (ev : Value) (s : Rn) (lv : Value) (X Z : Nat → Prop) : Prop where
  ctx : Whole w c 123 #[.pointer (some ⟨t, 0, none⟩), .int .i64 (s.next : Int), .bool s.over]
  th : ThRaw w t b pl bv round steps s.log lv true false ev
  mm : MmM w b a s.m X
  ok : s.Ok
  x : ∀ x, X x → Z x
  own : ∀ x, Own3 t pl lv x → Z x ∧ ¬ X x
  cz : Z c ∧ ¬ X c
  old : ∀ x, Z x → x < w.heap.size
  glob : Glob w
  gz : ¬ Z etB

theorem RunP.keeps {w w' : World} {c t b a pl : Nat} {bv : Value} {round steps : Int} {ev : Value} {s : Rn} {lv : Value} {X Z S : Nat → Prop} (h : RunP w c t b a pl bv round steps ev s lv X Z) (k : Keeps S w w') (hS : ∀ x, Z x → ¬ S x) (hg : ¬ S etB) : RunP w' c t b a pl bv round steps ev s lv X Z where
  ctx := h.ctx.keeps k (hS _ h.cz.1)
  th := h.th.keeps k fun x hx => hS _ (h.own x hx).1
  mm := h.mm.keeps k fun x hx => hS _ (h.x x hx)
  ok := h.ok
  x := h.x
  own := h.own
  cz := h.cz
  old := fun x hx => Nat.lt_of_lt_of_le (h.old x hx) k.size
  glob := h.glob.keeps k hg
  gz := h.gz
theorem RunP.same {w w' : World} {c t b a pl : Nat} {bv : Value} {round steps : Int} {ev : Value} {s : Rn} {lv : Value} {X Z : Nat → Prop} (h : RunP w c t b a pl bv round steps ev s lv X Z) (k : Keeps (fun _ => False) w w') : RunP w' c t b a pl bv round steps ev s lv X Z := h.keeps k (fun _ _ => id) id

def RunM (w : World) (c t b a pl : Nat) (bv : Value) (round steps : Int) (ev : Value) (s : Rn) (Z : Nat → Prop) : Prop := ∃ lv X, RunP w c t b a pl bv round steps ev s lv X Z

theorem RunM.same {w w' : World} {c t b a pl : Nat} {bv : Value} {round steps : Int} {ev : Value} {s : Rn} {Z : Nat → Prop} (h : RunM w c t b a pl bv round steps ev s Z) (k : Keeps (fun _ => False) w w') : RunM w' c t b a pl bv round steps ev s Z := by
  obtain ⟨lv, X, h⟩ := h
  exact ⟨lv, X, h.same k⟩

/-- What a body's access tells and leaves. -/
def Asked (w : World) (c t b a pl : Nat) (bv : Value) (round steps : Int) (ev : Value) (s : Rn) (Z : Nat → Prop) (q : Req) (v : Value) (w' : World) : Prop :=
  ErrV w' v (ask s q).1.err ∧ FreshE w.heap.size v ∧ ∃ Z', RunM w' c t b a pl bv round steps ev (ask s q).2 Z' ∧ Mv Z Z' w w'

/-- A function value does the access q of the blocks. -/
def Does (f : Nat) (caps : Array Value) (q : Req) (b a c N : Nat) (w : World) : Prop :=
  ∀ (W : World) (X : Nat → Prop) (m : Mm), Keeps (fun x => x = c) w W → MmM W b a m X → (∀ x, X x → x < N) → m.cnt < 10000 →
    Calls Tryz.prog f (#[.pointer (some ⟨b, 0, none⟩)] ++ caps) W fun e w' => ∃ v, e = .returned (.tuple #[entVal0 (doReq m q).1, v]) ∧ After W b a X (doReq m q) v w'

theorem cnone_there {c : Nat} {a : Addr} (w : World) (hc : w.cell? ⟨c, 0, none⟩ = some (.pointer (some a))) :
    Calls Tryz.prog 58 #[.pointer (some ⟨c, 0, none⟩)] w fun e w' => e = .returned (.bool false) ∧ w = w' := by
  go_enter Tryz.func58, Tryz.ntmps58
  go_wp2
  go_ret
  exact ⟨rfl, rfl⟩

theorem cnone_nil (w : World) :
    Calls Tryz.prog 58 #[.pointer none] w fun e w' => e = .returned (.bool true) ∧ w = w' := by
  go_enter Tryz.func58, Tryz.ntmps58
  go_wp2
  go_ret
  exact ⟨rfl, rfl⟩

/-- A result's block is filled. -/
def put6 (W : World) (n : Nat) (x0 x1 x2 x3 x4 x5 : Value) : World := (((((W.setCell ⟨n, 0, none⟩ x0).setCell ⟨n, 1, none⟩ x1).setCell ⟨n, 2, none⟩ x2).setCell ⟨n, 3, none⟩ x3).setCell ⟨n, 4, none⟩ x4).setCell ⟨n, 5, none⟩ x5
theorem put6_keeps (W : World) (n : Nat) (x0 x1 x2 x3 x4 x5 : Value) : Keeps (fun x => x = n) W (put6 W n x0 x1 x2 x3 x4 x5) :=
  ((((((Keeps.refl (fun x => x = n) W).setCell (p := ⟨n, 0, none⟩) (fun _ => rfl) _).setCell (p := ⟨n, 1, none⟩) (fun _ => rfl) _).setCell (p := ⟨n, 2, none⟩) (fun _ => rfl) _).setCell (p := ⟨n, 3, none⟩) (fun _ => rfl) _).setCell (p := ⟨n, 4, none⟩) (fun _ => rfl) _).setCell (p := ⟨n, 5, none⟩) (fun _ => rfl) _
theorem six {W : World} {n : Nat} {t : TypeId} {x0 x1 x2 x3 x4 x5 : Value} (h : Whole W n t #[x0, x1, x2, x3, x4, x5]) :
    (W.cell? ⟨n, 0, none⟩ = some x0 ∧ W.cell? ⟨n, 1, none⟩ = some x1 ∧ W.cell? ⟨n, 2, none⟩ = some x2 ∧ W.cell? ⟨n, 3, none⟩ = some x3 ∧ W.cell? ⟨n, 4, none⟩ = some x4 ∧ W.cell? ⟨n, 5, none⟩ = some x5) ∧
    (W.frozen? ⟨n, 0, none⟩ = false ∧ W.frozen? ⟨n, 1, none⟩ = false ∧ W.frozen? ⟨n, 2, none⟩ = false ∧ W.frozen? ⟨n, 3, none⟩ = false ∧ W.frozen? ⟨n, 4, none⟩ = false ∧ W.frozen? ⟨n, 5, none⟩ = false) :=
  ⟨⟨h.at_ 0, h.at_ 1, h.at_ 2, h.at_ 3, h.at_ 4, h.at_ 5⟩, h.free 0, h.free 1, h.free 2, h.free 3, h.free 4, h.free 5⟩

theorem ErrV.keeps {w w' : World} {v : Value} {e : EA} {S : Nat → Prop} (h : ErrV w v e) (k : Keeps S w w') (hS : ∀ ty x, v = .iface ty (.pointer (some x)) → ¬ S x.block) : ErrV w' v e := by
  cases e with
  | ok => exact h
  | no n => exact h
  | at_ i n =>
    obtain ⟨p, rfl, hp⟩ := h
    exact ⟨p, rfl, hp.keeps k (hS _ _ rfl)⟩

/-- The Ctx goes on by one. -/
theorem RunP.tick {w : World} {c t b a pl : Nat} {bv : Value} {round steps : Int} {ev : Value} {s s' : Rn} {lv : Value} {X Z : Nat → Prop} (h : RunP w c t b a pl bv round steps ev s lv X Z) (hs : s'.log = s.log ∧ s'.over = s.over ∧ s'.m = s.m) (hok : s'.Ok) : RunP (w.setCell ⟨c, 1, none⟩ (.int .i64 (s'.next : Int))) c t b a pl bv round steps ev s' lv X Z where
  ctx := by
    have := h.ctx.set_ 1 (.int .i64 (s'.next : Int))
    rw [hs.2.1]
    exact this
  th := by
    rw [hs.1]
    refine h.th.keeps ((Keeps.refl (fun x => x = c) w).setCell (p := ⟨c, 1, none⟩) (fun _ => rfl) _) fun x hx e => ?_
    subst e
    rcases hx with rfl | rfl | hx
    · exact h.ctx.ne_ h.th.blk (by decide) rfl
    · exact h.ctx.ne_map h.th.map rfl
    · exact Go.Proofs.YtenhmficiegpiaaGreatDoor.row_ne h.th.row h.ctx (by decide) hx
  mm := by
    rw [hs.2.2]
    exact h.mm.keeps ((Keeps.refl (fun x => x = c) w).setCell (p := ⟨c, 1, none⟩) (fun _ => rfl) _) fun x hx e => h.cz.2 (e ▸ hx)
  ok := hok
  x := h.x
  own := h.own
  cz := h.cz
  old := fun x hx => by have := h.old x hx; simpa using this
  glob := h.glob.keeps ((Keeps.refl (fun x => x = c) w).setCell (p := ⟨c, 1, none⟩) (fun _ => rfl) _) fun e => h.gz (by subst e; exact h.cz.1)
  gz := h.gz

set_option maxRecDepth 100000 in
set_option maxHeartbeats 1000000 in
/-- .. of the log. -/
theorem access_log {w : World} {c t b a pl : Nat} {bv : Value} {round steps : Int} {ev : Value} {s : Rn} {Z : Nat → Prop} (h : RunM w c t b a pl bv round steps ev s Z) (few : s.log.length ≤ 5000) (q : Req) (f : Nat) (caps : Array Value) (hlt : s.next < s.log.length) :
    Calls Tryz.prog 40 #[.pointer (some ⟨c, 0, none⟩), .func (.func f) #[] caps] w fun e w' => ∃ v, e = .returned (.tuple #[entVal0 (ask s q).1, v]) ∧ Asked w c t b a pl bv round steps ev s Z q v w' := by
  obtain ⟨lv, X, h⟩ := h
  obtain ⟨o, lc, hlv, _⟩ := h.th.row.shape
  have hask : ask s q = ((s.log.getD s.next (.zero .ok)).ans, { s with next := s.next + 1 }) := by unfold ask; rw [if_pos hlt]
  have hen := h.ok.log (s.log.getD s.next (.zero .ok)) (by rw [List.getD, List.getElem?_eq_getElem hlt]; exact List.getElem_mem hlt)
  have hn : (s.log.getD s.next (.zero .ok)).err = .ok ∨ (s.log.getD s.next (.zero .ok)).err.num ≠ 0 := by
    rcases hen.err with h | h | h | h | h
    · exact .inl h
    all_goals exact .inr (by omega)
  unfold Asked
  rw [hask]
  have hae : (s.log.getD s.next (.zero .ok)).ans.err = (s.log.getD s.next (.zero .ok)).err := Ent.ans_err _
  obtain ⟨W1, hW1⟩ : ∃ W, W = w.alloc (.cells #[.int .i64 0, .int .u64 0, .int .i64 0, .int .u64 0, .bool false, .int .i64 0] 105) := ⟨_, rfl⟩
  have k1 : Keeps (fun _ => False) w W1 := by rw [hW1]; exact (Keeps.refl _ w).alloc _
  have mA : Whole W1 w.heap.size 105 #[.int .i64 0, .int .u64 0, .int .i64 0, .int .u64 0, .bool false, .int .i64 0] := by rw [hW1]; exact Whole.made _ _ _
  have P1 := h.same k1
  have P1' := Lib.hid P1
  have c0 : W1.cell? ⟨c, 0, none⟩ = some (.pointer (some ⟨t, 0, none⟩)) := P1.ctx.at_ 0
  have c1 : W1.cell? ⟨c, 1, none⟩ = some (.int .i64 (s.next : Int)) := P1.ctx.at_ 1
  have fc1 : W1.frozen? ⟨c, 1, none⟩ = false := P1.ctx.free 1
  have t4 : W1.cell? ⟨t, 4, none⟩ = some lv := P1.th.blk.at_ 4
  subst hlv
  have hcn := cnone_there _ c0
  have hlt' : (s.next : Int) < (s.log.length : Int) := by omega
  have hge : ¬ ((s.log.length : Int) ≤ (s.next : Int)) := by omega
  have hnb : (s.next : Int) ≤ 5000 := by omega
  have A1 := Lib.hid mA
  have hW1' := Lib.hid hW1
  have hn' := Lib.hid hn
  have hae' := Lib.hid hae
  have hask' := Lib.hid hask
  have ok' := Lib.hid h.ok
  have few' := Lib.hid few
  have hlt2 := Lib.hid hlt
  have k1' := Lib.hid k1
  have hold := Lib.hid h.old
  have hcz := Lib.hid h.cz.1
  have hgl := Lib.hid (show etB < w.heap.size from h.glob.lt)
  clear P1 mA hW1 hn hae hask hen h few hlt k1
  go_enter Tryz.func40, Tryz.ntmps40
  go_wp2_with fail
  rw [← hW1'.out]
  go_wp2_with (go_at_call 58; refine hcn.mono ?_; rintro e w' ⟨rfl, rfl⟩)
  go_quiet (fail)
  go_wp2_with fail
  have hP := (P1'.out.same ((Keeps.refl (fun _ => False) W1).drewN nq)).tick (s' := { s with next := s.next + 1 }) ⟨rfl, rfl, rfl⟩ ⟨ok'.out.m, ok'.out.log, hlt2.out⟩
  rw [show (((({ s with next := s.next + 1 } : Rn).next : Nat)) : Int) = (s.next : Int) + 1 by simp] at hP
  have kP : Keeps (fun x => x = c) W1 ((W1.drewN nq).setCell ⟨c, 1, none⟩ (.int .i64 ((s.next : Int) + 1))) := ((Keeps.refl (fun x => x = c) W1).drewN nq).setCell (p := ⟨c, 1, none⟩) (fun _ => rfl) _
  have hcw : Hid (¬ w.heap.size = c) := Lib.hid fun e => Nat.lt_irrefl c (by have := hold.out c hcz.out; omega)
  have mA2 := A1.out.keeps kP hcw.out
  obtain ⟨W2, hW2⟩ : ∃ W, W = (W1.drewN nq).setCell ⟨c, 1, none⟩ (.int .i64 ((s.next : Int) + 1)) := ⟨_, rfl⟩
  rw [← hW2] at hP kP mA2 ⊢
  refine (answer_any hP.th (by have := few'.out; show s.log.length ≤ 6000; omega) s.next hlt2.out hn'.out).mono ?_
  rintro e W3 ⟨v, rfl, hv, hf, hK⟩
  have mA3 := mA2.keeps hK id
  obtain ⟨⟨a0, a1, a2, a3, a4, a5⟩, z0, z1, z2, z3, z4, z5⟩ := six mA3
  generalize hE : (s.log.getD s.next (.zero .ok)).ans = E
  have P3 := Lib.hid (hP.same hK)
  have K3 := Lib.hid (kP.trans hK fun _ _ => False.elim)
  have V3 := Lib.hid hv
  have F3 := Lib.hid hf
  have hE' := Lib.hid hE
  have l2 := Lib.hid (show w.heap.size + 1 ≤ W2.heap.size by have := mA2.lt; omega)
  clear hP kP mA2 hK mA3 hv hf hE hW2
  unfold entVal0
  go_wp2_with fail
  refine bodyPost_ret (v := .tuple #[.agg #[.int .i64 (E.kind : Int), .int .u64 (E.ref : Int), .int .i64 E.i, .int .u64 (E.word : Int), .bool E.done, .int .i64 0], v]) (by simp [results, Tryz.results40, go_sem, a0, a1, a2, a3, a4, a5]) rfl ?_
  have k6 := put6_keeps W3 w.heap.size (.int .i64 (E.kind : Int)) (.int .u64 (E.ref : Int)) (.int .i64 E.i) (.int .u64 (E.word : Int)) (.bool E.done) (.int .i64 0)
  refine ⟨v, by rw [hE'.out]; rfl, ?_, fun ty x hx => ?_, Z, ⟨_, _, P3.out.keeps k6 (fun x hx e => ?_) (fun e => ?_)⟩, Mv.of ?_⟩
  · rw [hae'.out]
    exact V3.out.keeps k6 fun ty x hx e => by have := F3.out ty x hx; have := l2.out; omega
  · have := F3.out ty x hx; have := l2.out; omega
  · have := hold.out x hx; omega
  · have := hgl.out; omega
  · refine ((k1'.out.mono fun _ _ => False.elim).trans K3.out fun x _ e => ?_).trans k6 fun x hx e => absurd hx (by omega)
    rw [e]; exact hcz.out

/-- Behind an access that was done and noted. -/
theorem RunP.did {W2 W3 W4 : World} {c t b a pl : Nat} {bv : Value} {round steps : Int} {ev : Value} {s : Rn} {lv lv' : Value} {X X' Z : Nat → Prop} {ent : Ent} {m' : Mm} (h : RunP W2 c t b a pl bv round steps ev s lv X Z) (ho : s.over = true)
    (hm : MmM W3 b a m' X') (hX : Mv X X' W2 W3) (ht : ThRaw W4 t b pl bv round steps (s.log ++ [ent]) lv' true false ev) (hl : lv'.ownBlock = lv.ownBlock ∨ ∃ g, lv'.ownBlock = some g ∧ W3.heap.size ≤ g) (hK : Keeps (Own3 t pl lv) W3 W4) (hok : Rn.Ok ⟨s.log ++ [ent], s.next + 1, true, m'⟩) :
    RunP (W4.setCell ⟨c, 1, none⟩ (.int .i64 ((s.next : Int) + 1))) c t b a pl bv round steps ev ⟨s.log ++ [ent], s.next + 1, true, m'⟩ lv' X' (fun x => Z x ∨ X' x ∨ lv'.ownBlock = some x) ∧ Mv Z (fun x => Z x ∨ X' x ∨ lv'.ownBlock = some x) W2 (W4.setCell ⟨c, 1, none⟩ (.int .i64 ((s.next : Int) + 1))) := by
  have k3 : Keeps Z W2 W3 := hX.keeps.mono fun x _ hx => h.x x hx
  have n3 : ∀ x, Own3 t pl lv x → ¬ X' x := fun x hx => hX.apart (h.th.old x hx) (h.own x hx).2
  have k4 : Keeps Z W2 W4 := k3.trans hK fun x _ hx => (h.own x hx).1
  have ncX : ¬ X' c := hX.apart (h.old c h.cz.1) h.cz.2
  have nco : ¬ Own3 t pl lv c := by
    rintro (e | e | e)
    · exact h.ctx.ne_ h.th.blk (by decide) e
    · exact h.ctx.ne_map h.th.map e
    · exact Go.Proofs.YtenhmficiegpiaaGreatDoor.row_ne h.th.row h.ctx (by decide) e
  have hc4 : Whole W4 c 123 #[.pointer (some ⟨t, 0, none⟩), .int .i64 (s.next : Int), .bool s.over] := (h.ctx.keeps hX.keeps h.cz.2).keeps hK nco
  have ks : Keeps (fun x => x = c) W4 (W4.setCell ⟨c, 1, none⟩ (.int .i64 ((s.next : Int) + 1))) := (Keeps.refl (fun x => x = c) W4).setCell (p := ⟨c, 1, none⟩) (fun _ => rfl) _
  have nco' : ∀ x, Own3 t pl lv' x → ¬ x = c := by
    rintro x (rfl | rfl | hx) e
    · exact nco (.inl e.symm)
    · exact nco (.inr (.inl e.symm))
    · subst e
      exact Go.Proofs.YtenhmficiegpiaaGreatDoor.row_ne ht.row hc4 (by decide) hx
  have w3 : W2.heap.size ≤ W3.heap.size := hX.keeps.size
  have w4 : W3.heap.size ≤ W4.heap.size := hK.size
  have lvn : ∀ x, lv'.ownBlock = some x → Z x ∨ W2.heap.size ≤ x := by
    intro x hx
    rcases hl with hl | ⟨g, hg, hs⟩
    · exact .inl (h.own x (.inr (.inr (by rw [← hl]; exact hx)))).1
    · rw [hg] at hx; injection hx with hx; exact .inr (by omega)
  refine ⟨{
    ctx := by
      have := hc4.set_ 1 (.int .i64 ((s.next : Int) + 1))
      rw [ho] at this
      exact this
    th := ht.keeps ks nco'
    mm := (hm.keeps hK fun x hx hO => n3 x hO hx).keeps ks fun x hx e => ncX (e ▸ hx)
    ok := hok
    x := fun x hx => .inr (.inl hx)
    own := fun x hx => ?_
    cz := ⟨.inl h.cz.1, ncX⟩
    old := fun x hx => ?_
    glob := (h.glob.keeps k4 h.gz).keeps ks fun e => h.gz (by subst e; exact h.cz.1)
    gz := ?_ }, ⟨k4.trans ks fun x _ e => by rw [e]; exact h.cz.1, fun x hx => ?_⟩⟩
  · rcases hx with rfl | rfl | hx
    · exact ⟨.inl (h.own _ (.inl rfl)).1, n3 _ (.inl rfl)⟩
    · exact ⟨.inl (h.own _ (.inr (.inl rfl))).1, n3 _ (.inr (.inl rfl))⟩
    · refine ⟨.inr (.inr hx), fun hX' => ?_⟩
      rcases hl with hl | ⟨g, hg, hs⟩
      · exact n3 x (.inr (.inr (by rw [← hl]; exact hx))) hX'
      · rw [hg] at hx; injection hx with hx
        have := hm.old x hX'
        omega
  · rw [World.size_setCell]
    rcases hx with hx | hx | hx
    · have := h.old x hx; omega
    · have := hm.old x hx; omega
    · exact ht.old x (.inr (.inr hx))
  · have hge := h.glob.lt
    rintro (hx | hx | hx)
    · exact h.gz hx
    · exact hX.apart hge (fun hx => h.gz (h.x _ hx)) hx
    · exact (lvn _ hx).elim h.gz fun h' => absurd hge (Nat.not_lt.2 h')
  · rcases hx with hx | hx | hx
    · exact .inl hx
    · exact (hX.new x hx).imp (h.x x) id
    · exact lvn x hx

/-- The step's own access is under way. -/
theorem RunP.begun {w : World} {c t b a pl : Nat} {bv : Value} {round steps : Int} {ev : Value} {s : Rn} {lv : Value} {X Z : Nat → Prop} (h : RunP w c t b a pl bv round steps ev s lv X Z) : RunP (w.setCell ⟨c, 2, none⟩ (.bool true)) c t b a pl bv round steps ev { s with over := true } lv X Z where
  ctx := h.ctx.set_ 2 (.bool true)
  th := by
    refine h.th.keeps ((Keeps.refl (fun x => x = c) w).setCell (p := ⟨c, 2, none⟩) (fun _ => rfl) _) fun x hx e => ?_
    subst e
    rcases hx with rfl | rfl | hx
    · exact h.ctx.ne_ h.th.blk (by decide) rfl
    · exact h.ctx.ne_map h.th.map rfl
    · exact Go.Proofs.YtenhmficiegpiaaGreatDoor.row_ne h.th.row h.ctx (by decide) hx
  mm := h.mm.keeps ((Keeps.refl (fun x => x = c) w).setCell (p := ⟨c, 2, none⟩) (fun _ => rfl) _) fun x hx e => h.cz.2 (e ▸ hx)
  ok := ⟨h.ok.m, h.ok.log, h.ok.next⟩
  x := h.x
  own := h.own
  cz := h.cz
  old := fun x hx => by have := h.old x hx; simpa using this
  glob := h.glob.keeps ((Keeps.refl (fun x => x = c) w).setCell (p := ⟨c, 2, none⟩) (fun _ => rfl) _) fun e => h.gz (by subst e; exact h.cz.1)
  gz := h.gz
end Go.Proofs.YtenhmficiegpiaaGreatDoor
