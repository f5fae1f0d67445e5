/-
  concordlaw05.Body's function by contract: what a small program does in a step, as body says.
-/
import Derived.Test.YtipogkgolbmgkaaGreatDoorThCtx
import Derived.LoopTactic
namespace Go.Proofs.YtipogkgolbmgkaaGreatDoor
open Go.RowKit Go.Extern.Stop Go.Stop Go.Extern

def Mic.zero : Mic := ⟨0, 0, 0, 0, false, 0⟩

/-- A small program in memory. -/
def Mics (w : World) (a : Option Addr) (p : List Mic) : Prop :=
  ∀ i, i < p.length → ∃ b off, a = some ⟨b, off, none⟩ ∧ w.cell? ⟨b, off + i * 6, none⟩ = some (.int .i64 (p.getD i .zero).kind) ∧ w.cell? ⟨b, off + i * 6 + 1, none⟩ = some (.int .i64 (p.getD i .zero).a) ∧ w.cell? ⟨b, off + i * 6 + 2, none⟩ = some (.int .i64 (p.getD i .zero).i) ∧
    w.cell? ⟨b, off + i * 6 + 3, none⟩ = some (.int .u64 ((p.getD i .zero).x : Int)) ∧ w.cell? ⟨b, off + i * 6 + 4, none⟩ = some (.bool (p.getD i .zero).add) ∧ w.cell? ⟨b, off + i * 6 + 5, none⟩ = some (.int .i64 (p.getD i .zero).to_)

theorem Mics.keeps {w w' : World} {a : Option Addr} {p : List Mic} {S : Nat → Prop} (h : Mics w a p) (k : Keeps S w w') (hS : ∀ x, a = some x → ¬ S x.block) : Mics w' a p := by
  intro i hi
  obtain ⟨b, off, rfl, h0, h1, h2, h3, h4, h5⟩ := h i hi
  have hb := hS _ rfl
  exact ⟨b, off, rfl, (k.cell (cell_lt h0) hb).trans h0, (k.cell (cell_lt h1) hb).trans h1, (k.cell (cell_lt h2) hb).trans h2, (k.cell (cell_lt h3) hb).trans h3, (k.cell (cell_lt h4) hb).trans h4, (k.cell (cell_lt h5) hb).trans h5⟩

theorem reg_any (n : Int) (w : World) :
    Calls Tryz.prog 26 #[.int .i64 n] w fun e w' => e = .returned (.int .i64 ((regOf n : Nat) : Int)) ∧ w = w' := by
  have e : n.tmod 4 = n - 4 * n.tdiv 4 := Int.tmod_def n 4
  have hb : -4 < n.tmod 4 ∧ n.tmod 4 < 4 := ⟨by have := Int.lt_tmod_of_pos n (b := 4) (by decide); omega, Int.tmod_lt_of_pos n (by decide)⟩
  have hlo := hb.1
  have hhi := hb.2
  have e2 : (n.tmod 4 + 4) % 4 = ((regOf n : Nat) : Int) := by unfold regOf; omega
  have e3 := Lib.hid e2
  clear e hb e2
  go_enter Tryz.func26, Tryz.ntmps26
  go_wp2
  go_ret
  exact ⟨by show Ending.returned (Value.int .i64 ((n.tmod 4 + 4) % 4)) = _; rw [e3.out], rfl⟩

/-- What a step of a body comes to, in memory. -/
def Ran (w : World) (c t b a pl : Nat) (bv : Value) (round steps : Int) (ev : Value) (Z : Nat → Prop) (r : EA × Rn) (e : Ending) (w' : World) : Prop :=
  ∃ v, e = .returned v ∧ ErrV w' v r.1 ∧ FreshE w.heap.size v ∧ ∃ Z', RunM w' c t b a pl bv round steps ev r.2 Z' ∧ Mv Z Z' w w'

/-- The body's registers. -/
def regC (r : Nat → Nat) : Array Value := #[.int .u64 (r 0 : Int), .int .u64 (r 1 : Int), .int .u64 (r 2 : Int), .int .u64 (r 3 : Int)]

theorem regs_at {w : World} {R : Nat} {t : TypeId} {r : Nat → Nat} (h : Whole w R t (regC r)) {q : Nat} (hq : q < 4) : w.cell? ⟨R, q, none⟩ = some (.int .u64 (r q : Int)) := by
  rw [h.at_ q]
  rcases (show q = 0 ∨ q = 1 ∨ q = 2 ∨ q = 3 by omega) with rfl | rfl | rfl | rfl <;> rfl
theorem regs_put {w : World} {R : Nat} {t : TypeId} {r : Nat → Nat} (h : Whole w R t (regC r)) {q : Nat} (hq : q < 4) (x : Nat) : Whole (w.setCell ⟨R, q, none⟩ (.int .u64 (x : Int))) R t (regC (putAt r q x)) := by
  have := h.set_ q (.int .u64 (x : Int))
  rcases (show q = 0 ∨ q = 1 ∨ q = 2 ∨ q = 3 by omega) with rfl | rfl | rfl | rfl <;> exact this

def b2n (b : Bool) : Nat := if b then 1 else 0

/-- Where a body's round begins: the part k is next. -/
structure At (w wr : World) (c t b a pl : Nat) (bv : Value) (rd : Nat) (steps : Int) (ev : Value) (p : List Mic) (s0 : Rn) (Z : Nat → Prop) (R k last : Nat) (r : Nat → Nat) (s : Rn) (Z' : Nat → Prop) : Prop where
  run : RunM wr c t b a pl bv (rd : Int) steps ev s Z'
  mv : Mv Z Z' w wr
  regs : Whole wr R 65 (regC r)
  off : ¬ Z' R
  new : w.heap.size ≤ R
  same : body rd p (fun _ => 0) 0 s0 = body rd (p.drop k) r last s
  small : (∀ j, r j < 18446744073709551616) ∧ last < 18446744073709551616
  few : s.log.length ≤ s0.log.length + b2n s.over ∧ s.m.cnt ≤ s0.m.cnt + b2n s.over

section
variable {w wr : World} {c t b a pl : Nat} {bv : Value} {rd : Nat} {steps : Int} {ev : Value} {p : List Mic} {s0 : Rn} {Z : Nat → Prop} {R k last : Nat} {r : Nat → Nat} {s : Rn} {Z' : Nat → Prop}

theorem RunM.ok {w : World} {c t b a pl : Nat} {bv : Value} {round steps : Int} {ev : Value} {s : Rn} {Z : Nat → Prop} (h : RunM w c t b a pl bv round steps ev s Z) : s.Ok := by
  obtain ⟨_, _, h⟩ := h; exact h.ok
theorem RunM.old {w : World} {c t b a pl : Nat} {bv : Value} {round steps : Int} {ev : Value} {s : Rn} {Z : Nat → Prop} (h : RunM w c t b a pl bv round steps ev s Z) : ∀ x, Z x → x < w.heap.size := by
  obtain ⟨_, _, h⟩ := h; exact h.old
theorem RunM.gl {w : World} {c t b a pl : Nat} {bv : Value} {round steps : Int} {ev : Value} {s : Rn} {Z : Nat → Prop} (h : RunM w c t b a pl bv round steps ev s Z) : etB < w.heap.size := by
  obtain ⟨_, _, h⟩ := h; exact h.glob.lt
theorem RunM.far {w w' : World} {c t b a pl : Nat} {bv : Value} {round steps : Int} {ev : Value} {s : Rn} {Z S : Nat → Prop} (h : RunM w c t b a pl bv round steps ev s Z) (k : Keeps S w w') (hS : ∀ x, Z x → ¬ S x) (hg : ¬ S etB) : RunM w' c t b a pl bv round steps ev s Z := by
  obtain ⟨lv, X, h⟩ := h
  exact ⟨lv, X, h.keeps k hS hg⟩

theorem At.cap (h : At w wr c t b a pl bv rd steps ev p s0 Z R k last r s Z') (h0 : s0.log.length ≤ 4000 ∧ s0.m.cnt < 9000) : s.log.length ≤ 4999 ∧ s.m.cnt < 10000 := by
  have := h.few
  have hb : b2n s.over ≤ 1 := by unfold b2n; split <;> omega
  omega

/-- A part that is no access, and does not begin anew. -/
theorem At.skip {wr' : World} {m : Mic} (h : At w wr c t b a pl bv rd steps ev p s0 Z R k last r s Z') (hd : p.drop k = m :: p.drop (k + 1)) (hs : body rd (m :: p.drop (k + 1)) r last s = body rd (p.drop (k + 1)) r last s) (kk : Keeps (fun _ => False) wr wr') : At w wr' c t b a pl bv rd steps ev p s0 Z R (k + 1) last r s Z' :=
  ⟨h.run.same kk, h.mv.trans (Mv.stay kk), h.regs.keeps kk id, h.off, h.new, by rw [h.same, hd, hs], h.small, h.few⟩

theorem few_ask {s s0 : Rn} (h : s.Ok) (q : Req) (hq : q.small) (hf : s.log.length ≤ s0.log.length + b2n s.over ∧ s.m.cnt ≤ s0.m.cnt + b2n s.over) : (ask s q).2.log.length ≤ s0.log.length + b2n (ask s q).2.over ∧ (ask s q).2.m.cnt ≤ s0.m.cnt + b2n (ask s q).2.over := by
  rcases ask_ok h q hq with ⟨_, h2, _⟩ | ⟨_, _, _, h4⟩
  · rw [h2]; exact hf
  · rcases h4 with ⟨a1, a2, a3⟩ | ⟨a1, a2, a3, _, a5, _⟩
    · rw [a1, a2, a3]; exact hf
    · rw [a1] at hf
      simp only [b2n, Bool.false_eq_true, if_false] at hf
      rw [a2, a3, a5]
      simp only [b2n, if_true]
      omega

/-- Behind an access, and the store of a register. -/
theorem At.asked {w1 w2 : World} {q : Req} {v : Value} {x qt : Nat} (h : At w wr c t b a pl bv rd steps ev p s0 Z R k last r s Z') (k1 : Keeps (fun _ => False) wr w1) (hA : Asked w1 c t b a pl bv (rd : Int) steps ev s Z' q v w2) (hqt : qt < 4) :
    ∃ Z'', RunM (w2.setCell ⟨R, qt, none⟩ (.int .u64 (x : Int))) c t b a pl bv (rd : Int) steps ev (ask s q).2 Z'' ∧ Mv Z Z'' w (w2.setCell ⟨R, qt, none⟩ (.int .u64 (x : Int))) ∧ Whole (w2.setCell ⟨R, qt, none⟩ (.int .u64 (x : Int))) R 65 (regC (putAt r qt x)) ∧ ¬ Z'' R ∧ ErrV (w2.setCell ⟨R, qt, none⟩ (.int .u64 (x : Int))) v (ask s q).1.err ∧ FreshE w.heap.size v := by
  obtain ⟨hv, hf, Z2, hr, hm⟩ := hA
  have hlt : R < w1.heap.size := Nat.lt_of_lt_of_le h.regs.lt k1.size
  have ho := hm.apart hlt h.off
  have hw := (h.regs.keeps k1 id).keeps hm.keeps h.off
  have ks : Keeps (fun y => y = R) w2 (w2.setCell ⟨R, qt, none⟩ (.int .u64 (x : Int))) := (Keeps.refl (fun y => y = R) w2).setCell (p := ⟨R, qt, none⟩) (fun _ => rfl) _
  have hgl := h.run.gl
  have hnw : w.heap.size ≤ wr.heap.size := h.mv.keeps.size
  have hRg : etB < w.heap.size → ¬ etB = R := fun h1 e => by have := h.new; omega
  have ht := (h.mv.trans (Mv.stay k1)).trans hm
  refine ⟨Z2, hr.far ks (fun y hy e => ho (e ▸ hy)) (fun e => ?_), ⟨ht.keeps.trans ks fun y hy e => absurd hy (by have := h.new; omega), ht.new⟩, regs_put hw hqt x, ho, hv.typed ks hw (by decide), fun ty y hy => ?_⟩
  · have h1 := h.regs
    subst e
    obtain ⟨_, _, hP⟩ := h.run
    have hg : wr.cell? ⟨etB, 0, none⟩ = _ := hP.glob
    rw [h1.at_ 0] at hg
    cases hg
  · have := hf ty y hy
    have := k1.size
    omega

theorem At.next {w1 w2 : World} {m : Mic} {v : Value} (h : At w wr c t b a pl bv rd steps ev p s0 Z R k last r s Z') (hd : p.drop k = m :: p.drop (k + 1)) (hx : m.x < 18446744073709551616) (c1 : ¬ (m.kind = 6 ∧ last = m.x ∧ (rd : Int) < m.i)) (c2 : ¬ (m.kind < 1 ∨ 5 < m.kind)) (k1 : Keeps (fun _ => False) wr w1) (hA : Asked w1 c t b a pl bv (rd : Int) steps ev s Z' (m.req (r (regOf m.a)) (m.val last) last) v w2) (he : (ask s (m.req (r (regOf m.a)) (m.val last) last)).1.err = .ok)
    (x : Nat) (hxe : m.told last (ask s (m.req (r (regOf m.a)) (m.val last) last)).1 = x) : ∃ Z'', At w (w2.setCell ⟨R, regOf m.to_, none⟩ (.int .u64 (x : Int))) c t b a pl bv rd steps ev p s0 Z R (k + 1) x (putAt r (regOf m.to_) x) (ask s (m.req (r (regOf m.a)) (m.val last) last)).2 Z'' := by
  have hq : (m.req (r (regOf m.a)) (m.val last) last).small := Mic.req_small (h.small.1 _) (Mic.val_small hx) h.small.2
  obtain ⟨Z2, q1, q2, q3, q4, _, _⟩ := h.asked (x := x) k1 hA (show regOf m.to_ < 4 by unfold regOf; omega)
  have hsm : x < 18446744073709551616 := by
    rw [← hxe]
    rcases ask_ok h.run.ok _ hq with ⟨h1, _, _⟩ | ⟨h1, _⟩
    · rw [h1] at he; cases he
    · exact Mic.told_small h.small.2 h1
  refine ⟨Z2, q1, q2, q3, q4, h.new, ?_, ⟨putAt_small h.small.1 _ _ hsm, hsm⟩, few_ask h.run.ok _ hq h.few⟩
  rw [h.same, hd, body, if_neg c1, if_neg c2]
  generalize ask s (m.req (r (regOf m.a)) (m.val last) last) = A at he hxe ⊢
  obtain ⟨e, s'⟩ := A
  simp only at he hxe ⊢
  rw [if_pos he, hxe]

theorem At.fail {w1 w2 : World} {m : Mic} {v : Value} (h : At w wr c t b a pl bv rd steps ev p s0 Z R k last r s Z') (hd : p.drop k = m :: p.drop (k + 1)) (c1 : ¬ (m.kind = 6 ∧ last = m.x ∧ (rd : Int) < m.i)) (c2 : ¬ (m.kind < 1 ∨ 5 < m.kind)) (k1 : Keeps (fun _ => False) wr w1) (hA : Asked w1 c t b a pl bv (rd : Int) steps ev s Z' (m.req (r (regOf m.a)) (m.val last) last) v w2) (he : (ask s (m.req (r (regOf m.a)) (m.val last) last)).1.err ≠ .ok)
    (x : Nat) : Ran w c t b a pl bv (rd : Int) steps ev Z (body rd p (fun _ => 0) 0 s0) (.returned v) (w2.setCell ⟨R, regOf m.to_, none⟩ (.int .u64 (x : Int))) := by
  obtain ⟨Z2, q1, q2, _, _, q5, q6⟩ := h.asked (x := x) k1 hA (show regOf m.to_ < 4 by unfold regOf; omega)
  have hs : body rd p (fun _ => 0) 0 s0 = ((ask s (m.req (r (regOf m.a)) (m.val last) last)).1.err, (ask s (m.req (r (regOf m.a)) (m.val last) last)).2) := by
    rw [h.same, hd, body, if_neg c1, if_neg c2]
    generalize ask s (m.req (r (regOf m.a)) (m.val last) last) = A at he ⊢
    obtain ⟨e, s'⟩ := A
    simp only at he ⊢
    rw [if_neg he]
  rw [hs]
  exact ⟨v, rfl, q5, q6, Z2, q1, q2⟩
end

theorem drop_at {p : List Mic} {k : Nat} (hk : k < p.length) : p.drop k = p.getD k .zero :: p.drop (k + 1) := by
  rw [List.drop_eq_getElem_cons hk, List.getD, List.getElem?_eq_getElem hk]
  rfl

/-- An error that is one, as a value. -/
theorem ErrV.iface {w : World} {v : Value} {e : EA} (h : ErrV w v e) (he : e ≠ .ok) : ∃ ty x, v = .iface ty x := by
  cases e with
  | ok => exact absurd rfl he
  | no k => exact ⟨_, _, h⟩
  | at_ i k => obtain ⟨p, h, _⟩ := h; exact ⟨_, _, h⟩

set_option maxRecDepth 100000 in
set_option maxHeartbeats 8000000 in
theorem body_any {w : World} {c t b a pl pb : Nat} {bv : Value} {rd : Nat} {steps : Int} {ev : Value} {s0 : Rn} {Z : Nat → Prop} (h : RunM w c t b a pl bv (rd : Int) steps ev s0 Z) (few : s0.log.length ≤ 4000) (hcnt : s0.m.cnt < 9000) (ao : Option Addr) (cap : Nat) (p : List Mic) (hp : ∀ m ∈ p, m.x < 18446744073709551616) (hlen : p.length ≤ 20)
    (hpb : w.cell? ⟨pb, 0, none⟩ = some (.slice ao p.length cap)) (hM : Mics w ao p) (nM : ∀ x, ao = some x → 0 < p.length → ¬ Z x.block) :
    Calls Tryz.prog 25 #[.pointer (some ⟨c, 0, none⟩), .int .i64 (rd : Int), .pointer (some ⟨pb, 0, none⟩)] w fun e w' => Ran w c t b a pl bv (rd : Int) steps ev Z (body rd p (fun _ => 0) 0 s0) e w' := by
  have lpb := cell_lt hpb
  have hat0 : At w (w.alloc (.cells #[.int .u64 0, .int .u64 0, .int .u64 0, .int .u64 0] 65)) c t b a pl bv rd steps ev p s0 Z w.heap.size 0 0 (fun _ => 0) s0 Z :=
    ⟨h.same ((Keeps.refl _ w).alloc _), Mv.stay ((Keeps.refl _ w).alloc _), Whole.made _ _ _, fun hx => Nat.lt_irrefl _ (h.old _ hx), Nat.le_refl _, rfl, ⟨fun _ => by simp, by simp⟩, by omega, by omega⟩
  have hcap0 := Lib.hid (And.intro few hcnt)
  have hM' := Lib.hid hM
  have nM' := Lib.hid nM
  have hp' := Lib.hid hp
  have hat0' := Lib.hid hat0
  have hpl : (p.length : Int) ≤ 20 := by omega
  clear h few hcnt hp hM nM hat0
  go_enter Tryz.func25, Tryz.ntmps25
  go_wp2_with fail
  go_loopw [7, 16] (fun lv iv wr => ∃ (k last : Nat) (r : Nat → Nat) (s : Rn) (Z' : Nat → Prop), lv = .int .u64 (last : Int) ∧ iv = .int .i64 (k : Int) ∧ k ≤ p.length ∧ At w wr c t b a pl bv rd steps ev p s0 Z w.heap.size k last r s Z') (fun _ iv _ => p.length - (intOf iv).toNat)
  case atStart => exact ⟨0, 0, _, _, Z, rfl, rfl, Nat.zero_le _, hat0'.out⟩
  case round =>
    obtain ⟨k, last, r, s, Z', rfl, rfl, hk, hat0⟩ := hrel
    have hat := Lib.hid hat0
    clear hat0 hat0'
    by_cases hlt : k < p.length
    · have hlt' : (k : Int) < (p.length : Int) := by omega
      have hk0 : (0 : Int) ≤ (k : Int) := by omega
      obtain ⟨b2, off, hao, y0, y1, y2, y3, y4, y5⟩ := (hM'.out.keeps hat.out.mv.keeps fun x hx => nM'.out x hx (Nat.lt_of_le_of_lt (Nat.zero_le _) hlt)) k hlt
      subst hao
      have hxs := hp'.out _ (List.getElem_mem hlt)
      have hdr := drop_at hlt
      have hgd : p.getD k .zero = p[k] := by rw [List.getD, List.getElem?_eq_getElem hlt]; rfl
      rw [← hgd] at hxs
      generalize p.getD k .zero = m at y0 y1 y2 y3 y4 y5 hxs hdr
      obtain ⟨K, A, I, X, AD, TO⟩ := m
      have hmx := Lib.hid hxs
      have hdr := Lib.hid hdr
      simp only at y0 y1 y2 y3 y4 y5
      obtain ⟨W1, hW1⟩ : ∃ W, W = wr.alloc (.cells #[.int .i64 K, .int .i64 A, .int .i64 I, .int .u64 (X : Int), .bool AD, .int .i64 TO] 54) := ⟨_, rfl⟩
      have kk : Keeps (fun _ => False) wr W1 := by rw [hW1]; exact (Keeps.refl _ wr).alloc _
      have mB' := Lib.hid (show Whole W1 wr.heap.size 54 #[.int .i64 K, .int .i64 A, .int .i64 I, .int .u64 (X : Int), .bool AD, .int .i64 TO] by rw [hW1]; exact Whole.made _ _ _)
      have nB : Hid (¬ Z' wr.heap.size) := Lib.hid fun hx => Nat.lt_irrefl _ (hat.out.run.old _ hx)
      have hcap := Lib.hid (hat.out.cap hcap0.out)
      have k1 := Lib.hid kk
      have hW1' := Lib.hid hW1
      have lb2 : b2 < wr.heap.size := cell_lt y0
      have lR : w.heap.size < wr.heap.size := hat.out.regs.lt
      obtain ⟨qa, hqa⟩ : ∃ q, regOf A = q := ⟨_, rfl⟩
      obtain ⟨qt, hqt⟩ : ∃ q, regOf TO = q := ⟨_, rfl⟩
      have cA := Lib.hid (reg_any A)
      have cT := Lib.hid (reg_any TO)
      rw [hqa] at cA
      rw [hqt] at cT
      have hqa4 : qa < 4 := by rw [← hqa]; unfold regOf; omega
      have hqt4 : qt < 4 := by rw [← hqt]; unfold regOf; omega
      have ha0 : (0 : Int) ≤ (qa : Int) ∧ (qa : Int) < 4 := by omega
      have ht0 : (0 : Int) ≤ (qt : Int) ∧ (qt : Int) < 4 := by omega
      have ra : W1.cell? ⟨w.heap.size, qa, none⟩ = some (.int .u64 (r qa : Int)) := regs_at (hat.out.regs.keeps kk id) hqa4
      have ra0 : wr.cell? ⟨w.heap.size, qa, none⟩ = some (.int .u64 (r qa : Int)) := regs_at hat.out.regs hqa4
      have hqr := hat.out.small.1 qa
      have hls := hat.out.small.2
      obtain ⟨xv, hxe⟩ : ∃ x, (⟨K, A, I, X, AD, TO⟩ : Mic).val last = x := ⟨_, rfl⟩
      have hxv : xv < 18446744073709551616 := by rw [← hxe]; exact Mic.val_small hmx.out
      have hqa := Lib.hid hqa
      have hqt' := Lib.hid hqt
      have hqt := hqt4
      have hxe := Lib.hid hxe
      have hx64 : (X : Int) < 18446744073709551616 := by have h : X < 18446744073709551616 := hmx.out; omega
      have hl64 : (last : Int) < 18446744073709551616 := by omega
      clear kk hW1 hxs hgd
      by_cases c6 : K = 6
      · obtain rfl := c6
        by_cases cl : last = X
        · obtain rfl := cl
          by_cases cr : (rd : Int) < I
          · go_wp2_with fail
            go_ret
            rw [hat.out.same, hdr.out, body, if_pos ⟨rfl, rfl, cr⟩]
            exact ⟨_, rfl, rfl, fun ty x hx => (by cases hx), Z', hat.out.run.same ((Keeps.refl _ wr).alloc _), hat.out.mv.trans (Mv.stay ((Keeps.refl _ wr).alloc _))⟩
          · go_wp2_with fail
            go_roundw
            case rel => exact ⟨k + 1, last, r, s, Z', rfl, by go_num, by omega, hat.out.skip hdr.out (by rw [body, if_neg (fun h => cr h.2.2), if_pos (by simp)]) ((Keeps.refl _ wr).alloc _)⟩
            case measure => simp [intOf]; omega
        · have clb : ((last : Int) == (X : Int)) = false := by simp; omega
          go_wp2_with fail
          go_roundw
          case rel => exact ⟨k + 1, last, r, s, Z', rfl, by go_num, by omega, hat.out.skip hdr.out (by rw [body, if_neg (fun h => cl h.2.1), if_pos (by simp)]) ((Keeps.refl _ wr).alloc _)⟩
          case measure => simp [intOf]; omega
      · have c6b : (K == 6) = false := by simpa using c6
        have c1' := Lib.hid (show ¬ ((⟨K, A, I, X, AD, TO⟩ : Mic).kind = 6 ∧ last = (⟨K, A, I, X, AD, TO⟩ : Mic).x ∧ (rd : Int) < (⟨K, A, I, X, AD, TO⟩ : Mic).i) from fun h => c6 h.1)
        by_cases cK1 : K < 1
        · go_wp2_with fail
          go_roundw
          case rel => exact ⟨k + 1, last, r, s, Z', rfl, by go_num, by omega, hat.out.skip hdr.out (by rw [body, if_neg (c1'.out), if_pos (.inl cK1)]) ((Keeps.refl _ wr).alloc _)⟩
          case measure => simp [intOf]; omega
        · by_cases cK5 : 5 < K
          · go_wp2_with fail
            go_roundw
            case rel => exact ⟨k + 1, last, r, s, Z', rfl, by go_num, by omega, hat.out.skip hdr.out (by rw [body, if_neg (c1'.out), if_pos (.inr cK5)]) ((Keeps.refl _ wr).alloc _)⟩
            case measure => simp [intOf]; omega
          · have hKs : K = 1 ∨ K = 2 ∨ K = 3 ∨ K = 4 ∨ K = 5 := by omega
            clear cK1 cK5 c6 c6b
            cases AD with
            | true =>
              have hxw : IntKind.u64.wrap ((X : Int) + (last : Int)) = (xv : Int) := by rw [← hxe.out]; simp [Mic.val, IntKind.wrap_u64]
              rcases hKs with hK | hK | hK | hK | hK
              · subst hK
                have hc := Lib.hid (ctx_load (hat.out.run.same k1.out) hcap.out.1 hcap.out.2 (r qa) I hqr)
                go_wp2_with (go_at_call 26; first | (refine (cA.out _).mono ?_; rintro e w' ⟨rfl, rfl⟩) | (refine (cT.out _).mono ?_; rintro e w' ⟨rfl, rfl⟩))
                rw [← hW1'.out]
                refine hc.out.mono ?_
                rintro e W2 ⟨v, rfl, hA⟩
                have A2 := Lib.hid hA
                have hw2 : ∀ x, x < W1.heap.size → ¬ Z' x → ∀ j, W2.cell? ⟨x, j, none⟩ = W1.cell? ⟨x, j, none⟩ := fun x h1 h2 j => by obtain ⟨_, _, _, _, hm⟩ := hA; exact hm.keeps.cell (p := ⟨x, j, none⟩) h1 h2
                have f5 : W2.cell? ⟨wr.heap.size, 5, none⟩ = some (.int .i64 TO) := (hw2 _ mB'.out.lt nB.out 5).trans (mB'.out.at_ 5)
                have hRW := hat.out.regs.keeps k1.out id
                have gR : W2.cell? ⟨w.heap.size, qt, none⟩ = some (.int .u64 (r qt : Int)) := (hw2 _ hRW.lt hat.out.off qt).trans (regs_at hRW hqt)
                have fR : W2.frozen? ⟨w.heap.size, qt, none⟩ = false := by obtain ⟨_, _, _, _, hm⟩ := hA; exact (hRW.keeps hm.keeps hat.out.off).free qt
                have hvv : ErrV W2 v (ask s (.load (r qa) I)).1.err := hA.1
                have eqR := Lib.hid (show (⟨1, A, I, X, true, TO⟩ : Mic).req (r (regOf A)) ((⟨1, A, I, X, true, TO⟩ : Mic).val last) last = .load (r qa) I by rw [hqa.out]; rfl)
                clear hA hw2 hRW
                by_cases he : (ask s (.load (r qa) I)).1.err = .ok
                · rw [he] at hvv
                  obtain rfl : v = .nilIface := hvv
                  have he' := Lib.hid he
                  clear he
                  go_wp2_with (go_at_call 26; first | (refine (cA.out _).mono ?_; rintro e w' ⟨rfl, rfl⟩) | (refine (cT.out _).mono ?_; rintro e w' ⟨rfl, rfl⟩))
                  have hN := hat.out.next (x := (ask s (.load (r qa) I)).1.word) hdr.out (hmx.out) c1'.out (by simp) k1.out (by rw [eqR.out]; exact A2.out) (by rw [eqR.out]; exact he'.out) (by rw [eqR.out]; rfl)
                  obtain ⟨Z2, hN⟩ := hN
                  have hN' := Lib.hid hN
                  clear hN
                  go_roundw
                  case rel => exact ⟨k + 1, (ask s (.load (r qa) I)).1.word, _, _, Z2, by first | rfl | simp, by go_num, by omega, by have := hN'.out; rw [hqt'.out] at this; exact this⟩
                  case measure => simp [intOf]; omega
                · obtain ⟨ty, vx, rfl⟩ := hvv.iface he
                  have he' := Lib.hid he
                  clear he hvv
                  go_wp2_with (go_at_call 26; first | (refine (cA.out _).mono ?_; rintro e w' ⟨rfl, rfl⟩) | (refine (cT.out _).mono ?_; rintro e w' ⟨rfl, rfl⟩))
                  go_ret
                  have hF := hat.out.fail (x := (ask s (.load (r qa) I)).1.word) hdr.out c1'.out (by simp) k1.out (by rw [eqR.out]; exact A2.out) (by rw [eqR.out]; exact he'.out)
                  rw [hqt'.out] at hF
                  exact hF
              · subst hK
                have hc := Lib.hid (ctx_store (hat.out.run.same k1.out) hcap.out.1 hcap.out.2 (r qa) I xv ⟨hqr, hxv⟩)
                go_wp2_with (go_at_call 26; first | (refine (cA.out _).mono ?_; rintro e w' ⟨rfl, rfl⟩) | (refine (cT.out _).mono ?_; rintro e w' ⟨rfl, rfl⟩))
                rw [← hW1'.out]
                refine hc.out.mono ?_
                rintro e W2 ⟨v, rfl, hA⟩
                have A2 := Lib.hid hA
                have hw2 : ∀ x, x < W1.heap.size → ¬ Z' x → ∀ j, W2.cell? ⟨x, j, none⟩ = W1.cell? ⟨x, j, none⟩ := fun x h1 h2 j => by obtain ⟨_, _, _, _, hm⟩ := hA; exact hm.keeps.cell (p := ⟨x, j, none⟩) h1 h2
                have f5 : W2.cell? ⟨wr.heap.size, 5, none⟩ = some (.int .i64 TO) := (hw2 _ mB'.out.lt nB.out 5).trans (mB'.out.at_ 5)
                have hRW := hat.out.regs.keeps k1.out id
                have gR : W2.cell? ⟨w.heap.size, qt, none⟩ = some (.int .u64 (r qt : Int)) := (hw2 _ hRW.lt hat.out.off qt).trans (regs_at hRW hqt)
                have fR : W2.frozen? ⟨w.heap.size, qt, none⟩ = false := by obtain ⟨_, _, _, _, hm⟩ := hA; exact (hRW.keeps hm.keeps hat.out.off).free qt
                have hvv : ErrV W2 v (ask s (.store (r qa) I xv)).1.err := hA.1
                have eqR := Lib.hid (show (⟨2, A, I, X, true, TO⟩ : Mic).req (r (regOf A)) ((⟨2, A, I, X, true, TO⟩ : Mic).val last) last = .store (r qa) I xv by rw [hqa.out]; rw [hxe.out]; rfl)
                clear hA hw2 hRW
                by_cases he : (ask s (.store (r qa) I xv)).1.err = .ok
                · rw [he] at hvv
                  obtain rfl : v = .nilIface := hvv
                  have he' := Lib.hid he
                  clear he
                  go_wp2_with (go_at_call 26; first | (refine (cA.out _).mono ?_; rintro e w' ⟨rfl, rfl⟩) | (refine (cT.out _).mono ?_; rintro e w' ⟨rfl, rfl⟩))
                  have hN := hat.out.next (x := last) hdr.out (hmx.out) c1'.out (by simp) k1.out (by rw [eqR.out]; exact A2.out) (by rw [eqR.out]; exact he'.out) (by rw [eqR.out]; rfl)
                  obtain ⟨Z2, hN⟩ := hN
                  have hN' := Lib.hid hN
                  clear hN
                  go_roundw
                  case rel => exact ⟨k + 1, last, _, _, Z2, by first | rfl | simp, by go_num, by omega, by have := hN'.out; rw [hqt'.out] at this; exact this⟩
                  case measure => simp [intOf]; omega
                · obtain ⟨ty, vx, rfl⟩ := hvv.iface he
                  have he' := Lib.hid he
                  clear he hvv
                  go_wp2_with (go_at_call 26; first | (refine (cA.out _).mono ?_; rintro e w' ⟨rfl, rfl⟩) | (refine (cT.out _).mono ?_; rintro e w' ⟨rfl, rfl⟩))
                  go_ret
                  have hF := hat.out.fail (x := last) hdr.out c1'.out (by simp) k1.out (by rw [eqR.out]; exact A2.out) (by rw [eqR.out]; exact he'.out)
                  rw [hqt'.out] at hF
                  exact hF
              · subst hK
                have hc := Lib.hid (ctx_cas (hat.out.run.same k1.out) hcap.out.1 hcap.out.2 (r qa) I last xv ⟨hqr, hls, hxv⟩)
                go_wp2_with (go_at_call 26; first | (refine (cA.out _).mono ?_; rintro e w' ⟨rfl, rfl⟩) | (refine (cT.out _).mono ?_; rintro e w' ⟨rfl, rfl⟩))
                rw [← hW1'.out]
                refine hc.out.mono ?_
                rintro e W2 ⟨v, rfl, hA⟩
                have A2 := Lib.hid hA
                have hw2 : ∀ x, x < W1.heap.size → ¬ Z' x → ∀ j, W2.cell? ⟨x, j, none⟩ = W1.cell? ⟨x, j, none⟩ := fun x h1 h2 j => by obtain ⟨_, _, _, _, hm⟩ := hA; exact hm.keeps.cell (p := ⟨x, j, none⟩) h1 h2
                have f5 : W2.cell? ⟨wr.heap.size, 5, none⟩ = some (.int .i64 TO) := (hw2 _ mB'.out.lt nB.out 5).trans (mB'.out.at_ 5)
                have hRW := hat.out.regs.keeps k1.out id
                have gR : W2.cell? ⟨w.heap.size, qt, none⟩ = some (.int .u64 (r qt : Int)) := (hw2 _ hRW.lt hat.out.off qt).trans (regs_at hRW hqt)
                have fR : W2.frozen? ⟨w.heap.size, qt, none⟩ = false := by obtain ⟨_, _, _, _, hm⟩ := hA; exact (hRW.keeps hm.keeps hat.out.off).free qt
                have hvv : ErrV W2 v (ask s (.cas (r qa) I last xv)).1.err := hA.1
                have eqR := Lib.hid (show (⟨3, A, I, X, true, TO⟩ : Mic).req (r (regOf A)) ((⟨3, A, I, X, true, TO⟩ : Mic).val last) last = .cas (r qa) I last xv by rw [hqa.out]; rw [hxe.out]; rfl)
                clear hA hw2 hRW
                by_cases he : (ask s (.cas (r qa) I last xv)).1.err = .ok
                · cases hdn : (ask s (.cas (r qa) I last xv)).1.done with
                  | true =>
                    have hdn' := Lib.hid hdn
                    clear hdn
                    rw [he] at hvv
                    obtain rfl : v = .nilIface := hvv
                    have he' := Lib.hid he
                    clear he
                    go_wp2_with (go_at_call 26; first | (refine (cA.out _).mono ?_; rintro e w' ⟨rfl, rfl⟩) | (refine (cT.out _).mono ?_; rintro e w' ⟨rfl, rfl⟩))
                    have hN := hat.out.next (x := 1) hdr.out (hmx.out) c1'.out (by simp) k1.out (by rw [eqR.out]; exact A2.out) (by rw [eqR.out]; exact he'.out) (by rw [eqR.out]; simp [Mic.told, hdn'.out])
                    obtain ⟨Z2, hN⟩ := hN
                    have hN' := Lib.hid hN
                    clear hN
                    go_roundw
                    case rel => exact ⟨k + 1, 1, _, _, Z2, by first | rfl | simp, by go_num, by omega, by have := hN'.out; rw [hqt'.out] at this; exact this⟩
                    case measure => simp [intOf]; omega
                  | false =>
                    have hdn' := Lib.hid hdn
                    clear hdn
                    rw [he] at hvv
                    obtain rfl : v = .nilIface := hvv
                    have he' := Lib.hid he
                    clear he
                    go_wp2_with (go_at_call 26; first | (refine (cA.out _).mono ?_; rintro e w' ⟨rfl, rfl⟩) | (refine (cT.out _).mono ?_; rintro e w' ⟨rfl, rfl⟩))
                    have hN := hat.out.next (x := 0) hdr.out (hmx.out) c1'.out (by simp) k1.out (by rw [eqR.out]; exact A2.out) (by rw [eqR.out]; exact he'.out) (by rw [eqR.out]; simp [Mic.told, hdn'.out])
                    obtain ⟨Z2, hN⟩ := hN
                    have hN' := Lib.hid hN
                    clear hN
                    go_roundw
                    case rel => exact ⟨k + 1, 0, _, _, Z2, by first | rfl | simp, by go_num, by omega, by have := hN'.out; rw [hqt'.out] at this; exact this⟩
                    case measure => simp [intOf]; omega
                · cases hdn : (ask s (.cas (r qa) I last xv)).1.done with
                  | true =>
                    have hdn' := Lib.hid hdn
                    clear hdn
                    obtain ⟨ty, vx, rfl⟩ := hvv.iface he
                    have he' := Lib.hid he
                    clear he hvv
                    go_wp2_with (go_at_call 26; first | (refine (cA.out _).mono ?_; rintro e w' ⟨rfl, rfl⟩) | (refine (cT.out _).mono ?_; rintro e w' ⟨rfl, rfl⟩))
                    go_ret
                    have hF := hat.out.fail (x := 1) hdr.out c1'.out (by simp) k1.out (by rw [eqR.out]; exact A2.out) (by rw [eqR.out]; exact he'.out)
                    rw [hqt'.out] at hF
                    exact hF
                  | false =>
                    have hdn' := Lib.hid hdn
                    clear hdn
                    obtain ⟨ty, vx, rfl⟩ := hvv.iface he
                    have he' := Lib.hid he
                    clear he hvv
                    go_wp2_with (go_at_call 26; first | (refine (cA.out _).mono ?_; rintro e w' ⟨rfl, rfl⟩) | (refine (cT.out _).mono ?_; rintro e w' ⟨rfl, rfl⟩))
                    go_ret
                    have hF := hat.out.fail (x := 0) hdr.out c1'.out (by simp) k1.out (by rw [eqR.out]; exact A2.out) (by rw [eqR.out]; exact he'.out)
                    rw [hqt'.out] at hF
                    exact hF
              · subst hK
                have hc := Lib.hid (ctx_alloc (hat.out.run.same k1.out) hcap.out.1 hcap.out.2 I)
                go_wp2_with (go_at_call 26; first | (refine (cA.out _).mono ?_; rintro e w' ⟨rfl, rfl⟩) | (refine (cT.out _).mono ?_; rintro e w' ⟨rfl, rfl⟩))
                rw [← hW1'.out]
                refine hc.out.mono ?_
                rintro e W2 ⟨v, rfl, hA⟩
                have A2 := Lib.hid hA
                have hw2 : ∀ x, x < W1.heap.size → ¬ Z' x → ∀ j, W2.cell? ⟨x, j, none⟩ = W1.cell? ⟨x, j, none⟩ := fun x h1 h2 j => by obtain ⟨_, _, _, _, hm⟩ := hA; exact hm.keeps.cell (p := ⟨x, j, none⟩) h1 h2
                have f5 : W2.cell? ⟨wr.heap.size, 5, none⟩ = some (.int .i64 TO) := (hw2 _ mB'.out.lt nB.out 5).trans (mB'.out.at_ 5)
                have hRW := hat.out.regs.keeps k1.out id
                have gR : W2.cell? ⟨w.heap.size, qt, none⟩ = some (.int .u64 (r qt : Int)) := (hw2 _ hRW.lt hat.out.off qt).trans (regs_at hRW hqt)
                have fR : W2.frozen? ⟨w.heap.size, qt, none⟩ = false := by obtain ⟨_, _, _, _, hm⟩ := hA; exact (hRW.keeps hm.keeps hat.out.off).free qt
                have hvv : ErrV W2 v (ask s (.alloc I)).1.err := hA.1
                have eqR := Lib.hid (show (⟨4, A, I, X, true, TO⟩ : Mic).req (r (regOf A)) ((⟨4, A, I, X, true, TO⟩ : Mic).val last) last = .alloc I by rw [hqa.out]; rfl)
                clear hA hw2 hRW
                by_cases he : (ask s (.alloc I)).1.err = .ok
                · rw [he] at hvv
                  obtain rfl : v = .nilIface := hvv
                  have he' := Lib.hid he
                  clear he
                  go_wp2_with (go_at_call 26; first | (refine (cA.out _).mono ?_; rintro e w' ⟨rfl, rfl⟩) | (refine (cT.out _).mono ?_; rintro e w' ⟨rfl, rfl⟩))
                  have hN := hat.out.next (x := (ask s (.alloc I)).1.ref) hdr.out (hmx.out) c1'.out (by simp) k1.out (by rw [eqR.out]; exact A2.out) (by rw [eqR.out]; exact he'.out) (by rw [eqR.out]; rfl)
                  obtain ⟨Z2, hN⟩ := hN
                  have hN' := Lib.hid hN
                  clear hN
                  go_roundw
                  case rel => exact ⟨k + 1, (ask s (.alloc I)).1.ref, _, _, Z2, by first | rfl | simp, by go_num, by omega, by have := hN'.out; rw [hqt'.out] at this; exact this⟩
                  case measure => simp [intOf]; omega
                · obtain ⟨ty, vx, rfl⟩ := hvv.iface he
                  have he' := Lib.hid he
                  clear he hvv
                  go_wp2_with (go_at_call 26; first | (refine (cA.out _).mono ?_; rintro e w' ⟨rfl, rfl⟩) | (refine (cT.out _).mono ?_; rintro e w' ⟨rfl, rfl⟩))
                  go_ret
                  have hF := hat.out.fail (x := (ask s (.alloc I)).1.ref) hdr.out c1'.out (by simp) k1.out (by rw [eqR.out]; exact A2.out) (by rw [eqR.out]; exact he'.out)
                  rw [hqt'.out] at hF
                  exact hF
              · subst hK
                have hc := Lib.hid (ctx_free (hat.out.run.same k1.out) hcap.out.1 hcap.out.2 (r qa) hqr)
                go_wp2_with (go_at_call 26; first | (refine (cA.out _).mono ?_; rintro e w' ⟨rfl, rfl⟩) | (refine (cT.out _).mono ?_; rintro e w' ⟨rfl, rfl⟩))
                rw [← hW1'.out]
                refine hc.out.mono ?_
                rintro e W2 ⟨v, rfl, hA⟩
                have A2 := Lib.hid hA
                have hw2 : ∀ x, x < W1.heap.size → ¬ Z' x → ∀ j, W2.cell? ⟨x, j, none⟩ = W1.cell? ⟨x, j, none⟩ := fun x h1 h2 j => by obtain ⟨_, _, _, _, hm⟩ := hA; exact hm.keeps.cell (p := ⟨x, j, none⟩) h1 h2
                have f5 : W2.cell? ⟨wr.heap.size, 5, none⟩ = some (.int .i64 TO) := (hw2 _ mB'.out.lt nB.out 5).trans (mB'.out.at_ 5)
                have hRW := hat.out.regs.keeps k1.out id
                have gR : W2.cell? ⟨w.heap.size, qt, none⟩ = some (.int .u64 (r qt : Int)) := (hw2 _ hRW.lt hat.out.off qt).trans (regs_at hRW hqt)
                have fR : W2.frozen? ⟨w.heap.size, qt, none⟩ = false := by obtain ⟨_, _, _, _, hm⟩ := hA; exact (hRW.keeps hm.keeps hat.out.off).free qt
                have hvv : ErrV W2 v (ask s (.free (r qa))).1.err := hA.1
                have eqR := Lib.hid (show (⟨5, A, I, X, true, TO⟩ : Mic).req (r (regOf A)) ((⟨5, A, I, X, true, TO⟩ : Mic).val last) last = .free (r qa) by rw [hqa.out]; rfl)
                clear hA hw2 hRW
                by_cases he : (ask s (.free (r qa))).1.err = .ok
                · rw [he] at hvv
                  obtain rfl : v = .nilIface := hvv
                  have he' := Lib.hid he
                  clear he
                  go_wp2_with (go_at_call 26; first | (refine (cA.out _).mono ?_; rintro e w' ⟨rfl, rfl⟩) | (refine (cT.out _).mono ?_; rintro e w' ⟨rfl, rfl⟩))
                  have hN := hat.out.next (x := last) hdr.out (hmx.out) c1'.out (by simp) k1.out (by rw [eqR.out]; exact A2.out) (by rw [eqR.out]; exact he'.out) (by rw [eqR.out]; rfl)
                  obtain ⟨Z2, hN⟩ := hN
                  have hN' := Lib.hid hN
                  clear hN
                  go_roundw
                  case rel => exact ⟨k + 1, last, _, _, Z2, by first | rfl | simp, by go_num, by omega, by have := hN'.out; rw [hqt'.out] at this; exact this⟩
                  case measure => simp [intOf]; omega
                · obtain ⟨ty, vx, rfl⟩ := hvv.iface he
                  have he' := Lib.hid he
                  clear he hvv
                  go_wp2_with (go_at_call 26; first | (refine (cA.out _).mono ?_; rintro e w' ⟨rfl, rfl⟩) | (refine (cT.out _).mono ?_; rintro e w' ⟨rfl, rfl⟩))
                  go_ret
                  have hF := hat.out.fail (x := last) hdr.out c1'.out (by simp) k1.out (by rw [eqR.out]; exact A2.out) (by rw [eqR.out]; exact he'.out)
                  rw [hqt'.out] at hF
                  exact hF
            | false =>
              obtain rfl : X = xv := by rw [← hxe.out]; simp [Mic.val]
              rcases hKs with hK | hK | hK | hK | hK
              · subst hK
                have hc := Lib.hid (ctx_load (hat.out.run.same k1.out) hcap.out.1 hcap.out.2 (r qa) I hqr)
                go_wp2_with (go_at_call 26; first | (refine (cA.out _).mono ?_; rintro e w' ⟨rfl, rfl⟩) | (refine (cT.out _).mono ?_; rintro e w' ⟨rfl, rfl⟩))
                rw [← hW1'.out]
                refine hc.out.mono ?_
                rintro e W2 ⟨v, rfl, hA⟩
                have A2 := Lib.hid hA
                have hw2 : ∀ x, x < W1.heap.size → ¬ Z' x → ∀ j, W2.cell? ⟨x, j, none⟩ = W1.cell? ⟨x, j, none⟩ := fun x h1 h2 j => by obtain ⟨_, _, _, _, hm⟩ := hA; exact hm.keeps.cell (p := ⟨x, j, none⟩) h1 h2
                have f5 : W2.cell? ⟨wr.heap.size, 5, none⟩ = some (.int .i64 TO) := (hw2 _ mB'.out.lt nB.out 5).trans (mB'.out.at_ 5)
                have hRW := hat.out.regs.keeps k1.out id
                have gR : W2.cell? ⟨w.heap.size, qt, none⟩ = some (.int .u64 (r qt : Int)) := (hw2 _ hRW.lt hat.out.off qt).trans (regs_at hRW hqt)
                have fR : W2.frozen? ⟨w.heap.size, qt, none⟩ = false := by obtain ⟨_, _, _, _, hm⟩ := hA; exact (hRW.keeps hm.keeps hat.out.off).free qt
                have hvv : ErrV W2 v (ask s (.load (r qa) I)).1.err := hA.1
                have eqR := Lib.hid (show (⟨1, A, I, X, false, TO⟩ : Mic).req (r (regOf A)) ((⟨1, A, I, X, false, TO⟩ : Mic).val last) last = .load (r qa) I by rw [hqa.out]; rfl)
                clear hA hw2 hRW
                by_cases he : (ask s (.load (r qa) I)).1.err = .ok
                · rw [he] at hvv
                  obtain rfl : v = .nilIface := hvv
                  have he' := Lib.hid he
                  clear he
                  go_wp2_with (go_at_call 26; first | (refine (cA.out _).mono ?_; rintro e w' ⟨rfl, rfl⟩) | (refine (cT.out _).mono ?_; rintro e w' ⟨rfl, rfl⟩))
                  have hN := hat.out.next (x := (ask s (.load (r qa) I)).1.word) hdr.out (hmx.out) c1'.out (by simp) k1.out (by rw [eqR.out]; exact A2.out) (by rw [eqR.out]; exact he'.out) (by rw [eqR.out]; rfl)
                  obtain ⟨Z2, hN⟩ := hN
                  have hN' := Lib.hid hN
                  clear hN
                  go_roundw
                  case rel => exact ⟨k + 1, (ask s (.load (r qa) I)).1.word, _, _, Z2, by first | rfl | simp, by go_num, by omega, by have := hN'.out; rw [hqt'.out] at this; exact this⟩
                  case measure => simp [intOf]; omega
                · obtain ⟨ty, vx, rfl⟩ := hvv.iface he
                  have he' := Lib.hid he
                  clear he hvv
                  go_wp2_with (go_at_call 26; first | (refine (cA.out _).mono ?_; rintro e w' ⟨rfl, rfl⟩) | (refine (cT.out _).mono ?_; rintro e w' ⟨rfl, rfl⟩))
                  go_ret
                  have hF := hat.out.fail (x := (ask s (.load (r qa) I)).1.word) hdr.out c1'.out (by simp) k1.out (by rw [eqR.out]; exact A2.out) (by rw [eqR.out]; exact he'.out)
                  rw [hqt'.out] at hF
                  exact hF
              · subst hK
                have hc := Lib.hid (ctx_store (hat.out.run.same k1.out) hcap.out.1 hcap.out.2 (r qa) I X ⟨hqr, hmx.out⟩)
                go_wp2_with (go_at_call 26; first | (refine (cA.out _).mono ?_; rintro e w' ⟨rfl, rfl⟩) | (refine (cT.out _).mono ?_; rintro e w' ⟨rfl, rfl⟩))
                rw [← hW1'.out]
                refine hc.out.mono ?_
                rintro e W2 ⟨v, rfl, hA⟩
                have A2 := Lib.hid hA
                have hw2 : ∀ x, x < W1.heap.size → ¬ Z' x → ∀ j, W2.cell? ⟨x, j, none⟩ = W1.cell? ⟨x, j, none⟩ := fun x h1 h2 j => by obtain ⟨_, _, _, _, hm⟩ := hA; exact hm.keeps.cell (p := ⟨x, j, none⟩) h1 h2
                have f5 : W2.cell? ⟨wr.heap.size, 5, none⟩ = some (.int .i64 TO) := (hw2 _ mB'.out.lt nB.out 5).trans (mB'.out.at_ 5)
                have hRW := hat.out.regs.keeps k1.out id
                have gR : W2.cell? ⟨w.heap.size, qt, none⟩ = some (.int .u64 (r qt : Int)) := (hw2 _ hRW.lt hat.out.off qt).trans (regs_at hRW hqt)
                have fR : W2.frozen? ⟨w.heap.size, qt, none⟩ = false := by obtain ⟨_, _, _, _, hm⟩ := hA; exact (hRW.keeps hm.keeps hat.out.off).free qt
                have hvv : ErrV W2 v (ask s (.store (r qa) I X)).1.err := hA.1
                have eqR := Lib.hid (show (⟨2, A, I, X, false, TO⟩ : Mic).req (r (regOf A)) ((⟨2, A, I, X, false, TO⟩ : Mic).val last) last = .store (r qa) I X by rw [hqa.out]; rw [hxe.out]; rfl)
                clear hA hw2 hRW
                by_cases he : (ask s (.store (r qa) I X)).1.err = .ok
                · rw [he] at hvv
                  obtain rfl : v = .nilIface := hvv
                  have he' := Lib.hid he
                  clear he
                  go_wp2_with (go_at_call 26; first | (refine (cA.out _).mono ?_; rintro e w' ⟨rfl, rfl⟩) | (refine (cT.out _).mono ?_; rintro e w' ⟨rfl, rfl⟩))
                  have hN := hat.out.next (x := last) hdr.out (hmx.out) c1'.out (by simp) k1.out (by rw [eqR.out]; exact A2.out) (by rw [eqR.out]; exact he'.out) (by rw [eqR.out]; rfl)
                  obtain ⟨Z2, hN⟩ := hN
                  have hN' := Lib.hid hN
                  clear hN
                  go_roundw
                  case rel => exact ⟨k + 1, last, _, _, Z2, by first | rfl | simp, by go_num, by omega, by have := hN'.out; rw [hqt'.out] at this; exact this⟩
                  case measure => simp [intOf]; omega
                · obtain ⟨ty, vx, rfl⟩ := hvv.iface he
                  have he' := Lib.hid he
                  clear he hvv
                  go_wp2_with (go_at_call 26; first | (refine (cA.out _).mono ?_; rintro e w' ⟨rfl, rfl⟩) | (refine (cT.out _).mono ?_; rintro e w' ⟨rfl, rfl⟩))
                  go_ret
                  have hF := hat.out.fail (x := last) hdr.out c1'.out (by simp) k1.out (by rw [eqR.out]; exact A2.out) (by rw [eqR.out]; exact he'.out)
                  rw [hqt'.out] at hF
                  exact hF
              · subst hK
                have hc := Lib.hid (ctx_cas (hat.out.run.same k1.out) hcap.out.1 hcap.out.2 (r qa) I last X ⟨hqr, hls, hmx.out⟩)
                go_wp2_with (go_at_call 26; first | (refine (cA.out _).mono ?_; rintro e w' ⟨rfl, rfl⟩) | (refine (cT.out _).mono ?_; rintro e w' ⟨rfl, rfl⟩))
                rw [← hW1'.out]
                refine hc.out.mono ?_
                rintro e W2 ⟨v, rfl, hA⟩
                have A2 := Lib.hid hA
                have hw2 : ∀ x, x < W1.heap.size → ¬ Z' x → ∀ j, W2.cell? ⟨x, j, none⟩ = W1.cell? ⟨x, j, none⟩ := fun x h1 h2 j => by obtain ⟨_, _, _, _, hm⟩ := hA; exact hm.keeps.cell (p := ⟨x, j, none⟩) h1 h2
                have f5 : W2.cell? ⟨wr.heap.size, 5, none⟩ = some (.int .i64 TO) := (hw2 _ mB'.out.lt nB.out 5).trans (mB'.out.at_ 5)
                have hRW := hat.out.regs.keeps k1.out id
                have gR : W2.cell? ⟨w.heap.size, qt, none⟩ = some (.int .u64 (r qt : Int)) := (hw2 _ hRW.lt hat.out.off qt).trans (regs_at hRW hqt)
                have fR : W2.frozen? ⟨w.heap.size, qt, none⟩ = false := by obtain ⟨_, _, _, _, hm⟩ := hA; exact (hRW.keeps hm.keeps hat.out.off).free qt
                have hvv : ErrV W2 v (ask s (.cas (r qa) I last X)).1.err := hA.1
                have eqR := Lib.hid (show (⟨3, A, I, X, false, TO⟩ : Mic).req (r (regOf A)) ((⟨3, A, I, X, false, TO⟩ : Mic).val last) last = .cas (r qa) I last X by rw [hqa.out]; rw [hxe.out]; rfl)
                clear hA hw2 hRW
                by_cases he : (ask s (.cas (r qa) I last X)).1.err = .ok
                · cases hdn : (ask s (.cas (r qa) I last X)).1.done with
                  | true =>
                    have hdn' := Lib.hid hdn
                    clear hdn
                    rw [he] at hvv
                    obtain rfl : v = .nilIface := hvv
                    have he' := Lib.hid he
                    clear he
                    go_wp2_with (go_at_call 26; first | (refine (cA.out _).mono ?_; rintro e w' ⟨rfl, rfl⟩) | (refine (cT.out _).mono ?_; rintro e w' ⟨rfl, rfl⟩))
                    have hN := hat.out.next (x := 1) hdr.out (hmx.out) c1'.out (by simp) k1.out (by rw [eqR.out]; exact A2.out) (by rw [eqR.out]; exact he'.out) (by rw [eqR.out]; simp [Mic.told, hdn'.out])
                    obtain ⟨Z2, hN⟩ := hN
                    have hN' := Lib.hid hN
                    clear hN
                    go_roundw
                    case rel => exact ⟨k + 1, 1, _, _, Z2, by first | rfl | simp, by go_num, by omega, by have := hN'.out; rw [hqt'.out] at this; exact this⟩
                    case measure => simp [intOf]; omega
                  | false =>
                    have hdn' := Lib.hid hdn
                    clear hdn
                    rw [he] at hvv
                    obtain rfl : v = .nilIface := hvv
                    have he' := Lib.hid he
                    clear he
                    go_wp2_with (go_at_call 26; first | (refine (cA.out _).mono ?_; rintro e w' ⟨rfl, rfl⟩) | (refine (cT.out _).mono ?_; rintro e w' ⟨rfl, rfl⟩))
                    have hN := hat.out.next (x := 0) hdr.out (hmx.out) c1'.out (by simp) k1.out (by rw [eqR.out]; exact A2.out) (by rw [eqR.out]; exact he'.out) (by rw [eqR.out]; simp [Mic.told, hdn'.out])
                    obtain ⟨Z2, hN⟩ := hN
                    have hN' := Lib.hid hN
                    clear hN
                    go_roundw
                    case rel => exact ⟨k + 1, 0, _, _, Z2, by first | rfl | simp, by go_num, by omega, by have := hN'.out; rw [hqt'.out] at this; exact this⟩
                    case measure => simp [intOf]; omega
                · cases hdn : (ask s (.cas (r qa) I last X)).1.done with
                  | true =>
                    have hdn' := Lib.hid hdn
                    clear hdn
                    obtain ⟨ty, vx, rfl⟩ := hvv.iface he
                    have he' := Lib.hid he
                    clear he hvv
                    go_wp2_with (go_at_call 26; first | (refine (cA.out _).mono ?_; rintro e w' ⟨rfl, rfl⟩) | (refine (cT.out _).mono ?_; rintro e w' ⟨rfl, rfl⟩))
                    go_ret
                    have hF := hat.out.fail (x := 1) hdr.out c1'.out (by simp) k1.out (by rw [eqR.out]; exact A2.out) (by rw [eqR.out]; exact he'.out)
                    rw [hqt'.out] at hF
                    exact hF
                  | false =>
                    have hdn' := Lib.hid hdn
                    clear hdn
                    obtain ⟨ty, vx, rfl⟩ := hvv.iface he
                    have he' := Lib.hid he
                    clear he hvv
                    go_wp2_with (go_at_call 26; first | (refine (cA.out _).mono ?_; rintro e w' ⟨rfl, rfl⟩) | (refine (cT.out _).mono ?_; rintro e w' ⟨rfl, rfl⟩))
                    go_ret
                    have hF := hat.out.fail (x := 0) hdr.out c1'.out (by simp) k1.out (by rw [eqR.out]; exact A2.out) (by rw [eqR.out]; exact he'.out)
                    rw [hqt'.out] at hF
                    exact hF
              · subst hK
                have hc := Lib.hid (ctx_alloc (hat.out.run.same k1.out) hcap.out.1 hcap.out.2 I)
                go_wp2_with (go_at_call 26; first | (refine (cA.out _).mono ?_; rintro e w' ⟨rfl, rfl⟩) | (refine (cT.out _).mono ?_; rintro e w' ⟨rfl, rfl⟩))
                rw [← hW1'.out]
                refine hc.out.mono ?_
                rintro e W2 ⟨v, rfl, hA⟩
                have A2 := Lib.hid hA
                have hw2 : ∀ x, x < W1.heap.size → ¬ Z' x → ∀ j, W2.cell? ⟨x, j, none⟩ = W1.cell? ⟨x, j, none⟩ := fun x h1 h2 j => by obtain ⟨_, _, _, _, hm⟩ := hA; exact hm.keeps.cell (p := ⟨x, j, none⟩) h1 h2
                have f5 : W2.cell? ⟨wr.heap.size, 5, none⟩ = some (.int .i64 TO) := (hw2 _ mB'.out.lt nB.out 5).trans (mB'.out.at_ 5)
                have hRW := hat.out.regs.keeps k1.out id
                have gR : W2.cell? ⟨w.heap.size, qt, none⟩ = some (.int .u64 (r qt : Int)) := (hw2 _ hRW.lt hat.out.off qt).trans (regs_at hRW hqt)
                have fR : W2.frozen? ⟨w.heap.size, qt, none⟩ = false := by obtain ⟨_, _, _, _, hm⟩ := hA; exact (hRW.keeps hm.keeps hat.out.off).free qt
                have hvv : ErrV W2 v (ask s (.alloc I)).1.err := hA.1
                have eqR := Lib.hid (show (⟨4, A, I, X, false, TO⟩ : Mic).req (r (regOf A)) ((⟨4, A, I, X, false, TO⟩ : Mic).val last) last = .alloc I by rw [hqa.out]; rfl)
                clear hA hw2 hRW
                by_cases he : (ask s (.alloc I)).1.err = .ok
                · rw [he] at hvv
                  obtain rfl : v = .nilIface := hvv
                  have he' := Lib.hid he
                  clear he
                  go_wp2_with (go_at_call 26; first | (refine (cA.out _).mono ?_; rintro e w' ⟨rfl, rfl⟩) | (refine (cT.out _).mono ?_; rintro e w' ⟨rfl, rfl⟩))
                  have hN := hat.out.next (x := (ask s (.alloc I)).1.ref) hdr.out (hmx.out) c1'.out (by simp) k1.out (by rw [eqR.out]; exact A2.out) (by rw [eqR.out]; exact he'.out) (by rw [eqR.out]; rfl)
                  obtain ⟨Z2, hN⟩ := hN
                  have hN' := Lib.hid hN
                  clear hN
                  go_roundw
                  case rel => exact ⟨k + 1, (ask s (.alloc I)).1.ref, _, _, Z2, by first | rfl | simp, by go_num, by omega, by have := hN'.out; rw [hqt'.out] at this; exact this⟩
                  case measure => simp [intOf]; omega
                · obtain ⟨ty, vx, rfl⟩ := hvv.iface he
                  have he' := Lib.hid he
                  clear he hvv
                  go_wp2_with (go_at_call 26; first | (refine (cA.out _).mono ?_; rintro e w' ⟨rfl, rfl⟩) | (refine (cT.out _).mono ?_; rintro e w' ⟨rfl, rfl⟩))
                  go_ret
                  have hF := hat.out.fail (x := (ask s (.alloc I)).1.ref) hdr.out c1'.out (by simp) k1.out (by rw [eqR.out]; exact A2.out) (by rw [eqR.out]; exact he'.out)
                  rw [hqt'.out] at hF
                  exact hF
              · subst hK
                have hc := Lib.hid (ctx_free (hat.out.run.same k1.out) hcap.out.1 hcap.out.2 (r qa) hqr)
                go_wp2_with (go_at_call 26; first | (refine (cA.out _).mono ?_; rintro e w' ⟨rfl, rfl⟩) | (refine (cT.out _).mono ?_; rintro e w' ⟨rfl, rfl⟩))
                rw [← hW1'.out]
                refine hc.out.mono ?_
                rintro e W2 ⟨v, rfl, hA⟩
                have A2 := Lib.hid hA
                have hw2 : ∀ x, x < W1.heap.size → ¬ Z' x → ∀ j, W2.cell? ⟨x, j, none⟩ = W1.cell? ⟨x, j, none⟩ := fun x h1 h2 j => by obtain ⟨_, _, _, _, hm⟩ := hA; exact hm.keeps.cell (p := ⟨x, j, none⟩) h1 h2
                have f5 : W2.cell? ⟨wr.heap.size, 5, none⟩ = some (.int .i64 TO) := (hw2 _ mB'.out.lt nB.out 5).trans (mB'.out.at_ 5)
                have hRW := hat.out.regs.keeps k1.out id
                have gR : W2.cell? ⟨w.heap.size, qt, none⟩ = some (.int .u64 (r qt : Int)) := (hw2 _ hRW.lt hat.out.off qt).trans (regs_at hRW hqt)
                have fR : W2.frozen? ⟨w.heap.size, qt, none⟩ = false := by obtain ⟨_, _, _, _, hm⟩ := hA; exact (hRW.keeps hm.keeps hat.out.off).free qt
                have hvv : ErrV W2 v (ask s (.free (r qa))).1.err := hA.1
                have eqR := Lib.hid (show (⟨5, A, I, X, false, TO⟩ : Mic).req (r (regOf A)) ((⟨5, A, I, X, false, TO⟩ : Mic).val last) last = .free (r qa) by rw [hqa.out]; rfl)
                clear hA hw2 hRW
                by_cases he : (ask s (.free (r qa))).1.err = .ok
                · rw [he] at hvv
                  obtain rfl : v = .nilIface := hvv
                  have he' := Lib.hid he
                  clear he
                  go_wp2_with (go_at_call 26; first | (refine (cA.out _).mono ?_; rintro e w' ⟨rfl, rfl⟩) | (refine (cT.out _).mono ?_; rintro e w' ⟨rfl, rfl⟩))
                  have hN := hat.out.next (x := last) hdr.out (hmx.out) c1'.out (by simp) k1.out (by rw [eqR.out]; exact A2.out) (by rw [eqR.out]; exact he'.out) (by rw [eqR.out]; rfl)
                  obtain ⟨Z2, hN⟩ := hN
                  have hN' := Lib.hid hN
                  clear hN
                  go_roundw
                  case rel => exact ⟨k + 1, last, _, _, Z2, by first | rfl | simp, by go_num, by omega, by have := hN'.out; rw [hqt'.out] at this; exact this⟩
                  case measure => simp [intOf]; omega
                · obtain ⟨ty, vx, rfl⟩ := hvv.iface he
                  have he' := Lib.hid he
                  clear he hvv
                  go_wp2_with (go_at_call 26; first | (refine (cA.out _).mono ?_; rintro e w' ⟨rfl, rfl⟩) | (refine (cT.out _).mono ?_; rintro e w' ⟨rfl, rfl⟩))
                  go_ret
                  have hF := hat.out.fail (x := last) hdr.out c1'.out (by simp) k1.out (by rw [eqR.out]; exact A2.out) (by rw [eqR.out]; exact he'.out)
                  rw [hqt'.out] at hF
                  exact hF
    · obtain rfl : k = p.length := by omega
      go_wp2_with fail
      go_ret
      rw [hat.out.same, List.drop_length, body]
      exact ⟨_, rfl, rfl, fun ty x hx => (by cases hx), Z', hat.out.run, hat.out.mv⟩
end Go.Proofs.YtipogkgolbmgkaaGreatDoor
