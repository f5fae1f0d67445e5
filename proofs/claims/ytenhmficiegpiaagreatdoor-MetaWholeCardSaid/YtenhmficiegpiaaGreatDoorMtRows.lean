/-
  concordlaw06.answer by contract: what a call answers, with its number.
  Rows of answers of one's own; an append of an answer; calls in memory; answer by contract, of any call.
-/
import Derived.Test.YtenhmficiegpiaaGreatDoorMtLock
import Derived.StillTailTactics
import Derived.Maps.AppendAt

namespace Go.Proofs.YtenhmficiegpiaaGreatDoor
open Go.RowKit Go.Extern.Stop Go.Stop Go.Extern

/-- All that a tree may answer. -/
def Pr.All {α : Type} (P : α → Prop) : Pr α → Prop
  | .ret a => P a
  | .acc _ k => ∀ e, (k e).All P
theorem Pr.All.run {α : Type} {P : α → Prop} : ∀ {T : Pr α} {s : Rn} {a : α} {s' : Rn}, T.All P → T.run s = (some a, s') → P a
  | .ret b, s, a, s', h, e => by simp only [Pr.run, Prod.mk.injEq, Option.some.injEq] at e; rw [← e.1]; exact h
  | .acc q k, s, a, s', h, e => by
    simp only [Pr.run] at e
    split at e
    · exact Pr.All.run (h _) e
    · simp at e

def Fair (a : Ans) : Prop := a.err ≠ 11
theorem tickT_fair (k : Nat) : ∀ n, (tickT k n).All Fair
  | 0 => by simp [tickT, Pr.All, Fair]
  | n + 1 => by
    intro e f
    show Pr.All Fair (if f.done then _ else tickT k n)
    split
    · simp [Pr.All, Fair]
    · exact tickT_fair k n
theorem readL_fair (c : Nat) : ∀ n w, (readL c n w).All Fair
  | 0, w => by simp [readL, Pr.All, Fair]
  | n + 1, w => by
    unfold readL
    split
    · simp [Pr.All, Fair]
    · intro e f
      show Pr.All Fair (if f.word = w then _ else readL c n f.word)
      split
      · simp [Pr.All, Fair]
      · exact readL_fair c n _
theorem turnT_fair (c ver : Nat) (g : Nat → Option Nat) : ∀ n, (turnT c ver g n).All Fair
  | 0 => by simp [turnT, Pr.All, Fair]
  | n + 1 => by
    intro e
    show Pr.All Fair (if chg e.word = true ∨ verN e.word ≠ ver then _ else _)
    split
    · simp [Pr.All, Fair]
    · split
      · simp [Pr.All, Fair]
      · intro f
        show Pr.All Fair (if f.done then _ else turnT c ver g n)
        split
        · simp [Pr.All, Fair]
        · exact turnT_fair c ver g n
theorem callT_fair (k c : Nat) (x : Cal) : (callT k c x).All Fair := by
  unfold callT
  split
  · intro e; simp [Pr.All, Fair]
  split
  · exact tickT_fair k 8
  split
  · exact fun e => readL_fair c 8 e.word
  split
  · exact turnT_fair c _ _ 8
  split
  · intro e
    show Pr.All Fair (if chg e.word then _ else _)
    split
    · intro f g; simp [Pr.All, Fair]
    · simp [Pr.All, Fair]
  split
  · intro e
    show Pr.All Fair (if chg e.word then _ else _)
    split
    · intro f; simp [Pr.All, Fair]
    · simp [Pr.All, Fair]
  split
  · exact turnT_fair c _ _ 8
  · simp [Pr.All, Fair]

theorem ans_all {P : Ans → Prop} {T : Pr Ans} (h : T.All P) (h0 : P ⟨11, 0, 0⟩) (s : Rn) : P (ansOf (T.run s).1) := by
  generalize hr : T.run s = r
  obtain ⟨x, s'⟩ := r
  cases x with
  | none => exact h0
  | some a => exact h.run hr
def NoVal (a : Ans) : Prop := a.value = 0
def Bare (a : Ans) : Prop := a.value = 0 ∧ a.n = 0
theorem nowT_noval (k : Nat) : (nowT k).All NoVal := fun _ => rfl
theorem tickT_noval (k : Nat) : ∀ n, (tickT k n).All NoVal
  | 0 => rfl
  | n + 1 => by
    intro e f
    show Pr.All NoVal (if f.done then _ else tickT k n)
    split
    · rfl
    · exact tickT_noval k n
theorem turnT_bare (c ver : Nat) (g : Nat → Option Nat) : ∀ n, (turnT c ver g n).All Bare
  | 0 => ⟨rfl, rfl⟩
  | n + 1 => by
    intro e
    show Pr.All Bare (if chg e.word = true ∨ verN e.word ≠ ver then _ else _)
    split
    · exact ⟨rfl, rfl⟩
    · split
      · exact ⟨rfl, rfl⟩
      · intro f
        show Pr.All Bare (if f.done then _ else turnT c ver g n)
        split
        · exact ⟨rfl, rfl⟩
        · exact turnT_bare c ver g n
theorem releaseT_bare (c : Nat) : (releaseT c).All Bare := by
  intro e
  show Pr.All Bare (if chg e.word then _ else _)
  split
  · intro f; exact ⟨rfl, rfl⟩
  · exact ⟨rfl, rfl⟩
theorem beq_num (e k : Nat) : ((e : Int) == (k : Int)) = decide (e = k) := by
  by_cases h : e = k
  · simp [h]
  · have : ¬ ((e : Int) = (k : Int)) := by omega
    simp [h, this]

/-- A call's value. -/
def calV (x : Cal) : Value := .agg #[.int .i64 (x.kind : Int), .int .i64 0, .int .i64 (x.n : Int), .int .i64 (x.own : Int), .int .u64 (x.value : Int)]
/-- An answer's value. -/
def ansV (a : Ans) : Value := .agg #[.int .i64 (a.err : Int), .int .u64 (a.value : Int), .int .i64 a.n]

/-- What answer tells. -/
def AnsTo (w : World) (c t b a pl : Nat) (bv : Value) (rd st : Int) (ev : Value) (Z : Nat → Prop) (R0 : Option Ans × Rn) (e : Ending) (w' : World) : Prop :=
  e = .returned (.tuple #[ansV (ansOf R0.1), .bool (decide ((ansOf R0.1).err = 11))]) ∧ Ended w c t b a pl bv rd st ev Z R0 w'

theorem Ended.back {α : Type} {w W1 W2 W3 : World} {c t b a pl : Nat} {bv : Value} {rd st : Int} {ev : Value} {Z S : Nat → Prop} {R0 : Option α × Rn} (h : Ended W1 c t b a pl bv rd st ev Z R0 W2) (k1 : Keeps (fun _ => False) w W1) (k : Keeps S W2 W3) (hS : ∀ x, S x → x < W1.heap.size ∧ ¬ Z x ∧ w.heap.size ≤ x) (hg : etB < w.heap.size) : Ended w c t b a pl bv rd st ev Z R0 W3 := by
  obtain ⟨⟨Z2, h1, h2⟩, h3⟩ := h
  have hn : ∀ x, S x → ¬ Z2 x := fun x hx => h2.apart (hS x hx).1 (hS x hx).2.1
  have hm := (Mv.stay (X := Z) k1).trans h2
  exact ⟨⟨Z2, h1.far k (fun x hx hs => hn x hs hx) (fun hs => by have := (hS _ hs).2.2; omega), ⟨hm.keeps.trans k fun x hx hs => absurd hx (Nat.not_lt.2 (hS x hs).2.2), hm.new⟩⟩, h3⟩
theorem three_cells {V : World} {r : Nat} {ty : TypeId} {x y z : Value} (h : Whole V r ty #[x, y, z]) :
    (V.cell? ⟨r, 0, none⟩ = some x ∧ V.cell? ⟨r, 1, none⟩ = some y ∧ V.cell? ⟨r, 2, none⟩ = some z) ∧ V.frozen? ⟨r, 0, none⟩ = false ∧ V.frozen? ⟨r, 1, none⟩ = false ∧ V.frozen? ⟨r, 2, none⟩ = false :=
  ⟨⟨h.at_ 0, h.at_ 1, h.at_ 2⟩, h.free 0, h.free 1, h.free 2⟩
/-- A result's block is filled. -/
def put3 (W : World) (n : Nat) (x0 x1 x2 : Value) : World := ((W.setCell ⟨n, 0, none⟩ x0).setCell ⟨n, 1, none⟩ x1).setCell ⟨n, 2, none⟩ x2
theorem put3_keeps (W : World) (n : Nat) (x0 x1 x2 : Value) : Keeps (fun x => x = n) W (put3 W n x0 x1 x2) :=
  (((Keeps.refl (fun x => x = n) W).setCell (p := ⟨n, 0, none⟩) (fun _ => rfl) _).setCell (p := ⟨n, 1, none⟩) (fun _ => rfl) _).setCell (p := ⟨n, 2, none⟩) (fun _ => rfl) _

section
variable {wr : World} {c t b a pl : Nat} {bv : Value} {rd st : Int} {ev : Value} {Z : Nat → Prop} {s : Rn}

set_option maxRecDepth 100000 in
set_option maxHeartbeats 2000000 in
theorem answer1_any (k cell : Nat) (n own value : Nat) (h : RunM wr c t b a pl bv rd st ev s Z) (hc : Cap s) (hg : (nowT k).Good s) :
    Calls Tryz.prog 29 #[.pointer (some ⟨c, 0, none⟩), calV ⟨1, n, own, value⟩, .int .u64 (k : Int), .int .u64 (cell : Int)] wr fun e w' => AnsTo wr c t b a pl bv rd st ev Z ((nowT k).run s) e w' := by
  obtain ⟨W1, hW1⟩ : ∃ V, V = ((wr.alloc (.cells #[.int .i64 1, .int .i64 0, .int .i64 (n : Int), .int .i64 (own : Int), .int .u64 (value : Int)] 31)).alloc (.cells #[.int .i64 0, .int .u64 0, .int .i64 0] 38)).alloc (.cells #[.int .i64 0, .int .u64 0, .int .i64 0] 38) := ⟨_, rfl⟩
  have k1 : Keeps (fun _ => False) wr W1 := by rw [hW1]; exact (((Keeps.refl _ wr).alloc _).alloc _).alloc _
  have mC : Whole W1 wr.heap.size 31 #[.int .i64 1, .int .i64 0, .int .i64 (n : Int), .int .i64 (own : Int), .int .u64 (value : Int)] := by rw [hW1]; exact ((made_at _ rfl _ _).alloc _).alloc _
  have mR : Whole W1 (wr.heap.size + 1) 38 #[.int .i64 0, .int .u64 0, .int .i64 0] := by rw [hW1]; exact (made_at _ (by simp) _ _).alloc _
  have mA : Whole W1 (wr.heap.size + 1 + 1) 38 #[.int .i64 0, .int .u64 0, .int .i64 0] := by rw [hW1]; exact made_at _ (by simp) _ _
  have old := h.old
  have cl := Lib.hid (now_any k (Cont.begin (h.same k1) hc hg))
  have K1 := Lib.hid k1
  have R1 := Lib.hid mR
  have A1 := Lib.hid mA
  have gl := Lib.hid h.gl
  have nR : Hid (¬ Z (wr.heap.size + 1)) := Lib.hid fun hz => by have := old _ hz; omega
  have nA : Hid (¬ Z (wr.heap.size + 1 + 1)) := Lib.hid fun hz => by have := old _ hz; omega
  have hW1' := Lib.hid hW1
  have hnv := Lib.hid (ans_all (nowT_noval k) rfl s)
  clear h hc hg k1 mC mR mA hW1 old
  generalize (nowT k).run s = R0 at *
  unfold calV AnsTo ansV
  generalize (ansOf R0.1).err = er at *
  go_enter Tryz.func29, Tryz.ntmps29
  go_wp2_with fail
  rw [← hW1'.out]
  refine cl.out.mono ?_
  rintro e W2 ⟨v, rfl, hv, hE⟩
  have E2 := Lib.hid hE
  have V2 := Lib.hid hv
  obtain ⟨⟨Z2, _, hm⟩, _⟩ := hE
  have mR := R1.out.keeps hm.keeps nR.out
  have mA := A1.out.keeps hm.keeps nA.out
  clear hv cl hm
  obtain ⟨⟨a0, a1, a2⟩, f0, f1, f2⟩ := three_cells mA
  obtain ⟨W3, hW3⟩ : ∃ V, V = (W2).setCell ⟨wr.heap.size + 1 + 1, 2, none⟩ (.int .i64 (ansOf R0.1).n) := ⟨_, rfl⟩
  have k3 : Keeps (fun x => x = wr.heap.size + 1 + 1) W2 W3 := by rw [hW3]; exact (Keeps.refl (fun x => x = wr.heap.size + 1 + 1) W2).setCell (p := ⟨wr.heap.size + 1 + 1, 2, none⟩) (fun _ => rfl) _
  have mA3 : Whole W3 (wr.heap.size + 1 + 1) 38 #[.int .i64 0, .int .u64 0, .int .i64 (ansOf R0.1).n] := by rw [hW3]; exact (mA).set_ 2 (.int .i64 (ansOf R0.1).n)
  have mR3 := mR.keeps k3 (by omega)
  have hW3' := Lib.hid hW3
  have A3 := Lib.hid mA3
  have R3 := Lib.hid mR3
  have K3 := Lib.hid k3
  clear mA mR hW3 k3 mA3 mR3
  go_wp2_with fail
  rw [← hW3'.out]
  refine (no_ev V2.out _).mono ?_
  rintro e W4 ⟨rfl, hK⟩
  have mA4 := A3.out.keeps hK id
  have mR4 := R3.out.keeps hK id
  clear a0 a1 a2 f0 f1 f2
  obtain ⟨⟨a0, a1, a2⟩, f0, f1, f2⟩ := three_cells mA4
  obtain ⟨⟨b0, b1, b2⟩, g0, g1, g2⟩ := three_cells mR4
  have K4 := Lib.hid hK
  obtain ⟨W5, hW5⟩ : ∃ V, V = W4.setCell ⟨wr.heap.size + 1 + 1, 0, none⟩ (.int .i64 (er : Int)) := ⟨_, rfl⟩
  have k5 : Keeps (fun x => x = wr.heap.size + 1 + 1) W4 W5 := by rw [hW5]; exact (Keeps.refl (fun x => x = wr.heap.size + 1 + 1) W4).setCell (p := ⟨wr.heap.size + 1 + 1, 0, none⟩) (fun _ => rfl) _
  have mA5 := mA4.set_ 0 (.int .i64 (er : Int))
  rw [← hW5] at mA5
  have mR5 := mR4.keeps k5 (by omega)
  have hW5' := Lib.hid hW5
  have K5 := Lib.hid k5
  clear hK mA4 mR4 hW5 k5
  go_wp2_with fail
  rw [← hW5'.out]
  clear a0 a1 a2 f0 f1 f2 b0 b1 b2 g0 g1 g2
  obtain ⟨⟨a0, a1, a2⟩, f0, f1, f2⟩ := three_cells mA5
  obtain ⟨⟨b0, b1, b2⟩, g0, g1, g2⟩ := three_cells mR5
  clear mA5 mR5
  go_region
  go_wp2_with fail
  refine bodyPost_ret (v := .tuple #[.agg #[.int .i64 (er : Int), .int .u64 0, .int .i64 (ansOf R0.1).n], .bool ((er : Int) == 11)]) (by simp [results, Tryz.results29, go_sem, b0, b1, b2]) rfl ?_
  have k6 := put3_keeps W5 (wr.heap.size + 1) (.int .i64 (er : Int)) (.int .u64 0) (.int .i64 (ansOf R0.1).n)
  have hb : ((er : Int) == 11) = decide (er = 11) := beq_num er 11
  refine ⟨by rw [hb]; rw [show (ansOf R0.1).value = 0 from hnv.out]; rfl, (E2.out.back (S := fun x => x = wr.heap.size + 1 ∨ x = wr.heap.size + 1 + 1) K1.out ((((((K3.out.mono fun _ _ h => .inr h).trans K4.out fun _ _ h => h.elim).trans K5.out fun _ _ h => .inr h).trans k6 fun _ _ h => .inl h).drew)) ?_ gl.out)⟩
  rintro x (rfl | rfl)
  · exact ⟨R1.out.lt, nR.out, by omega⟩
  · exact ⟨A1.out.lt, nA.out, by omega⟩

set_option maxRecDepth 100000 in
set_option maxHeartbeats 2000000 in
theorem answer2_any (k cell : Nat) (n own value : Nat) (h : RunM wr c t b a pl bv rd st ev s Z) (hc : Cap s) (hg : (tickT k 8).Good s) :
    Calls Tryz.prog 29 #[.pointer (some ⟨c, 0, none⟩), calV ⟨2, n, own, value⟩, .int .u64 (k : Int), .int .u64 (cell : Int)] wr fun e w' => AnsTo wr c t b a pl bv rd st ev Z ((tickT k 8).run s) e w' := by
  obtain ⟨W1, hW1⟩ : ∃ V, V = ((wr.alloc (.cells #[.int .i64 2, .int .i64 0, .int .i64 (n : Int), .int .i64 (own : Int), .int .u64 (value : Int)] 31)).alloc (.cells #[.int .i64 0, .int .u64 0, .int .i64 0] 38)).alloc (.cells #[.int .i64 0, .int .u64 0, .int .i64 0] 38) := ⟨_, rfl⟩
  have k1 : Keeps (fun _ => False) wr W1 := by rw [hW1]; exact (((Keeps.refl _ wr).alloc _).alloc _).alloc _
  have mC : Whole W1 wr.heap.size 31 #[.int .i64 2, .int .i64 0, .int .i64 (n : Int), .int .i64 (own : Int), .int .u64 (value : Int)] := by rw [hW1]; exact ((made_at _ rfl _ _).alloc _).alloc _
  have mR : Whole W1 (wr.heap.size + 1) 38 #[.int .i64 0, .int .u64 0, .int .i64 0] := by rw [hW1]; exact (made_at _ (by simp) _ _).alloc _
  have mA : Whole W1 (wr.heap.size + 1 + 1) 38 #[.int .i64 0, .int .u64 0, .int .i64 0] := by rw [hW1]; exact made_at _ (by simp) _ _
  have old := h.old
  have cl := Lib.hid (tick_any k (h.same k1) hc hg)
  have K1 := Lib.hid k1
  have R1 := Lib.hid mR
  have A1 := Lib.hid mA
  have gl := Lib.hid h.gl
  have nR : Hid (¬ Z (wr.heap.size + 1)) := Lib.hid fun hz => by have := old _ hz; omega
  have nA : Hid (¬ Z (wr.heap.size + 1 + 1)) := Lib.hid fun hz => by have := old _ hz; omega
  have hW1' := Lib.hid hW1
  have hnv := Lib.hid (ans_all (tickT_noval k 8) rfl s)
  clear h hc hg k1 mC mR mA hW1 old
  generalize (tickT k 8).run s = R0 at *
  unfold calV AnsTo ansV
  generalize (ansOf R0.1).err = er at *
  go_enter Tryz.func29, Tryz.ntmps29
  go_wp2_with fail
  rw [← hW1'.out]
  refine cl.out.mono ?_
  rintro e W2 ⟨v, rfl, hv, hE⟩
  have E2 := Lib.hid hE
  have V2 := Lib.hid hv
  obtain ⟨⟨Z2, _, hm⟩, _⟩ := hE
  have mR := R1.out.keeps hm.keeps nR.out
  have mA := A1.out.keeps hm.keeps nA.out
  clear hv cl hm
  obtain ⟨⟨a0, a1, a2⟩, f0, f1, f2⟩ := three_cells mA
  obtain ⟨W3, hW3⟩ : ∃ V, V = (W2).setCell ⟨wr.heap.size + 1 + 1, 2, none⟩ (.int .i64 (ansOf R0.1).n) := ⟨_, rfl⟩
  have k3 : Keeps (fun x => x = wr.heap.size + 1 + 1) W2 W3 := by rw [hW3]; exact (Keeps.refl (fun x => x = wr.heap.size + 1 + 1) W2).setCell (p := ⟨wr.heap.size + 1 + 1, 2, none⟩) (fun _ => rfl) _
  have mA3 : Whole W3 (wr.heap.size + 1 + 1) 38 #[.int .i64 0, .int .u64 0, .int .i64 (ansOf R0.1).n] := by rw [hW3]; exact (mA).set_ 2 (.int .i64 (ansOf R0.1).n)
  have mR3 := mR.keeps k3 (by omega)
  have hW3' := Lib.hid hW3
  have A3 := Lib.hid mA3
  have R3 := Lib.hid mR3
  have K3 := Lib.hid k3
  clear mA mR hW3 k3 mA3 mR3
  go_wp2_with fail
  rw [← hW3'.out]
  refine (no_ev V2.out _).mono ?_
  rintro e W4 ⟨rfl, hK⟩
  have mA4 := A3.out.keeps hK id
  have mR4 := R3.out.keeps hK id
  clear a0 a1 a2 f0 f1 f2
  obtain ⟨⟨a0, a1, a2⟩, f0, f1, f2⟩ := three_cells mA4
  obtain ⟨⟨b0, b1, b2⟩, g0, g1, g2⟩ := three_cells mR4
  have K4 := Lib.hid hK
  obtain ⟨W5, hW5⟩ : ∃ V, V = W4.setCell ⟨wr.heap.size + 1 + 1, 0, none⟩ (.int .i64 (er : Int)) := ⟨_, rfl⟩
  have k5 : Keeps (fun x => x = wr.heap.size + 1 + 1) W4 W5 := by rw [hW5]; exact (Keeps.refl (fun x => x = wr.heap.size + 1 + 1) W4).setCell (p := ⟨wr.heap.size + 1 + 1, 0, none⟩) (fun _ => rfl) _
  have mA5 := mA4.set_ 0 (.int .i64 (er : Int))
  rw [← hW5] at mA5
  have mR5 := mR4.keeps k5 (by omega)
  have hW5' := Lib.hid hW5
  have K5 := Lib.hid k5
  clear hK mA4 mR4 hW5 k5
  go_wp2_with fail
  rw [← hW5'.out]
  clear a0 a1 a2 f0 f1 f2 b0 b1 b2 g0 g1 g2
  obtain ⟨⟨a0, a1, a2⟩, f0, f1, f2⟩ := three_cells mA5
  obtain ⟨⟨b0, b1, b2⟩, g0, g1, g2⟩ := three_cells mR5
  clear mA5 mR5
  go_region
  go_wp2_with fail
  refine bodyPost_ret (v := .tuple #[.agg #[.int .i64 (er : Int), .int .u64 0, .int .i64 (ansOf R0.1).n], .bool ((er : Int) == 11)]) (by simp [results, Tryz.results29, go_sem, b0, b1, b2]) rfl ?_
  have k6 := put3_keeps W5 (wr.heap.size + 1) (.int .i64 (er : Int)) (.int .u64 0) (.int .i64 (ansOf R0.1).n)
  have hb : ((er : Int) == 11) = decide (er = 11) := beq_num er 11
  refine ⟨by rw [hb]; rw [show (ansOf R0.1).value = 0 from hnv.out]; rfl, (E2.out.back (S := fun x => x = wr.heap.size + 1 ∨ x = wr.heap.size + 1 + 1) K1.out ((((((K3.out.mono fun _ _ h => .inr h).trans K4.out fun _ _ h => h.elim).trans K5.out fun _ _ h => .inr h).trans k6 fun _ _ h => .inl h).drew)) ?_ gl.out)⟩
  rintro x (rfl | rfl)
  · exact ⟨R1.out.lt, nR.out, by omega⟩
  · exact ⟨A1.out.lt, nA.out, by omega⟩

set_option maxRecDepth 100000 in
set_option maxHeartbeats 2000000 in
theorem answer3_any (k cell : Nat) (n own value : Nat) (h : RunM wr c t b a pl bv rd st ev s Z) (hc : Cap s) (hg : (readT cell).Good s) :
    Calls Tryz.prog 29 #[.pointer (some ⟨c, 0, none⟩), calV ⟨3, n, own, value⟩, .int .u64 (k : Int), .int .u64 (cell : Int)] wr fun e w' => AnsTo wr c t b a pl bv rd st ev Z ((readT cell).run s) e w' := by
  obtain ⟨W1, hW1⟩ : ∃ V, V = ((wr.alloc (.cells #[.int .i64 3, .int .i64 0, .int .i64 (n : Int), .int .i64 (own : Int), .int .u64 (value : Int)] 31)).alloc (.cells #[.int .i64 0, .int .u64 0, .int .i64 0] 38)).alloc (.cells #[.int .i64 0, .int .u64 0, .int .i64 0] 38) := ⟨_, rfl⟩
  have k1 : Keeps (fun _ => False) wr W1 := by rw [hW1]; exact (((Keeps.refl _ wr).alloc _).alloc _).alloc _
  have mC : Whole W1 wr.heap.size 31 #[.int .i64 3, .int .i64 0, .int .i64 (n : Int), .int .i64 (own : Int), .int .u64 (value : Int)] := by rw [hW1]; exact ((made_at _ rfl _ _).alloc _).alloc _
  have mR : Whole W1 (wr.heap.size + 1) 38 #[.int .i64 0, .int .u64 0, .int .i64 0] := by rw [hW1]; exact (made_at _ (by simp) _ _).alloc _
  have mA : Whole W1 (wr.heap.size + 1 + 1) 38 #[.int .i64 0, .int .u64 0, .int .i64 0] := by rw [hW1]; exact made_at _ (by simp) _ _
  have old := h.old
  have cl := Lib.hid (read_any cell (h.same k1) hc hg)
  have K1 := Lib.hid k1
  have R1 := Lib.hid mR
  have A1 := Lib.hid mA
  have gl := Lib.hid h.gl
  have nR : Hid (¬ Z (wr.heap.size + 1)) := Lib.hid fun hz => by have := old _ hz; omega
  have nA : Hid (¬ Z (wr.heap.size + 1 + 1)) := Lib.hid fun hz => by have := old _ hz; omega
  have hW1' := Lib.hid hW1
  clear h hc hg k1 mC mR mA hW1 old
  generalize (readT cell).run s = R0 at *
  unfold calV AnsTo ansV
  generalize (ansOf R0.1).err = er at *
  go_enter Tryz.func29, Tryz.ntmps29
  go_wp2_with fail
  rw [← hW1'.out]
  refine cl.out.mono ?_
  rintro e W2 ⟨v, rfl, hv, hE⟩
  have E2 := Lib.hid hE
  have V2 := Lib.hid hv
  obtain ⟨⟨Z2, _, hm⟩, _⟩ := hE
  have mR := R1.out.keeps hm.keeps nR.out
  have mA := A1.out.keeps hm.keeps nA.out
  clear hv cl hm
  obtain ⟨⟨a0, a1, a2⟩, f0, f1, f2⟩ := three_cells mA
  obtain ⟨W3, hW3⟩ : ∃ V, V = ((W2).setCell ⟨wr.heap.size + 1 + 1, 1, none⟩ (.int .u64 ((ansOf R0.1).value : Int))).setCell ⟨wr.heap.size + 1 + 1, 2, none⟩ (.int .i64 (ansOf R0.1).n) := ⟨_, rfl⟩
  have k3 : Keeps (fun x => x = wr.heap.size + 1 + 1) W2 W3 := by rw [hW3]; exact ((Keeps.refl (fun x => x = wr.heap.size + 1 + 1) W2).setCell (p := ⟨wr.heap.size + 1 + 1, 1, none⟩) (fun _ => rfl) _).setCell (p := ⟨wr.heap.size + 1 + 1, 2, none⟩) (fun _ => rfl) _
  have mA3 : Whole W3 (wr.heap.size + 1 + 1) 38 #[.int .i64 0, .int .u64 ((ansOf R0.1).value : Int), .int .i64 (ansOf R0.1).n] := by rw [hW3]; exact ((mA).set_ 1 (.int .u64 ((ansOf R0.1).value : Int))).set_ 2 (.int .i64 (ansOf R0.1).n)
  have mR3 := mR.keeps k3 (by omega)
  have hW3' := Lib.hid hW3
  have A3 := Lib.hid mA3
  have R3 := Lib.hid mR3
  have K3 := Lib.hid k3
  clear mA mR hW3 k3 mA3 mR3
  go_wp2_with fail
  rw [← hW3'.out]
  refine (no_ev V2.out _).mono ?_
  rintro e W4 ⟨rfl, hK⟩
  have mA4 := A3.out.keeps hK id
  have mR4 := R3.out.keeps hK id
  clear a0 a1 a2 f0 f1 f2
  obtain ⟨⟨a0, a1, a2⟩, f0, f1, f2⟩ := three_cells mA4
  obtain ⟨⟨b0, b1, b2⟩, g0, g1, g2⟩ := three_cells mR4
  have K4 := Lib.hid hK
  obtain ⟨W5, hW5⟩ : ∃ V, V = W4.setCell ⟨wr.heap.size + 1 + 1, 0, none⟩ (.int .i64 (er : Int)) := ⟨_, rfl⟩
  have k5 : Keeps (fun x => x = wr.heap.size + 1 + 1) W4 W5 := by rw [hW5]; exact (Keeps.refl (fun x => x = wr.heap.size + 1 + 1) W4).setCell (p := ⟨wr.heap.size + 1 + 1, 0, none⟩) (fun _ => rfl) _
  have mA5 := mA4.set_ 0 (.int .i64 (er : Int))
  rw [← hW5] at mA5
  have mR5 := mR4.keeps k5 (by omega)
  have hW5' := Lib.hid hW5
  have K5 := Lib.hid k5
  clear hK mA4 mR4 hW5 k5
  go_wp2_with fail
  rw [← hW5'.out]
  clear a0 a1 a2 f0 f1 f2 b0 b1 b2 g0 g1 g2
  obtain ⟨⟨a0, a1, a2⟩, f0, f1, f2⟩ := three_cells mA5
  obtain ⟨⟨b0, b1, b2⟩, g0, g1, g2⟩ := three_cells mR5
  clear mA5 mR5
  go_region
  go_wp2_with fail
  refine bodyPost_ret (v := .tuple #[.agg #[.int .i64 (er : Int), .int .u64 ((ansOf R0.1).value : Int), .int .i64 (ansOf R0.1).n], .bool ((er : Int) == 11)]) (by simp [results, Tryz.results29, go_sem, b0, b1, b2]) rfl ?_
  have k6 := put3_keeps W5 (wr.heap.size + 1) (.int .i64 (er : Int)) (.int .u64 ((ansOf R0.1).value : Int)) (.int .i64 (ansOf R0.1).n)
  have hb : ((er : Int) == 11) = decide (er = 11) := beq_num er 11
  refine ⟨by rw [hb]; skip, (E2.out.back (S := fun x => x = wr.heap.size + 1 ∨ x = wr.heap.size + 1 + 1) K1.out ((((((K3.out.mono fun _ _ h => .inr h).trans K4.out fun _ _ h => h.elim).trans K5.out fun _ _ h => .inr h).trans k6 fun _ _ h => .inl h).drew)) ?_ gl.out)⟩
  rintro x (rfl | rfl)
  · exact ⟨R1.out.lt, nR.out, by omega⟩
  · exact ⟨A1.out.lt, nA.out, by omega⟩

set_option maxRecDepth 100000 in
set_option maxHeartbeats 2000000 in
theorem answer5_any (k cell : Nat) (n own value : Nat) (hn : n ≤ 281474976710655) (hown : own ≤ 255) (h : RunM wr c t b a pl bv rd st ev s Z) (hc : Cap s) (hg : (lockT cell n own).Good s) :
    Calls Tryz.prog 29 #[.pointer (some ⟨c, 0, none⟩), calV ⟨5, n, own, value⟩, .int .u64 (k : Int), .int .u64 (cell : Int)] wr fun e w' => AnsTo wr c t b a pl bv rd st ev Z ((lockT cell n own).run s) e w' := by
  obtain ⟨W1, hW1⟩ : ∃ V, V = ((wr.alloc (.cells #[.int .i64 5, .int .i64 0, .int .i64 (n : Int), .int .i64 (own : Int), .int .u64 (value : Int)] 31)).alloc (.cells #[.int .i64 0, .int .u64 0, .int .i64 0] 38)).alloc (.cells #[.int .i64 0, .int .u64 0, .int .i64 0] 38) := ⟨_, rfl⟩
  have k1 : Keeps (fun _ => False) wr W1 := by rw [hW1]; exact (((Keeps.refl _ wr).alloc _).alloc _).alloc _
  have mC : Whole W1 wr.heap.size 31 #[.int .i64 5, .int .i64 0, .int .i64 (n : Int), .int .i64 (own : Int), .int .u64 (value : Int)] := by rw [hW1]; exact ((made_at _ rfl _ _).alloc _).alloc _
  have mR : Whole W1 (wr.heap.size + 1) 38 #[.int .i64 0, .int .u64 0, .int .i64 0] := by rw [hW1]; exact (made_at _ (by simp) _ _).alloc _
  have mA : Whole W1 (wr.heap.size + 1 + 1) 38 #[.int .i64 0, .int .u64 0, .int .i64 0] := by rw [hW1]; exact made_at _ (by simp) _ _
  have old := h.old
  have cl := Lib.hid (lock_any cell n own hn hown (Cont.begin (h.same k1) hc hg))
  have K1 := Lib.hid k1
  have R1 := Lib.hid mR
  have A1 := Lib.hid mA
  have gl := Lib.hid h.gl
  have nR : Hid (¬ Z (wr.heap.size + 1)) := Lib.hid fun hz => by have := old _ hz; omega
  have nA : Hid (¬ Z (wr.heap.size + 1 + 1)) := Lib.hid fun hz => by have := old _ hz; omega
  have hW1' := Lib.hid hW1
  have hnv := Lib.hid (show Bare (ansOf ((lockT cell n own).run s).1) from ans_all (P := Bare) (turnT_bare cell n (lockG own) 8) ⟨rfl, rfl⟩ s)
  clear h hc hg k1 mC mR mA hW1 old
  generalize (lockT cell n own).run s = R0 at *
  unfold calV AnsTo ansV
  generalize (ansOf R0.1).err = er at *
  go_enter Tryz.func29, Tryz.ntmps29
  go_wp2_with fail
  rw [← hW1'.out]
  refine cl.out.mono ?_
  rintro e W2 ⟨v, rfl, hv, hE⟩
  have E2 := Lib.hid hE
  have V2 := Lib.hid hv
  obtain ⟨⟨Z2, _, hm⟩, _⟩ := hE
  have mR := R1.out.keeps hm.keeps nR.out
  have mA := A1.out.keeps hm.keeps nA.out
  clear hv cl hm
  obtain ⟨⟨a0, a1, a2⟩, f0, f1, f2⟩ := three_cells mA
  obtain ⟨W3, hW3⟩ : ∃ V, V = W2 := ⟨_, rfl⟩
  have k3 : Keeps (fun x => x = wr.heap.size + 1 + 1) W2 W3 := by rw [hW3]; exact Keeps.refl (fun x => x = wr.heap.size + 1 + 1) W2
  have mA3 : Whole W3 (wr.heap.size + 1 + 1) 38 #[.int .i64 0, .int .u64 0, .int .i64 0] := by rw [hW3]; exact mA
  have mR3 := mR.keeps k3 (by omega)
  have hW3' := Lib.hid hW3
  have A3 := Lib.hid mA3
  have R3 := Lib.hid mR3
  have K3 := Lib.hid k3
  clear mA mR hW3 k3 mA3 mR3
  go_wp2_with fail
  have eW3 := hW3'.out
  subst eW3
  refine (no_ev V2.out _).mono ?_
  rintro e W4 ⟨rfl, hK⟩
  have mA4 := A3.out.keeps hK id
  have mR4 := R3.out.keeps hK id
  clear a0 a1 a2 f0 f1 f2
  obtain ⟨⟨a0, a1, a2⟩, f0, f1, f2⟩ := three_cells mA4
  obtain ⟨⟨b0, b1, b2⟩, g0, g1, g2⟩ := three_cells mR4
  have K4 := Lib.hid hK
  obtain ⟨W5, hW5⟩ : ∃ V, V = W4.setCell ⟨wr.heap.size + 1 + 1, 0, none⟩ (.int .i64 (er : Int)) := ⟨_, rfl⟩
  have k5 : Keeps (fun x => x = wr.heap.size + 1 + 1) W4 W5 := by rw [hW5]; exact (Keeps.refl (fun x => x = wr.heap.size + 1 + 1) W4).setCell (p := ⟨wr.heap.size + 1 + 1, 0, none⟩) (fun _ => rfl) _
  have mA5 := mA4.set_ 0 (.int .i64 (er : Int))
  rw [← hW5] at mA5
  have mR5 := mR4.keeps k5 (by omega)
  have hW5' := Lib.hid hW5
  have K5 := Lib.hid k5
  clear hK mA4 mR4 hW5 k5
  go_wp2_with fail
  rw [← hW5'.out]
  clear a0 a1 a2 f0 f1 f2 b0 b1 b2 g0 g1 g2
  obtain ⟨⟨a0, a1, a2⟩, f0, f1, f2⟩ := three_cells mA5
  obtain ⟨⟨b0, b1, b2⟩, g0, g1, g2⟩ := three_cells mR5
  clear mA5 mR5
  go_region
  go_wp2_with fail
  refine bodyPost_ret (v := .tuple #[.agg #[.int .i64 (er : Int), .int .u64 0, .int .i64 0], .bool ((er : Int) == 11)]) (by simp [results, Tryz.results29, go_sem, b0, b1, b2]) rfl ?_
  have k6 := put3_keeps W5 (wr.heap.size + 1) (.int .i64 (er : Int)) (.int .u64 0) (.int .i64 0)
  have hb : ((er : Int) == 11) = decide (er = 11) := beq_num er 11
  refine ⟨by rw [hb]; rw [show (ansOf R0.1).value = 0 from hnv.out.1, show (ansOf R0.1).n = 0 from hnv.out.2]; rfl, (E2.out.back (S := fun x => x = wr.heap.size + 1 ∨ x = wr.heap.size + 1 + 1) K1.out ((((((K3.out.mono fun _ _ h => .inr h).trans K4.out fun _ _ h => h.elim).trans K5.out fun _ _ h => .inr h).trans k6 fun _ _ h => .inl h).drew)) ?_ gl.out)⟩
  rintro x (rfl | rfl)
  · exact ⟨R1.out.lt, nR.out, by omega⟩
  · exact ⟨A1.out.lt, nA.out, by omega⟩

set_option maxRecDepth 100000 in
set_option maxHeartbeats 2000000 in
theorem answer6_any (k cell : Nat) (n own value : Nat) (hn : n ≤ 281474976710655) (h : RunM wr c t b a pl bv rd st ev s Z) (hc : Cap s) (hg : (commitT cell value n).Good s) :
    Calls Tryz.prog 29 #[.pointer (some ⟨c, 0, none⟩), calV ⟨6, n, own, value⟩, .int .u64 (k : Int), .int .u64 (cell : Int)] wr fun e w' => AnsTo wr c t b a pl bv rd st ev Z ((commitT cell value n).run s) e w' := by
  obtain ⟨W1, hW1⟩ : ∃ V, V = ((wr.alloc (.cells #[.int .i64 6, .int .i64 0, .int .i64 (n : Int), .int .i64 (own : Int), .int .u64 (value : Int)] 31)).alloc (.cells #[.int .i64 0, .int .u64 0, .int .i64 0] 38)).alloc (.cells #[.int .i64 0, .int .u64 0, .int .i64 0] 38) := ⟨_, rfl⟩
  have k1 : Keeps (fun _ => False) wr W1 := by rw [hW1]; exact (((Keeps.refl _ wr).alloc _).alloc _).alloc _
  have mC : Whole W1 wr.heap.size 31 #[.int .i64 6, .int .i64 0, .int .i64 (n : Int), .int .i64 (own : Int), .int .u64 (value : Int)] := by rw [hW1]; exact ((made_at _ rfl _ _).alloc _).alloc _
  have mR : Whole W1 (wr.heap.size + 1) 38 #[.int .i64 0, .int .u64 0, .int .i64 0] := by rw [hW1]; exact (made_at _ (by simp) _ _).alloc _
  have mA : Whole W1 (wr.heap.size + 1 + 1) 38 #[.int .i64 0, .int .u64 0, .int .i64 0] := by rw [hW1]; exact made_at _ (by simp) _ _
  have old := h.old
  have cl := Lib.hid (commit_any cell value n hn (Cont.begin (h.same k1) hc hg))
  have K1 := Lib.hid k1
  have R1 := Lib.hid mR
  have A1 := Lib.hid mA
  have gl := Lib.hid h.gl
  have nR : Hid (¬ Z (wr.heap.size + 1)) := Lib.hid fun hz => by have := old _ hz; omega
  have nA : Hid (¬ Z (wr.heap.size + 1 + 1)) := Lib.hid fun hz => by have := old _ hz; omega
  have hW1' := Lib.hid hW1
  clear h hc hg k1 mC mR mA hW1 old
  generalize (commitT cell value n).run s = R0 at *
  unfold calV AnsTo ansV
  generalize (ansOf R0.1).err = er at *
  go_enter Tryz.func29, Tryz.ntmps29
  go_wp2_with fail
  rw [← hW1'.out]
  refine cl.out.mono ?_
  rintro e W2 ⟨v, d, rfl, hnn, hva, hv, hE⟩
  have E2 := Lib.hid hE
  have V2 := Lib.hid hv
  obtain ⟨⟨Z2, _, hm⟩, _⟩ := hE
  have mR := R1.out.keeps hm.keeps nR.out
  have mA := A1.out.keeps hm.keeps nA.out
  clear hv cl hm
  cases d with
  | true =>
    obtain ⟨⟨a0, a1, a2⟩, f0, f1, f2⟩ := three_cells mA
    obtain ⟨W3, hW3⟩ : ∃ V, V = (W2).setCell ⟨wr.heap.size + 1 + 1, 2, none⟩ (.int .i64 1) := ⟨_, rfl⟩
    have k3 : Keeps (fun x => x = wr.heap.size + 1 + 1) W2 W3 := by rw [hW3]; exact (Keeps.refl (fun x => x = wr.heap.size + 1 + 1) W2).setCell (p := ⟨wr.heap.size + 1 + 1, 2, none⟩) (fun _ => rfl) _
    have mA3 : Whole W3 (wr.heap.size + 1 + 1) 38 #[.int .i64 0, .int .u64 0, .int .i64 1] := by rw [hW3]; exact (mA).set_ 2 (.int .i64 1)
    have mR3 := mR.keeps k3 (by omega)
    have hW3' := Lib.hid hW3
    have A3 := Lib.hid mA3
    have R3 := Lib.hid mR3
    have K3 := Lib.hid k3
    clear mA mR hW3 k3 mA3 mR3
    go_wp2_with fail
    rw [← hW3'.out]
    refine (no_ev V2.out _).mono ?_
    rintro e W4 ⟨rfl, hK⟩
    have mA4 := A3.out.keeps hK id
    have mR4 := R3.out.keeps hK id
    clear a0 a1 a2 f0 f1 f2
    obtain ⟨⟨a0, a1, a2⟩, f0, f1, f2⟩ := three_cells mA4
    obtain ⟨⟨b0, b1, b2⟩, g0, g1, g2⟩ := three_cells mR4
    have K4 := Lib.hid hK
    obtain ⟨W5, hW5⟩ : ∃ V, V = W4.setCell ⟨wr.heap.size + 1 + 1, 0, none⟩ (.int .i64 (er : Int)) := ⟨_, rfl⟩
    have k5 : Keeps (fun x => x = wr.heap.size + 1 + 1) W4 W5 := by rw [hW5]; exact (Keeps.refl (fun x => x = wr.heap.size + 1 + 1) W4).setCell (p := ⟨wr.heap.size + 1 + 1, 0, none⟩) (fun _ => rfl) _
    have mA5 := mA4.set_ 0 (.int .i64 (er : Int))
    rw [← hW5] at mA5
    have mR5 := mR4.keeps k5 (by omega)
    have hW5' := Lib.hid hW5
    have K5 := Lib.hid k5
    clear hK mA4 mR4 hW5 k5
    go_wp2_with fail
    rw [← hW5'.out]
    clear a0 a1 a2 f0 f1 f2 b0 b1 b2 g0 g1 g2
    obtain ⟨⟨a0, a1, a2⟩, f0, f1, f2⟩ := three_cells mA5
    obtain ⟨⟨b0, b1, b2⟩, g0, g1, g2⟩ := three_cells mR5
    clear mA5 mR5
    go_region
    go_wp2_with fail
    refine bodyPost_ret (v := .tuple #[.agg #[.int .i64 (er : Int), .int .u64 0, .int .i64 1], .bool ((er : Int) == 11)]) (by simp [results, Tryz.results29, go_sem, b0, b1, b2]) rfl ?_
    have k6 := put3_keeps W5 (wr.heap.size + 1) (.int .i64 (er : Int)) (.int .u64 0) (.int .i64 1)
    have hb : ((er : Int) == 11) = decide (er = 11) := beq_num er 11
    refine ⟨by rw [hb]; rw [hva, hnn]; rfl, (E2.out.back (S := fun x => x = wr.heap.size + 1 ∨ x = wr.heap.size + 1 + 1) K1.out ((((((K3.out.mono fun _ _ h => .inr h).trans K4.out fun _ _ h => h.elim).trans K5.out fun _ _ h => .inr h).trans k6 fun _ _ h => .inl h).drew)) ?_ gl.out)⟩
    rintro x (rfl | rfl)
    · exact ⟨R1.out.lt, nR.out, by omega⟩
    · exact ⟨A1.out.lt, nA.out, by omega⟩
  | false =>
    obtain ⟨⟨a0, a1, a2⟩, f0, f1, f2⟩ := three_cells mA
    obtain ⟨W3, hW3⟩ : ∃ V, V = W2 := ⟨_, rfl⟩
    have k3 : Keeps (fun x => x = wr.heap.size + 1 + 1) W2 W3 := by rw [hW3]; exact Keeps.refl (fun x => x = wr.heap.size + 1 + 1) W2
    have mA3 : Whole W3 (wr.heap.size + 1 + 1) 38 #[.int .i64 0, .int .u64 0, .int .i64 0] := by rw [hW3]; exact mA
    have mR3 := mR.keeps k3 (by omega)
    have hW3' := Lib.hid hW3
    have A3 := Lib.hid mA3
    have R3 := Lib.hid mR3
    have K3 := Lib.hid k3
    clear mA mR hW3 k3 mA3 mR3
    go_wp2_with fail
    have eW3 := hW3'.out
    subst eW3
    refine (no_ev V2.out _).mono ?_
    rintro e W4 ⟨rfl, hK⟩
    have mA4 := A3.out.keeps hK id
    have mR4 := R3.out.keeps hK id
    clear a0 a1 a2 f0 f1 f2
    obtain ⟨⟨a0, a1, a2⟩, f0, f1, f2⟩ := three_cells mA4
    obtain ⟨⟨b0, b1, b2⟩, g0, g1, g2⟩ := three_cells mR4
    have K4 := Lib.hid hK
    obtain ⟨W5, hW5⟩ : ∃ V, V = W4.setCell ⟨wr.heap.size + 1 + 1, 0, none⟩ (.int .i64 (er : Int)) := ⟨_, rfl⟩
    have k5 : Keeps (fun x => x = wr.heap.size + 1 + 1) W4 W5 := by rw [hW5]; exact (Keeps.refl (fun x => x = wr.heap.size + 1 + 1) W4).setCell (p := ⟨wr.heap.size + 1 + 1, 0, none⟩) (fun _ => rfl) _
    have mA5 := mA4.set_ 0 (.int .i64 (er : Int))
    rw [← hW5] at mA5
    have mR5 := mR4.keeps k5 (by omega)
    have hW5' := Lib.hid hW5
    have K5 := Lib.hid k5
    clear hK mA4 mR4 hW5 k5
    go_wp2_with fail
    rw [← hW5'.out]
    clear a0 a1 a2 f0 f1 f2 b0 b1 b2 g0 g1 g2
    obtain ⟨⟨a0, a1, a2⟩, f0, f1, f2⟩ := three_cells mA5
    obtain ⟨⟨b0, b1, b2⟩, g0, g1, g2⟩ := three_cells mR5
    clear mA5 mR5
    go_region
    go_wp2_with fail
    refine bodyPost_ret (v := .tuple #[.agg #[.int .i64 (er : Int), .int .u64 0, .int .i64 0], .bool ((er : Int) == 11)]) (by simp [results, Tryz.results29, go_sem, b0, b1, b2]) rfl ?_
    have k6 := put3_keeps W5 (wr.heap.size + 1) (.int .i64 (er : Int)) (.int .u64 0) (.int .i64 0)
    have hb : ((er : Int) == 11) = decide (er = 11) := beq_num er 11
    refine ⟨by rw [hb]; rw [hva, hnn]; rfl, (E2.out.back (S := fun x => x = wr.heap.size + 1 ∨ x = wr.heap.size + 1 + 1) K1.out ((((((K3.out.mono fun _ _ h => .inr h).trans K4.out fun _ _ h => h.elim).trans K5.out fun _ _ h => .inr h).trans k6 fun _ _ h => .inl h).drew)) ?_ gl.out)⟩
    rintro x (rfl | rfl)
    · exact ⟨R1.out.lt, nR.out, by omega⟩
    · exact ⟨A1.out.lt, nA.out, by omega⟩

set_option maxRecDepth 100000 in
set_option maxHeartbeats 2000000 in
theorem answer7_any (k cell : Nat) (n own value : Nat) (h : RunM wr c t b a pl bv rd st ev s Z) (hc : Cap s) (hg : (releaseT cell).Good s) :
    Calls Tryz.prog 29 #[.pointer (some ⟨c, 0, none⟩), calV ⟨7, n, own, value⟩, .int .u64 (k : Int), .int .u64 (cell : Int)] wr fun e w' => AnsTo wr c t b a pl bv rd st ev Z ((releaseT cell).run s) e w' := by
  obtain ⟨W1, hW1⟩ : ∃ V, V = ((wr.alloc (.cells #[.int .i64 7, .int .i64 0, .int .i64 (n : Int), .int .i64 (own : Int), .int .u64 (value : Int)] 31)).alloc (.cells #[.int .i64 0, .int .u64 0, .int .i64 0] 38)).alloc (.cells #[.int .i64 0, .int .u64 0, .int .i64 0] 38) := ⟨_, rfl⟩
  have k1 : Keeps (fun _ => False) wr W1 := by rw [hW1]; exact (((Keeps.refl _ wr).alloc _).alloc _).alloc _
  have mC : Whole W1 wr.heap.size 31 #[.int .i64 7, .int .i64 0, .int .i64 (n : Int), .int .i64 (own : Int), .int .u64 (value : Int)] := by rw [hW1]; exact ((made_at _ rfl _ _).alloc _).alloc _
  have mR : Whole W1 (wr.heap.size + 1) 38 #[.int .i64 0, .int .u64 0, .int .i64 0] := by rw [hW1]; exact (made_at _ (by simp) _ _).alloc _
  have mA : Whole W1 (wr.heap.size + 1 + 1) 38 #[.int .i64 0, .int .u64 0, .int .i64 0] := by rw [hW1]; exact made_at _ (by simp) _ _
  have old := h.old
  have cl := Lib.hid (release_any cell (Cont.begin (h.same k1) hc hg))
  have K1 := Lib.hid k1
  have R1 := Lib.hid mR
  have A1 := Lib.hid mA
  have gl := Lib.hid h.gl
  have nR : Hid (¬ Z (wr.heap.size + 1)) := Lib.hid fun hz => by have := old _ hz; omega
  have nA : Hid (¬ Z (wr.heap.size + 1 + 1)) := Lib.hid fun hz => by have := old _ hz; omega
  have hW1' := Lib.hid hW1
  have hnv := Lib.hid (show Bare (ansOf ((releaseT cell).run s).1) from ans_all (P := Bare) (releaseT_bare cell) ⟨rfl, rfl⟩ s)
  clear h hc hg k1 mC mR mA hW1 old
  generalize (releaseT cell).run s = R0 at *
  unfold calV AnsTo ansV
  generalize (ansOf R0.1).err = er at *
  go_enter Tryz.func29, Tryz.ntmps29
  go_wp2_with fail
  rw [← hW1'.out]
  refine cl.out.mono ?_
  rintro e W2 ⟨v, rfl, hv, hE⟩
  have E2 := Lib.hid hE
  have V2 := Lib.hid hv
  obtain ⟨⟨Z2, _, hm⟩, _⟩ := hE
  have mR := R1.out.keeps hm.keeps nR.out
  have mA := A1.out.keeps hm.keeps nA.out
  clear hv cl hm
  obtain ⟨⟨a0, a1, a2⟩, f0, f1, f2⟩ := three_cells mA
  obtain ⟨W3, hW3⟩ : ∃ V, V = W2 := ⟨_, rfl⟩
  have k3 : Keeps (fun x => x = wr.heap.size + 1 + 1) W2 W3 := by rw [hW3]; exact Keeps.refl (fun x => x = wr.heap.size + 1 + 1) W2
  have mA3 : Whole W3 (wr.heap.size + 1 + 1) 38 #[.int .i64 0, .int .u64 0, .int .i64 0] := by rw [hW3]; exact mA
  have mR3 := mR.keeps k3 (by omega)
  have hW3' := Lib.hid hW3
  have A3 := Lib.hid mA3
  have R3 := Lib.hid mR3
  have K3 := Lib.hid k3
  clear mA mR hW3 k3 mA3 mR3
  go_wp2_with fail
  have eW3 := hW3'.out
  subst eW3
  refine (no_ev V2.out _).mono ?_
  rintro e W4 ⟨rfl, hK⟩
  have mA4 := A3.out.keeps hK id
  have mR4 := R3.out.keeps hK id
  clear a0 a1 a2 f0 f1 f2
  obtain ⟨⟨a0, a1, a2⟩, f0, f1, f2⟩ := three_cells mA4
  obtain ⟨⟨b0, b1, b2⟩, g0, g1, g2⟩ := three_cells mR4
  have K4 := Lib.hid hK
  obtain ⟨W5, hW5⟩ : ∃ V, V = W4.setCell ⟨wr.heap.size + 1 + 1, 0, none⟩ (.int .i64 (er : Int)) := ⟨_, rfl⟩
  have k5 : Keeps (fun x => x = wr.heap.size + 1 + 1) W4 W5 := by rw [hW5]; exact (Keeps.refl (fun x => x = wr.heap.size + 1 + 1) W4).setCell (p := ⟨wr.heap.size + 1 + 1, 0, none⟩) (fun _ => rfl) _
  have mA5 := mA4.set_ 0 (.int .i64 (er : Int))
  rw [← hW5] at mA5
  have mR5 := mR4.keeps k5 (by omega)
  have hW5' := Lib.hid hW5
  have K5 := Lib.hid k5
  clear hK mA4 mR4 hW5 k5
  go_wp2_with fail
  rw [← hW5'.out]
  clear a0 a1 a2 f0 f1 f2 b0 b1 b2 g0 g1 g2
  obtain ⟨⟨a0, a1, a2⟩, f0, f1, f2⟩ := three_cells mA5
  obtain ⟨⟨b0, b1, b2⟩, g0, g1, g2⟩ := three_cells mR5
  clear mA5 mR5
  go_region
  go_wp2_with fail
  refine bodyPost_ret (v := .tuple #[.agg #[.int .i64 (er : Int), .int .u64 0, .int .i64 0], .bool ((er : Int) == 11)]) (by simp [results, Tryz.results29, go_sem, b0, b1, b2]) rfl ?_
  have k6 := put3_keeps W5 (wr.heap.size + 1) (.int .i64 (er : Int)) (.int .u64 0) (.int .i64 0)
  have hb : ((er : Int) == 11) = decide (er = 11) := beq_num er 11
  refine ⟨by rw [hb]; rw [show (ansOf R0.1).value = 0 from hnv.out.1, show (ansOf R0.1).n = 0 from hnv.out.2]; rfl, (E2.out.back (S := fun x => x = wr.heap.size + 1 ∨ x = wr.heap.size + 1 + 1) K1.out ((((((K3.out.mono fun _ _ h => .inr h).trans K4.out fun _ _ h => h.elim).trans K5.out fun _ _ h => .inr h).trans k6 fun _ _ h => .inl h).drew)) ?_ gl.out)⟩
  rintro x (rfl | rfl)
  · exact ⟨R1.out.lt, nR.out, by omega⟩
  · exact ⟨A1.out.lt, nA.out, by omega⟩

set_option maxRecDepth 100000 in
set_option maxHeartbeats 2000000 in
theorem answer8_any (k cell : Nat) (n own value : Nat) (hn : n ≤ 281474976710655) (h : RunM wr c t b a pl bv rd st ev s Z) (hc : Cap s) (hg : (awaitT cell n).Good s) :
    Calls Tryz.prog 29 #[.pointer (some ⟨c, 0, none⟩), calV ⟨8, n, own, value⟩, .int .u64 (k : Int), .int .u64 (cell : Int)] wr fun e w' => AnsTo wr c t b a pl bv rd st ev Z ((awaitT cell n).run s) e w' := by
  obtain ⟨W1, hW1⟩ : ∃ V, V = ((wr.alloc (.cells #[.int .i64 8, .int .i64 0, .int .i64 (n : Int), .int .i64 (own : Int), .int .u64 (value : Int)] 31)).alloc (.cells #[.int .i64 0, .int .u64 0, .int .i64 0] 38)).alloc (.cells #[.int .i64 0, .int .u64 0, .int .i64 0] 38) := ⟨_, rfl⟩
  have k1 : Keeps (fun _ => False) wr W1 := by rw [hW1]; exact (((Keeps.refl _ wr).alloc _).alloc _).alloc _
  have mC : Whole W1 wr.heap.size 31 #[.int .i64 8, .int .i64 0, .int .i64 (n : Int), .int .i64 (own : Int), .int .u64 (value : Int)] := by rw [hW1]; exact ((made_at _ rfl _ _).alloc _).alloc _
  have mR : Whole W1 (wr.heap.size + 1) 38 #[.int .i64 0, .int .u64 0, .int .i64 0] := by rw [hW1]; exact (made_at _ (by simp) _ _).alloc _
  have mA : Whole W1 (wr.heap.size + 1 + 1) 38 #[.int .i64 0, .int .u64 0, .int .i64 0] := by rw [hW1]; exact made_at _ (by simp) _ _
  have old := h.old
  have cl := Lib.hid (await_any cell n hn (Cont.begin (h.same k1) hc hg))
  have K1 := Lib.hid k1
  have R1 := Lib.hid mR
  have A1 := Lib.hid mA
  have gl := Lib.hid h.gl
  have nR : Hid (¬ Z (wr.heap.size + 1)) := Lib.hid fun hz => by have := old _ hz; omega
  have nA : Hid (¬ Z (wr.heap.size + 1 + 1)) := Lib.hid fun hz => by have := old _ hz; omega
  have hW1' := Lib.hid hW1
  have hnv := Lib.hid (show Bare (ansOf ((awaitT cell n).run s).1) from ans_all (P := Bare) (turnT_bare cell n awaitG 8) ⟨rfl, rfl⟩ s)
  clear h hc hg k1 mC mR mA hW1 old
  generalize (awaitT cell n).run s = R0 at *
  unfold calV AnsTo ansV
  generalize (ansOf R0.1).err = er at *
  go_enter Tryz.func29, Tryz.ntmps29
  go_wp2_with fail
  rw [← hW1'.out]
  refine cl.out.mono ?_
  rintro e W2 ⟨v, rfl, hv, hE⟩
  have E2 := Lib.hid hE
  have V2 := Lib.hid hv
  obtain ⟨⟨Z2, _, hm⟩, _⟩ := hE
  have mR := R1.out.keeps hm.keeps nR.out
  have mA := A1.out.keeps hm.keeps nA.out
  clear hv cl hm
  obtain ⟨⟨a0, a1, a2⟩, f0, f1, f2⟩ := three_cells mA
  obtain ⟨W3, hW3⟩ : ∃ V, V = W2 := ⟨_, rfl⟩
  have k3 : Keeps (fun x => x = wr.heap.size + 1 + 1) W2 W3 := by rw [hW3]; exact Keeps.refl (fun x => x = wr.heap.size + 1 + 1) W2
  have mA3 : Whole W3 (wr.heap.size + 1 + 1) 38 #[.int .i64 0, .int .u64 0, .int .i64 0] := by rw [hW3]; exact mA
  have mR3 := mR.keeps k3 (by omega)
  have hW3' := Lib.hid hW3
  have A3 := Lib.hid mA3
  have R3 := Lib.hid mR3
  have K3 := Lib.hid k3
  clear mA mR hW3 k3 mA3 mR3
  go_wp2_with fail
  have eW3 := hW3'.out
  subst eW3
  refine (no_ev V2.out _).mono ?_
  rintro e W4 ⟨rfl, hK⟩
  have mA4 := A3.out.keeps hK id
  have mR4 := R3.out.keeps hK id
  clear a0 a1 a2 f0 f1 f2
  obtain ⟨⟨a0, a1, a2⟩, f0, f1, f2⟩ := three_cells mA4
  obtain ⟨⟨b0, b1, b2⟩, g0, g1, g2⟩ := three_cells mR4
  have K4 := Lib.hid hK
  obtain ⟨W5, hW5⟩ : ∃ V, V = W4.setCell ⟨wr.heap.size + 1 + 1, 0, none⟩ (.int .i64 (er : Int)) := ⟨_, rfl⟩
  have k5 : Keeps (fun x => x = wr.heap.size + 1 + 1) W4 W5 := by rw [hW5]; exact (Keeps.refl (fun x => x = wr.heap.size + 1 + 1) W4).setCell (p := ⟨wr.heap.size + 1 + 1, 0, none⟩) (fun _ => rfl) _
  have mA5 := mA4.set_ 0 (.int .i64 (er : Int))
  rw [← hW5] at mA5
  have mR5 := mR4.keeps k5 (by omega)
  have hW5' := Lib.hid hW5
  have K5 := Lib.hid k5
  clear hK mA4 mR4 hW5 k5
  go_wp2_with fail
  rw [← hW5'.out]
  clear a0 a1 a2 f0 f1 f2 b0 b1 b2 g0 g1 g2
  obtain ⟨⟨a0, a1, a2⟩, f0, f1, f2⟩ := three_cells mA5
  obtain ⟨⟨b0, b1, b2⟩, g0, g1, g2⟩ := three_cells mR5
  clear mA5 mR5
  go_region
  go_wp2_with fail
  refine bodyPost_ret (v := .tuple #[.agg #[.int .i64 (er : Int), .int .u64 0, .int .i64 0], .bool ((er : Int) == 11)]) (by simp [results, Tryz.results29, go_sem, b0, b1, b2]) rfl ?_
  have k6 := put3_keeps W5 (wr.heap.size + 1) (.int .i64 (er : Int)) (.int .u64 0) (.int .i64 0)
  have hb : ((er : Int) == 11) = decide (er = 11) := beq_num er 11
  refine ⟨by rw [hb]; rw [show (ansOf R0.1).value = 0 from hnv.out.1, show (ansOf R0.1).n = 0 from hnv.out.2]; rfl, (E2.out.back (S := fun x => x = wr.heap.size + 1 ∨ x = wr.heap.size + 1 + 1) K1.out ((((((K3.out.mono fun _ _ h => .inr h).trans K4.out fun _ _ h => h.elim).trans K5.out fun _ _ h => .inr h).trans k6 fun _ _ h => .inl h).drew)) ?_ gl.out)⟩
  rintro x (rfl | rfl)
  · exact ⟨R1.out.lt, nR.out, by omega⟩
  · exact ⟨A1.out.lt, nA.out, by omega⟩

set_option maxRecDepth 100000 in
set_option maxHeartbeats 2000000 in
theorem answer9_any (k cell : Nat) (n own value : Nat) (h : RunM wr c t b a pl bv rd st ev s Z) (hc : Cap s) :
    Calls Tryz.prog 29 #[.pointer (some ⟨c, 0, none⟩), calV ⟨9, n, own, value⟩, .int .u64 (k : Int), .int .u64 (cell : Int)] wr fun e w' => AnsTo wr c t b a pl bv rd st ev Z ((Pr.ret (⟨0, 0, 0⟩ : Ans)).run s) e w' := by
  obtain ⟨W1, hW1⟩ : ∃ V, V = ((wr.alloc (.cells #[.int .i64 9, .int .i64 0, .int .i64 (n : Int), .int .i64 (own : Int), .int .u64 (value : Int)] 31)).alloc (.cells #[.int .i64 0, .int .u64 0, .int .i64 0] 38)).alloc (.cells #[.int .i64 0, .int .u64 0, .int .i64 0] 38) := ⟨_, rfl⟩
  have k1 : Keeps (fun _ => False) wr W1 := by rw [hW1]; exact (((Keeps.refl _ wr).alloc _).alloc _).alloc _
  have mC : Whole W1 wr.heap.size 31 #[.int .i64 9, .int .i64 0, .int .i64 (n : Int), .int .i64 (own : Int), .int .u64 (value : Int)] := by rw [hW1]; exact ((made_at _ rfl _ _).alloc _).alloc _
  have mR : Whole W1 (wr.heap.size + 1) 38 #[.int .i64 0, .int .u64 0, .int .i64 0] := by rw [hW1]; exact (made_at _ (by simp) _ _).alloc _
  have mA : Whole W1 (wr.heap.size + 1 + 1) 38 #[.int .i64 0, .int .u64 0, .int .i64 0] := by rw [hW1]; exact made_at _ (by simp) _ _
  have old := h.old
  obtain ⟨W2, hW2⟩ : ∃ W2, W2 = W1 := ⟨_, rfl⟩
  have E2 := Lib.hid ((show Ended W1 c t b a pl bv rd st ev Z ((Pr.ret (⟨0, 0, 0⟩ : Ans)).run s) W2 by rw [hW2]; exact ⟨⟨Z, h.same k1, Mv.refl _ _⟩, hc⟩))
  have K1 := Lib.hid k1
  have R1 := Lib.hid mR
  have A1 := Lib.hid mA
  have gl := Lib.hid h.gl
  have nR : Hid (¬ Z (wr.heap.size + 1)) := Lib.hid fun hz => by have := old _ hz; omega
  have nA : Hid (¬ Z (wr.heap.size + 1 + 1)) := Lib.hid fun hz => by have := old _ hz; omega
  have hW1' := Lib.hid hW1
  have V2 := Lib.hid (show EV .nilIface 0 from .inl ⟨rfl, rfl⟩)
  obtain ⟨er, her⟩ : ∃ er, er = 0 := ⟨_, rfl⟩
  rw [← her] at V2
  have hr : (Pr.ret (⟨0, 0, 0⟩ : Ans)).run s = (some ⟨er, 0, 0⟩, s) := by rw [her]; rfl
  rw [hr] at E2 ⊢
  clear hc k1 mC hW1 old hr her
  rw [← hW2] at mR mA
  have hW2' := Lib.hid hW2
  clear hW2
  unfold calV AnsTo ansV ansOf
  dsimp only
  go_enter Tryz.func29, Tryz.ntmps29
  obtain ⟨⟨a0, a1, a2⟩, f0, f1, f2⟩ := three_cells mA
  obtain ⟨W3, hW3⟩ : ∃ V, V = W2 := ⟨_, rfl⟩
  have k3 : Keeps (fun x => x = wr.heap.size + 1 + 1) W2 W3 := by rw [hW3]; exact Keeps.refl (fun x => x = wr.heap.size + 1 + 1) W2
  have mA3 : Whole W3 (wr.heap.size + 1 + 1) 38 #[.int .i64 0, .int .u64 0, .int .i64 0] := by rw [hW3]; exact mA
  have mR3 := mR.keeps k3 (by omega)
  have hW3' := Lib.hid hW3
  have A3 := Lib.hid mA3
  have R3 := Lib.hid mR3
  have K3 := Lib.hid k3
  clear mA mR hW3 k3 mA3 mR3
  go_wp2_with fail
  rw [← hW1'.out, ← hW2'.out, ← hW3'.out]
  refine (no_ev V2.out _).mono ?_
  rintro e W4 ⟨rfl, hK⟩
  have mA4 := A3.out.keeps hK id
  have mR4 := R3.out.keeps hK id
  clear a0 a1 a2 f0 f1 f2
  obtain ⟨⟨a0, a1, a2⟩, f0, f1, f2⟩ := three_cells mA4
  obtain ⟨⟨b0, b1, b2⟩, g0, g1, g2⟩ := three_cells mR4
  have K4 := Lib.hid hK
  obtain ⟨W5, hW5⟩ : ∃ V, V = W4.setCell ⟨wr.heap.size + 1 + 1, 0, none⟩ (.int .i64 (er : Int)) := ⟨_, rfl⟩
  have k5 : Keeps (fun x => x = wr.heap.size + 1 + 1) W4 W5 := by rw [hW5]; exact (Keeps.refl (fun x => x = wr.heap.size + 1 + 1) W4).setCell (p := ⟨wr.heap.size + 1 + 1, 0, none⟩) (fun _ => rfl) _
  have mA5 := mA4.set_ 0 (.int .i64 (er : Int))
  rw [← hW5] at mA5
  have mR5 := mR4.keeps k5 (by omega)
  have hW5' := Lib.hid hW5
  have K5 := Lib.hid k5
  clear hK mA4 mR4 hW5 k5
  go_wp2_with fail
  rw [← hW5'.out]
  clear a0 a1 a2 f0 f1 f2 b0 b1 b2 g0 g1 g2
  obtain ⟨⟨a0, a1, a2⟩, f0, f1, f2⟩ := three_cells mA5
  obtain ⟨⟨b0, b1, b2⟩, g0, g1, g2⟩ := three_cells mR5
  clear mA5 mR5
  go_region
  go_wp2_with fail
  refine bodyPost_ret (v := .tuple #[.agg #[.int .i64 (er : Int), .int .u64 0, .int .i64 0], .bool ((er : Int) == 11)]) (by simp [results, Tryz.results29, go_sem, b0, b1, b2]) rfl ?_
  have k6 := put3_keeps W5 (wr.heap.size + 1) (.int .i64 (er : Int)) (.int .u64 0) (.int .i64 0)
  have hb : ((er : Int) == 11) = decide (er = 11) := beq_num er 11
  refine ⟨by rw [hb]; rfl, (E2.out.back (S := fun x => x = wr.heap.size + 1 ∨ x = wr.heap.size + 1 + 1) K1.out ((((((K3.out.mono fun _ _ h => .inr h).trans K4.out fun _ _ h => h.elim).trans K5.out fun _ _ h => .inr h).trans k6 fun _ _ h => .inl h).drew)) ?_ gl.out)⟩
  rintro x (rfl | rfl)
  · exact ⟨R1.out.lt, nR.out, by omega⟩
  · exact ⟨A1.out.lt, nA.out, by omega⟩
end
end Go.Proofs.YtenhmficiegpiaaGreatDoor

namespace Go.Proofs.YtenhmficiegpiaaGreatDoor
open Go.RowKit Go.Extern.Stop Go.Stop Go.Extern

/-- The cells of an answer. -/
def ansC (x : Ans) : List Value := [.int .i64 (x.err : Int), .int .u64 (x.value : Int), .int .i64 x.n]
def ansCells (l : List Ans) : List Value := l.flatMap ansC
theorem ansCells_len (l : List Ans) : (ansCells l).length = l.length * 3 := by
  induction l with
  | nil => rfl
  | cons t l ih => simp only [ansCells, List.flatMap_cons, List.length_append, List.length_cons, ansC, List.length_nil] at ih ⊢; omega
theorem ansCells_app (l m : List Ans) : ansCells (l ++ m) = ansCells l ++ ansCells m := by simp [ansCells]
theorem ansCells_at : ∀ (l : List Ans) (k : Nat), k < l.length → ∀ j, j < 3 → (ansCells l)[k * 3 + j]? = (ansC (l.getD k ⟨0, 0, 0⟩))[j]?
  | t :: l, 0, _, j, hj => by
    rw [show ansCells (t :: l) = ansC t ++ ansCells l from rfl, List.getElem?_append_left (by show 0 * 3 + j < 3; omega)]
    simp
  | t :: l, k + 1, h, j, hj => by
    rw [show ansCells (t :: l) = ansC t ++ ansCells l from rfl, List.getElem?_append_right (by show 3 ≤ (k + 1) * 3 + j; omega), show (k + 1) * 3 + j - (ansC t).length = k * 3 + j by show (k + 1) * 3 + j - 3 = _; omega, ansCells_at l k (by simpa using h) j hj]
    simp
theorem ansCells_one (l : List Ans) : ∀ u ∈ ansCells l, u.oneCell' = true := by
  intro u hu
  simp only [ansCells, List.mem_flatMap] at hu
  obtain ⟨t, _, hu⟩ := hu
  simp [ansC] at hu
  rcases hu with rfl | rfl | rfl <;> rfl

/-- A row of answers of one's own. -/
def ARow (w : World) (v : Value) (l : List Ans) : Prop := w.ownsRow 0 38 3 v l.length (ansCells l)
theorem ARow.keeps {w w' : World} {v : Value} {l : List Ans} {S : Nat → Prop} (h : ARow w v l) (k : Keeps S w w') (hS : ∀ g, v.ownBlock = some g → ¬ S g) : ARow w' v l := ownsRow_keeps h k hS
theorem ARow.nil (w : World) : ARow w (.slice none 0 0) [] := World.ownsRow_nil _ _ _ _
theorem ARow.shape {w : World} {v : Value} {l : List Ans} (h : ARow w v l) : ∃ o c, v = .slice o l.length c ∧ (0 < l.length → ∃ g, o = some ⟨g, 0, none⟩) := by
  rcases h.2 with ⟨hv, hn⟩ | ⟨g, cap, cur, hv, _⟩
  · exact ⟨_, _, by rw [hn]; exact hv, fun h => by omega⟩
  · exact ⟨_, _, hv, fun _ => ⟨g, rfl⟩⟩
theorem ARow.at_ {w : World} {g n cap k : Nat} {l : List Ans} (h : ARow w (.slice (some ⟨g, 0, none⟩) n cap) l) (hn : l.length = n) (hk : k < l.length) {j : Nat} (hj : j < 3) : w.cell? ⟨g, k * 3 + j, none⟩ = (ansC (l.getD k ⟨0, 0, 0⟩))[j]? := by
  subst hn
  exact (World.ownsRow.cellAt h (k * 3 + j) (by omega)).trans (ansCells_at l k hk j hj)
theorem ARow.lt {w : World} {v : Value} {l : List Ans} (h : ARow w v l) {g : Nat} (hg : v.ownBlock = some g) : g < w.heap.size := (World.ownsRow.lt h g hg).2

theorem info_answer : (Tryz.prog.info? 38).map (fun i => (i.zero, i.size, i.bytes)) = some (some (.agg #[.int .i64 0, .int .u64 0, .int .i64 0]), 3, 24) := by kernel_rfl

theorem run_append_ans (w : World) (v : Value) (l : List Ans) (e : Ans) (hown : ARow w v l) (ad : Addr) (c : Nat) (hnews : ∀ j u, (ansC e)[j]? = some u → w.cell? (ad.add j) = some u) (hbig : l.length ≤ 10000) (ty : TypeId) :
    ∃ ao cap w', (Builtin.append_ #[36, 36] ty #[v, .slice (some ad) 1 c]).run Tryz.prog w = .ok (.slice ao (l.length + 1) cap) w' ∧ ARow w' (.slice ao (l.length + 1) cap) (l ++ [e]) ∧ w.grownBy w' v.ownBlock ∧ ((Value.slice ao (l.length + 1) cap).ownBlock = v.ownBlock ∨ (Value.slice ao (l.length + 1) cap).ownBlock = some w.heap.size) := by
  obtain ⟨i0, hi, hz0, hz1, hz2⟩ := info_parts info_answer
  have hone : ansCells [e] = ansC e := by simp [ansCells]
  obtain ⟨v', w', hr, h2, h3, h4, h5⟩ := run_append_own_at (P := Tryz.prog) w 0 36 ty 38 i0 (.agg #[.int .i64 0, .int .u64 0, .int .i64 0]) 3 24 Tryz.underlying36 hi hz0 hz1 hz2 rfl (by decide) v l.length (ansCells l) hown ad 1 c (ansCells [e]) (by rw [hone]; rfl) (by rw [hone]; exact hnews) (ansCells_one [e]) (by unfold maxLen; omega) (by omega) (Nat.zero_le _)
  rw [← ansCells_app] at h2
  have h2' : ARow w' v' (l ++ [e]) := by
    show World.ownsRow _ _ _ _ _ (l ++ [e]).length _
    rw [List.length_append]
    exact h2
  obtain ⟨ao, cap, hv, _⟩ := ARow.shape h2'
  rw [List.length_append, List.length_singleton] at hv
  subst hv
  exact ⟨ao, cap, w', hr, h2', h3, h5⟩

theorem wpList_append_ans (w : World) {ops : Array Oper} {rest : List Oper} {o : Oper} {a : Act} {Q : Exit → Act → World → Prop}
    (hg : o.guard = none) (s x : Operand) (hop : o.op = Op.call { callee := Callee.builtin Builtin.append, args := #[s, x], argTypes := #[36, 36] })
    (v : Value) (l : List Ans) (e : Ans) (hs : a.eval s = v) (hown : ARow w v l) (ad : Addr) (c : Nat) (hx : a.eval x = .slice (some ad) 1 c) (hnews : ∀ j u, (ansC e)[j]? = some u → w.cell? (ad.add j) = some u) (hbig : l.length ≤ 10000)
    (hK : ∀ ao cap w', ARow w' (.slice ao (l.length + 1) cap) (l ++ [e]) → w.grownBy w' v.ownBlock → ((Value.slice ao (l.length + 1) cap).ownBlock = v.ownBlock ∨ (Value.slice ao (l.length + 1) cap).ownBlock = some w.heap.size) → wpList Tryz.prog ops Q rest (a.put o.dst (.slice ao (l.length + 1) cap)) w') :
    wpList Tryz.prog ops Q (o :: rest) a w := by
  refine wpList_plain hg fun K hK' => ?_
  obtain ⟨ao, cap, w', hr, h2, h3, h5⟩ := run_append_ans w v l e hown ad c hnews hbig o.type
  unfold Oper.wp execOp
  simp only [hop, resolve, invoke, builtin, Sem.run_bind, Sem.run_pure, Result.andThen_ok, List.map_toArray, List.map_cons, List.map_nil, hs, hx, hr]
  exact hK' _ _ (hK ao cap w' h2 h3 h5)

theorem one_ans {w : World} {b : Nat} {ty : TypeId} {e : Ans} (h : Whole w b ty (ansC e).toArray) : ∀ j u, (ansC e)[j]? = some u → w.cell? ((⟨b, 0, none⟩ : Addr).add j) = some u := by
  intro j u hj
  have := h.at_ j
  rw [List.getElem?_toArray, hj] at this
  rw [show (⟨b, 0, none⟩ : Addr).add j = ⟨b, j, none⟩ by unfold Addr.add; split <;> simp_all]
  exact this

/-- A call that may be. -/
structure CalOk (x : Cal) : Prop where
  kind : 1 ≤ x.kind ∧ x.kind ≤ 9 ∧ x.kind ≠ 4
  n : x.n ≤ 281474976710655
  own : x.own ≤ 255
  value : x.value < 18446744073709551616

/-- A row of calls in memory. -/
def CRow (w : World) (v : Value) (l : List Cal) : Prop :=
  ∃ o c, v = .slice o l.length c ∧ (0 < l.length → ∃ g, o = some ⟨g, 0, none⟩ ∧ ∀ i, i < l.length → ∀ x, l[i]? = some x →
    w.cell? ⟨g, i * 5, none⟩ = some (.int .i64 (x.kind : Int)) ∧ w.cell? ⟨g, i * 5 + 1, none⟩ = some (.int .i64 0) ∧ w.cell? ⟨g, i * 5 + 2, none⟩ = some (.int .i64 (x.n : Int)) ∧ w.cell? ⟨g, i * 5 + 3, none⟩ = some (.int .i64 (x.own : Int)) ∧ w.cell? ⟨g, i * 5 + 4, none⟩ = some (.int .u64 (x.value : Int)))

theorem CRow.keeps {w w' : World} {v : Value} {l : List Cal} {S : Nat → Prop} (h : CRow w v l) (k : Keeps S w w') (hS : ∀ g, v.ownBlock = some g → ¬ S g) : CRow w' v l := by
  obtain ⟨o, c, hv, h⟩ := h
  refine ⟨o, c, hv, fun hl => ?_⟩
  obtain ⟨g, hg, h'⟩ := h hl
  have hn : ¬ S g := hS g (by rw [hv, hg]; rfl)
  refine ⟨g, hg, fun i hi x hx => ?_⟩
  obtain ⟨h0, h1, h2, h3, h4⟩ := h' i hi x hx
  exact ⟨(k.cell (cell_lt h0) hn).trans h0, (k.cell (cell_lt h1) hn).trans h1, (k.cell (cell_lt h2) hn).trans h2, (k.cell (cell_lt h3) hn).trans h3, (k.cell (cell_lt h4) hn).trans h4⟩

section
variable {wr : World} {c t b a pl : Nat} {bv : Value} {rd st : Int} {ev : Value} {Z : Nat → Prop} {s : Rn}

theorem answerC_any (k cell : Nat) (x : Cal) (hx : CalOk x) (h : RunM wr c t b a pl bv rd st ev s Z) (hc : Cap s) (hg : (callT k cell x).Good s) :
    Calls Tryz.prog 29 #[.pointer (some ⟨c, 0, none⟩), calV x, .int .u64 (k : Int), .int .u64 (cell : Int)] wr fun e w' => AnsTo wr c t b a pl bv rd st ev Z ((callT k cell x).run s) e w' := by
  obtain ⟨kd, n, own, value⟩ := x
  obtain ⟨⟨h1, h2, h3⟩, hn, hown, _⟩ := hx
  simp only at h1 h2 h3 hn hown
  rcases (show kd = 1 ∨ kd = 2 ∨ kd = 3 ∨ kd = 5 ∨ kd = 6 ∨ kd = 7 ∨ kd = 8 ∨ kd = 9 by omega) with rfl | rfl | rfl | rfl | rfl | rfl | rfl | rfl
  · exact answer1_any k cell n own value h hc hg
  · exact answer2_any k cell n own value h hc hg
  · exact answer3_any k cell n own value h hc hg
  · exact answer5_any k cell n own value hn hown h hc hg
  · exact answer6_any k cell n own value hn h hc hg
  · exact answer7_any k cell n own value h hc hg
  · exact answer8_any k cell n own value hn h hc hg
  · exact answer9_any k cell n own value h hc
end
end Go.Proofs.YtenhmficiegpiaaGreatDoor
