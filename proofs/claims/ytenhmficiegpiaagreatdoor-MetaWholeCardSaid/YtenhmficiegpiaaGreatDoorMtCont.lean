/-
  meta, plainly: its calls as trees of accesses; a list of calls as a tree.
  errors.Is and concordlaw01.No of an error of package meta (refused: it names a call and wraps an api.Errno).
  A body under way at a tree: what is left of it (Cont), and what an access does to it.
-/
import Derived.Test.YtenhmficiegpiaaGreatDoorTgRun
import Derived.Test.YtenhmficiegpiaaGreatDoorBtPack
import Derived.Test.YtenhmficiegpiaaGreatDoorWdNo
import Derived.Test.YtenhmficiegpiaaGreatDoorWdLib
import Derived.LoopTactic
import Derived.Lib.Hide
import Derived.WalkMore
import Derived.ScopeJumps

namespace Go.Proofs.YtenhmficiegpiaaGreatDoor
open Go.RowKit

/-- What a call answers. -/
structure Ans where
  err : Nat
  value : Nat
  n : Int
deriving DecidableEq

def verN (w : Nat) : Nat := w / 65536
def ownN (w : Nat) : Nat := w / 256 % 256
def chg (w : Nat) : Bool := bitB w 0
def wai (w : Nat) : Bool := bitB w 1
theorem meta_of {w : Nat} (h : w < 18446744073709551616) : IsMeta w (verN w) (ownN w) (chg w) (wai w) := ⟨h, rfl, rfl, rfl, rfl⟩
theorem verN_le {w : Nat} (h : w < 18446744073709551616) : verN w ≤ 281474976710655 := by unfold verN; omega
theorem ownN_le (w : Nat) : ownN w ≤ 255 := by unfold ownN; omega

/-- A word as a number. -/
def i64 (x : Nat) : Int := if x < 9223372036854775808 then (x : Int) else (x : Int) - 18446744073709551616

def nowT (k : Nat) : Pr Ans := .acc (.load k 0) fun e => .ret ⟨0, 0, i64 e.word⟩

def tickT (k : Nat) : Nat → Pr Ans
  | 0 => .ret ⟨12, 0, 0⟩
  | n + 1 => .acc (.load k 0) fun e => .acc (.cas k 0 e.word ((e.word + 1) % 18446744073709551616)) fun f =>
    if f.done then .ret ⟨0, 0, i64 ((e.word + 1) % 18446744073709551616)⟩ else tickT k n

/-- Read, behind the load of the word w; so often more. -/
def readL (c : Nat) : Nat → Nat → Pr Ans
  | 0, _ => .ret ⟨12, 0, 0⟩
  | n + 1, w => if chg w then .ret ⟨12, 0, 0⟩ else
    .acc (.load c 1) fun e => .acc (.load c 0) fun f => if f.word = w then .ret ⟨0, e.word, verN w⟩ else readL c n f.word
def readT (c : Nat) : Pr Ans := .acc (.load c 0) fun e => readL c 8 e.word

/-- A Meta is turned, as g says: none: it stays. -/
def turnT (c ver : Nat) (g : Nat → Option Nat) : Nat → Pr Ans
  | 0 => .ret ⟨12, 0, 0⟩
  | n + 1 => .acc (.load c 0) fun e => if chg e.word = true ∨ verN e.word ≠ ver then .ret ⟨12, 0, 0⟩ else
    match g e.word with
    | none => .ret ⟨0, 0, 0⟩
    | some x => .acc (.cas c 0 e.word x) fun f => if f.done then .ret ⟨0, 0, 0⟩ else turnT c ver g n
def lockG (own w : Nat) : Option Nat := some (packN (verN w) own true (wai w))
def awaitG (w : Nat) : Option Nat := if wai w then none else some (packN (verN w) (ownN w) false true)
def lockT (c ver own : Nat) : Pr Ans := turnT c ver (lockG own) 8
def awaitT (c ver : Nat) : Pr Ans := turnT c ver awaitG 8

def commitT (c value ver : Nat) : Pr Ans := .acc (.load c 0) fun e => if chg e.word then
    .acc (.store c 1 value) fun _ => .acc (.store c 0 (packN ver 0 false false)) fun _ => .ret ⟨0, 0, if wai e.word then 1 else 0⟩
  else .ret ⟨2, 0, 0⟩
def releaseT (c : Nat) : Pr Ans := .acc (.load c 0) fun e => if chg e.word then
    .acc (.store c 0 (packN (verN e.word) 0 false (wai e.word))) fun _ => .ret ⟨0, 0, 0⟩
  else .ret ⟨2, 0, 0⟩

/-- A call. -/
structure Cal where
  kind : Nat
  n : Nat
  own : Nat
  value : Nat
deriving DecidableEq

structure Cal.Ok (x : Cal) : Prop where
  kind : x.kind ≤ 9 ∧ x.kind ≠ 4
  n : x.n ≤ 281474976710655
  own : x.own ≤ 255
  value : x.value < 18446744073709551616

def callT (k c : Nat) (x : Cal) : Pr Ans :=
  if x.kind = 1 then nowT k
  else if x.kind = 2 then tickT k 8
  else if x.kind = 3 then readT c
  else if x.kind = 5 then lockT c x.n x.own
  else if x.kind = 6 then commitT c x.value x.n
  else if x.kind = 7 then releaseT c
  else if x.kind = 8 then awaitT c x.n
  else .ret ⟨0, 0, 0⟩

def lastErr (acc : List Ans) : Nat := (acc.getLast?.map Ans.err).getD 0

def callsT (k c : Nat) : List Cal → List Ans → Pr (List Ans)
  | [], acc => .ret acc
  | x :: l, acc => if x.kind = 9 ∧ lastErr acc ≠ 0 then .ret acc else (callT k c x).bind fun a => callsT k c l (acc ++ [a])

theorem tickT_deep (k : Nat) : ∀ n, (tickT k n).Deep (2 * n)
  | 0 => trivial
  | n + 1 => by
    rw [show 2 * (n + 1) = 2 * n + 1 + 1 by omega]
    intro e f
    show Pr.Deep (2 * n) (if f.done then _ else tickT k n)
    split
    · cases n <;> trivial
    · exact tickT_deep k n
theorem readL_deep (c : Nat) : ∀ n w, (readL c n w).Deep (2 * n)
  | 0, w => trivial
  | n + 1, w => by
    rw [show 2 * (n + 1) = 2 * n + 1 + 1 by omega]
    unfold readL
    split
    · trivial
    · intro e f
      show Pr.Deep (2 * n) (if f.word = w then _ else readL c n f.word)
      split
      · cases n <;> trivial
      · exact readL_deep c n _
theorem turnT_deep (c ver : Nat) (g : Nat → Option Nat) : ∀ n, (turnT c ver g n).Deep (2 * n)
  | 0 => trivial
  | n + 1 => by
    rw [show 2 * (n + 1) = 2 * n + 1 + 1 by omega]
    intro e
    show Pr.Deep (2 * n + 1) (if chg e.word = true ∨ verN e.word ≠ ver then _ else _)
    split
    · trivial
    · split
      · trivial
      · intro f
        show Pr.Deep (2 * n) (if f.done then _ else turnT c ver g n)
        split
        · cases n <;> trivial
        · exact turnT_deep c ver g n

theorem callT_deep (k c : Nat) (x : Cal) : (callT k c x).Deep 17 := by
  unfold callT
  split
  · exact fun _ => trivial
  split
  · exact (tickT_deep k 8).mono (by omega)
  split
  · exact fun e => readL_deep c 8 e.word
  split
  · exact (turnT_deep c _ _ 8).mono (by omega)
  split
  · intro e
    show Pr.Deep 16 (if chg e.word then _ else _)
    split
    · intro f g; trivial
    · trivial
  split
  · intro e
    show Pr.Deep 16 (if chg e.word then _ else _)
    split
    · intro f; trivial
    · trivial
  split
  · exact (turnT_deep c _ _ 8).mono (by omega)
  · trivial

theorem callsT_deep (k c : Nat) : ∀ (l : List Cal) (acc : List Ans), (callsT k c l acc).Deep (17 * l.length)
  | [], acc => trivial
  | x :: l, acc => by
    unfold callsT
    rw [show 17 * (x :: l).length = 17 + 17 * l.length by simp; omega]
    split
    · rw [show 17 + 17 * l.length = 16 + 17 * l.length + 1 by omega]; trivial
    · exact Pr.Deep.bind (fun a => callsT_deep k c l _) (callT_deep k c x)
end Go.Proofs.YtenhmficiegpiaaGreatDoor

namespace Go.Proofs.YtenhmficiegpiaaGreatDoor
open Go.RowKit Go.Extern.Stop Go.Stop Go.Extern

theorem is_noIsM (v : Value) (xT : TypeId) (w : World) : (Instr.typeAssert (.iface 146 v) xT 131 true).run Tryz.prog w = .ok (.tuple #[.nilIface, .bool false]) w := run_typeAssert_lacksB Tryz.underlying131 (by kernel_rfl) (by kernel_rfl) v xT w
theorem is_hasUnwrapM (v : Value) (xT : TypeId) (w : World) : (Instr.typeAssert (.iface 146 v) xT 134 true).run Tryz.prog w = .ok (.tuple #[.iface 146 v, .bool true]) w := run_typeAssert_hasB Tryz.underlying134 (by kernel_rfl) v xT w
theorem is_methodUnwrapM (v : Value) (w : World) : (Go.method 308 146 v "Unwrap").run Tryz.prog w = .ok (128, v) w := by kernel_rfl

/-- errors.Is(r, Errno(b)), r a refused value whose error is Errno(a), is whether a = b. -/
theorem is_refused (s : ByteArray) (a b : Int) (w : World) :
    Calls Tryz.prog 24 #[.iface 146 (.agg #[.string s, .iface 71 (.int .i64 a)]), .iface 71 (.int .i64 b)] w fun e w' => e = .returned (.bool (a == b)) ∧ Keeps (fun _ => False) w w' := by
  obtain ⟨i, hi, hcmp⟩ := Option.map_eq_some_iff.1 is_comp
  have tT := is_typeOf
  have cT := is_comparable
  have mR := is_methodComparable
  have nE := is_noIsE
  have uE := is_noUnwrapE
  have vE := is_noUnwrapsE
  have nF := is_noIsM
  have uF := is_hasUnwrapM
  have mU := is_methodUnwrapM
  have hty := fun w => run_eql_iface_types (P := Tryz.prog) 146 71 (.agg #[.string s, .iface 71 (.int .i64 a)]) (.int .i64 b) Tryz.underlying50 (by decide) w
  by_cases hab : a = b
  · subst hab
    have heq : ∀ w, (binOp .eql 50 (.iface 71 (.int .i64 a)) (.iface 71 (.int .i64 a))).run Tryz.prog w = .ok (.bool true) w := fun w => by
      rw [run_eql_iface_int (P := Tryz.prog) w a a Tryz.underlying50 Tryz.underlying71 hi hcmp]; simp
    go_enter Tryz.func24, Tryz.ntmps24
    go_wp2
    refine wp_loop_rounds 2 ?_
    rw [rounds_succ]
    go_wp2
    rw [rounds_succ]
    go_wp2
    go_ret
    exact ⟨by simp, (Keeps.refl _ w).alloc _⟩
  · have heq : ∀ w, (binOp .eql 50 (.iface 71 (.int .i64 a)) (.iface 71 (.int .i64 b))).run Tryz.prog w = .ok (.bool false) w := fun w => by
      rw [run_eql_iface_int (P := Tryz.prog) w a b Tryz.underlying50 Tryz.underlying71 hi hcmp]; simp [hab]
    go_enter Tryz.func24, Tryz.ntmps24
    go_wp2
    refine wp_loop_rounds 2 ?_
    rw [rounds_succ]
    go_wp2
    rw [rounds_succ]
    go_wp2
    go_ret
    exact ⟨by simp [hab], (Keeps.refl _ w).alloc _⟩

set_option maxHeartbeats 1000000 in
theorem no_refused (s : ByteArray) (k : Nat) (h1 : 1 ≤ k) (h2 : k ≤ 17) (w : World) :
    Calls Tryz.prog 16 #[.iface 146 (.agg #[.string s, .iface 71 (.int .i64 (k : Int))])] w fun e w' => e = .returned (.int .i64 (k : Int)) ∧ Keeps (fun _ => False) w w' := by
  go_enter Tryz.func16, Tryz.ntmps16
  go_wp2
  go_loopw [3] (fun i wr => ∃ m : Nat, 1 ≤ m ∧ m ≤ k ∧ i = .int .i64 m ∧ Keeps (fun _ => False) w wr) (fun i _ => 20 - (intOf i).toNat)
  case atStart => exact ⟨1, by omega, by omega, rfl, Keeps.refl _ _⟩
  case round =>
    obtain ⟨m, hm1, hm2, rfl, hK⟩ := hrel
    have k0 := Lib.hid hK
    clear hK
    have hm17 : (m : Int) ≤ 17 := by omega
    by_cases hkm : m = k
    · subst hkm
      have hb : ((m : Int) == (m : Int)) = true := by simp
      go_wp2_with (go_at_call 24; refine (is_refused s m m _).mono ?_; rintro e w1 ⟨rfl, hK⟩; have k1 := Lib.hid hK; clear hK)
      go_ret
      exact ⟨rfl, k0.out.trans_ k1.out⟩
    · have hb : ((k : Int) == (m : Int)) = false := by rw [beq_eq_false_iff_ne]; omega
      go_wp2_with (go_at_call 24; refine (is_refused s k m _).mono ?_; rintro e w1 ⟨rfl, hK⟩; have k1 := Lib.hid hK; clear hK)
      go_roundw
      case rel => exact ⟨m + 1, by omega, by omega, by go_num, k0.out.trans_ k1.out⟩
      case measure => simp [intOf]; omega

/-- An error as a value. -/
def EV (v : Value) (e : Nat) : Prop :=
  (e = 0 ∧ v = .nilIface) ∨ (e = 11 ∧ v = .iface 71 (.int .i64 11)) ∨ ((e = 2 ∨ e = 12) ∧ ∃ s, v = .iface 146 (.agg #[.string s, .iface 71 (.int .i64 (e : Int))]))

theorem no_ev {v : Value} {e : Nat} (h : EV v e) (w : World) :
    Calls Tryz.prog 16 #[v] w fun r w' => r = .returned (.int .i64 (e : Int)) ∧ Keeps (fun _ => False) w w' := by
  rcases h with ⟨rfl, rfl⟩ | ⟨rfl, rfl⟩ | ⟨he, s, rfl⟩
  · refine (no_nil w).mono ?_
    rintro e w' ⟨rfl, rfl⟩
    exact ⟨rfl, Keeps.refl _ _⟩
  · refine (no_errno 11 (by omega) (by omega) w).mono ?_
    rintro e w' ⟨rfl, rfl⟩
    exact ⟨rfl, Keeps.refl _ _⟩
  · exact no_refused s e (by omega) (by omega) w
end Go.Proofs.YtenhmficiegpiaaGreatDoor

namespace Go.Proofs.YtenhmficiegpiaaGreatDoor
open Go.RowKit Go.Extern.Stop Go.Stop Go.Extern

/-- From the world w, with R0 to come to, a body is under way in wr: T is left, at s. -/
structure Cont {α : Type} (w wr : World) (c t b a pl : Nat) (bv : Value) (rd st : Int) (ev : Value) (Z : Nat → Prop) (R0 : Option α × Rn) (T : Pr α) (s : Rn) (Z' : Nat → Prop) : Prop where
  run : RunM wr c t b a pl bv rd st ev s Z'
  mv : Mv Z Z' w wr
  same : R0 = T.run s
  good : T.Good s
  cap : Cap s

/-- The end of a call that a body makes. -/
def Ended {α : Type} (w : World) (c t b a pl : Nat) (bv : Value) (rd st : Int) (ev : Value) (Z : Nat → Prop) (R0 : Option α × Rn) (w' : World) : Prop :=
  (∃ Z', RunM w' c t b a pl bv rd st ev R0.2 Z' ∧ Mv Z Z' w w') ∧ Cap R0.2

section
variable {α : Type} {w wr w1 w2 : World} {c t b a pl : Nat} {bv : Value} {rd st : Int} {ev : Value} {Z : Nat → Prop} {R0 : Option α × Rn} {T : Pr α} {s : Rn} {Z' : Nat → Prop}

theorem Cont.begin (h : RunM w c t b a pl bv rd st ev s Z) (hc : Cap s) (hg : T.Good s) : Cont w w c t b a pl bv rd st ev Z (T.run s) T s Z := ⟨h, Mv.refl _ _, rfl, hg, hc⟩
theorem Cont.stay (h : Cont w wr c t b a pl bv rd st ev Z R0 T s Z') (k : Keeps (fun _ => False) wr w1) : Cont w w1 c t b a pl bv rd st ev Z R0 T s Z' := ⟨h.run.same k, h.mv.trans (Mv.stay k), h.same, h.good, h.cap⟩
theorem Cont.small {q : Req} {k : Ent → Pr α} (h : Cont w wr c t b a pl bv rd st ev Z R0 (.acc q k) s Z') : q.small := h.good.1
theorem Cont.ended {x : α} (h : Cont w wr c t b a pl bv rd st ev Z R0 (.ret x) s Z') : R0.1 = some x ∧ Ended w c t b a pl bv rd st ev Z R0 wr := by
  have e := h.same
  rw [show (Pr.ret x).run s = (some x, s) from rfl] at e
  subst e
  exact ⟨rfl, ⟨_, h.run, h.mv⟩, h.cap⟩
theorem Ended.stay (h : Ended w c t b a pl bv rd st ev Z R0 wr) (k : Keeps (fun _ => False) wr w1) : Ended w c t b a pl bv rd st ev Z R0 w1 := by
  obtain ⟨⟨Z', h1, h2⟩, h3⟩ := h
  exact ⟨⟨Z', h1.same k, h2.trans (Mv.stay k)⟩, h3⟩

theorem ErrV.ok_nil {w : World} {v : Value} {e : EA} (h : ErrV w v e) (he : e = .ok) : v = .nilIface := by subst he; exact h
theorem ErrV.no_val {w : World} {v : Value} {e : EA} {k : Nat} (h : ErrV w v e) (he : e = .no k) : v = .iface 71 (.int .i64 (k : Int)) := by subst he; exact h

/-- Behind an access. -/
theorem Cont.next {q : Req} {k : Ent → Pr α} {v : Value} (h : Cont w wr c t b a pl bv rd st ev Z R0 (.acc q k) s Z') (k1 : Keeps (fun _ => False) wr w1) (hA : Asked w1 c t b a pl bv rd st ev s Z' q v w2) :
    (v = .nilIface ∧ ∃ Z'', Cont w w2 c t b a pl bv rd st ev Z R0 (k (ask s q).1) (ask s q).2 Z'' ∧ Mv Z' Z'' w1 w2) ∨
    (v = .iface 71 (.int .i64 11) ∧ R0.1 = none ∧ Ended w c t b a pl bv rd st ev Z R0 w2) := by
  obtain ⟨hv, _, Z2, hr, hm⟩ := hA
  have hm' := (h.mv.trans (Mv.stay k1)).trans hm
  have hc := h.cap.ask h.run.ok h.small
  have e := h.same
  rcases h.good.2 with ⟨h1, h2⟩ | h1
  · rw [show (Pr.acc q k).run s = (k (ask s q).1).run (ask s q).2 by simp only [Pr.run, if_pos h1]] at e
    exact .inl ⟨hv.ok_nil h1, Z2, ⟨hr, hm', e, h2, hc⟩, hm⟩
  · rw [show (Pr.acc q k).run s = (none, (ask s q).2) by simp [Pr.run, h1]] at e
    subst e
    exact .inr ⟨hv.no_val h1, rfl, ⟨Z2, hr, hm'⟩, hc⟩
end

/-- What an access tells is a word. -/
theorem ask_word {s : Rn} (h : s.Ok) {q : Req} (hq : q.small) : (ask s q).1.word < 18446744073709551616 := by
  unfold ask
  by_cases h1 : s.next < s.log.length
  · rw [if_pos h1]
    exact (Ent.ans_ok (h.log _ (by rw [List.getD, List.getElem?_eq_getElem h1]; exact List.getElem_mem h1))).word
  · rw [if_neg h1]
    by_cases h2 : s.over = true
    · rw [if_pos h2]; simp [Ent.zero]
    · rw [if_neg h2]; exact (Ent.ans_ok (doReq_ok h.m q hq).1).word

theorem wrap_up (x : Nat) : IntKind.u64.wrap ((x : Int) + 1) = (((x + 1) % 18446744073709551616 : Nat) : Int) := by rw [IntKind.wrap_u64]; omega
theorem wrap_i64' (x : Nat) (h : x < 18446744073709551616) : wrap64 (x : Int) = i64 x := by unfold i64 wrap64; split <;> omega

/-- A scope with one label to which the run jumps back: what holds at the label, and a measure. -/
theorem wp_scope_label {P : Program} {c rest : Code} {Q : Exit → Act → World → Prop} {a : Act} {w : World} (l : Nat) (J : Act → World → Prop) (μ : Act → World → Nat) (hf : findLabel c l = some (Code.skip.seq rest))
    (pass : ∀ a w, J a w → rest.wp P (Exit.jump l (fun a' w' => J a' w' ∧ μ a' w' < μ a w) Q) a w)
    (first : (∀ a w, J a w → rest.wp P (Exit.jump l J Q) a w) → c.wp P (Exit.jump l J Q) a w) : (Code.scope c).wp P Q a w := by
  refine wp_scope_jumps l J μ hf (first fun a w h => wp_mono (pass a w h) ?_) fun a w h => wp_seq (wp_skip (pass a w h))
  intro e a' w' h
  cases e <;> first | exact h | exact ⟨h.1, h.2.1⟩

/-- What a call answers. -/
def ansOf : Option Ans → Ans
  | some x => x
  | none => ⟨11, 0, 0⟩
end Go.Proofs.YtenhmficiegpiaaGreatDoor
