/-
  Bodies as trees of accesses, plainly: what a tree does in a step under way (Pr.run); what is left of it behind a log (Pr.after); a step of what is left (Pr.step). Of no program.
  thread, over any body that is a tree of accesses: what such a body is (IsBody); a thread at rest; runBody by contract.
  thread, over any body that is a tree of accesses: a thread at rest (ThO), New, Done, Step and Run by contract.
  thread, over any body that is a tree of accesses: a thread by what is left of its tree (TG); Step and Run by contract.
-/
import Derived.Test.YtenhmficiegpiaaGreatDoorThPlain
import Derived.Test.YtenhmficiegpiaaGreatDoorThCtx
import Derived.Test.YtenhmficiegpiaaGreatDoorThStep
import Derived.Test.YtenhmficiegpiaaGreatDoorBkNew
import Derived.StillTailTactics
import Derived.LoopTactic

namespace Go.Proofs.YtenhmficiegpiaaGreatDoor

/-- What a body does: an answer, or an access and what is done by what it tells. -/
inductive Pr (α : Type) where
  | ret (a : α)
  | acc (q : Req) (k : Ent → Pr α)

def Pr.run {α : Type} : Pr α → Rn → Option α × Rn
  | .ret a, s => (some a, s)
  | .acc q k, s => if (ask s q).1.err = .ok then (k (ask s q).1).run (ask s q).2 else (none, (ask s q).2)

def Pr.bind {α β : Type} : Pr α → (α → Pr β) → Pr β
  | .ret a, f => f a
  | .acc q k, f => .acc q fun e => (k e).bind f

theorem Pr.run_bind {α β : Type} (f : α → Pr β) : ∀ (p : Pr α) (s : Rn), (p.bind f).run s = match p.run s with
    | (some a, s') => (f a).run s'
    | (none, s') => (none, s')
  | .ret a, s => rfl
  | .acc q k, s => by
    simp only [Pr.bind, Pr.run]
    by_cases h : (ask s q).1.err = .ok
    · simp only [if_pos h]; exact Pr.run_bind f _ _
    · simp only [if_neg h]

/-- Each access of it tells something, or that the step is over. -/
def Pr.Good {α : Type} : Pr α → Rn → Prop
  | .ret _, _ => True
  | .acc q k, s => q.small ∧ (((ask s q).1.err = .ok ∧ (k (ask s q).1).Good (ask s q).2) ∨ (ask s q).1.err = .no 11)

theorem Pr.good_bind {α β : Type} (f : α → Pr β) : ∀ (p : Pr α) (s : Rn), (p.bind f).Good s → p.Good s ∧ ∀ a s', p.run s = (some a, s') → (f a).Good s'
  | .ret a, s, h => ⟨trivial, fun b s' e => by simp only [Pr.run, Prod.mk.injEq, Option.some.injEq] at e; obtain ⟨rfl, rfl⟩ := e; exact h⟩
  | .acc q k, s, h => by
    obtain ⟨h1, h2⟩ := h
    rcases h2 with ⟨h2, h3⟩ | h2
    · obtain ⟨h4, h5⟩ := Pr.good_bind f _ _ h3
      exact ⟨⟨h1, .inl ⟨h2, h4⟩⟩, fun a s' e => by simp only [Pr.run, if_pos h2] at e; exact h5 a s' e⟩
    · refine ⟨⟨h1, .inr h2⟩, fun a s' e => ?_⟩
      simp only [Pr.run, h2] at e
      simp at e

theorem Pr.good_of_bind {α β : Type} (f : α → Pr β) : ∀ (p : Pr α) (s : Rn), p.Good s → (∀ a s', p.run s = (some a, s') → (f a).Good s') → (p.bind f).Good s
  | .ret a, s, _, h => h a s rfl
  | .acc q k, s, h, hf => by
    obtain ⟨h1, h2⟩ := h
    rcases h2 with ⟨h2, h3⟩ | h2
    · exact ⟨h1, .inl ⟨h2, Pr.good_of_bind f _ _ h3 fun a s' e => hf a s' (by simp only [Pr.run, if_pos h2]; exact e)⟩⟩
    · exact ⟨h1, .inr h2⟩

/-- What is left of it behind a log; the log is one of it. -/
def Pr.after {α : Type} : Pr α → List Ent → Pr α
  | p, [] => p
  | .ret a, _ :: _ => .ret a
  | .acc _ k, e :: l => (k e).after l
def Pr.Eats {α : Type} : Pr α → List Ent → Prop
  | _, [] => True
  | .ret _, _ :: _ => False
  | .acc q k, e :: l => q.small ∧ e.err = .ok ∧ (k e).Eats l

def Pr.isRet {α : Type} : Pr α → Bool
  | .ret _ => true
  | .acc _ _ => false
def Pr.val {α : Type} : Pr α → Option α
  | .ret a => some a
  | .acc _ _ => none

/-- Its next access can be done. -/
def Pr.Can {α : Type} : Pr α → Mm → Prop
  | .ret _, _ => True
  | .acc q k, m => q.small ∧ (doReq m q).1.err = .ok ∧ match k (doReq m q).1 with
    | .ret _ => True
    | .acc q' _ => q'.small
/-- A step of what is left. -/
def Pr.step {α : Type} : Pr α → Mm → Pr α × Mm
  | .ret a, m => (.ret a, m)
  | .acc q k, m => (k (doReq m q).1, (doReq m q).2)
/-- The log behind it. -/
def Pr.logs {α : Type} : Pr α → Mm → List Ent
  | .ret _, _ => []
  | .acc q _, m => [(doReq m q).1]

theorem Ent.ans_same {e : Ent} (h : e.err = .ok) : e.ans = e := by unfold Ent.ans; rw [if_pos h]

theorem ask_replay {s : Rn} {q : Req} (h : s.next < s.log.length) : ask s q = ((s.log.getD s.next (.zero .ok)).ans, { s with next := s.next + 1 }) := by unfold ask; rw [if_pos h]

/-- A tree ahead of the log's end. -/
theorem Pr.run_log {α : Type} (L : List Ent) (m : Mm) : ∀ (l : List Ent) (p : Pr α) (n : Nat), L.drop n = l → n ≤ L.length → p.Eats l →
    p.run ⟨L, n, false, m⟩ = (p.after l).run ⟨L, L.length, false, m⟩ ∧ (p.Good ⟨L, n, false, m⟩ ↔ (p.after l).Good ⟨L, L.length, false, m⟩)
  | [], p, n, h, hn, _ => by
    have : n = L.length := by have := List.drop_eq_nil_iff.1 h; omega
    subst this
    cases p <;> exact ⟨rfl, Iff.rfl⟩
  | e :: l, .ret a, n, _, _, he => he.elim
  | e :: l, .acc q k, n, h, hn, he => by
    have hlt : n < L.length := by
      rcases Nat.lt_or_ge n L.length with h' | h'
      · exact h'
      · rw [List.drop_eq_nil_of_le h'] at h; cases h
    have hd := List.drop_eq_getElem_cons hlt
    rw [h] at hd
    injection hd with h1 h2
    have hg : L.getD n (.zero .ok) = e := by rw [List.getD, List.getElem?_eq_getElem hlt, h1]; rfl
    have ha : ask ⟨L, n, false, m⟩ q = (e, ⟨L, n + 1, false, m⟩) := by
      rw [ask_replay hlt]
      simp only [hg, Ent.ans_same he.2.1]
    obtain ⟨i1, i2⟩ := Pr.run_log L m l (k e) (n + 1) h2.symm hlt he.2.2
    constructor
    · simp only [Pr.run, ha, if_pos he.2.1, Pr.after]
      exact i1
    · simp only [Pr.Good, ha, Pr.after, i2]
      constructor
      · rintro ⟨_, ⟨_, h⟩ | h⟩
        · exact h
        · rw [he.2.1] at h; cases h
      · intro h
        exact ⟨he.1, .inl ⟨he.2.1, h⟩⟩

/-- A step of a body: what it comes to. -/
theorem Pr.run_step {α : Type} {T : Pr α} {L : List Ent} {m : Mm} (he : T.Eats L) (hc : (T.after L).Can m) :
    (T.run ⟨L, 0, false, m⟩).1 = ((T.after L).step m).1.val ∧ (T.run ⟨L, 0, false, m⟩).2.log = L ++ (T.after L).logs m ∧ (T.run ⟨L, 0, false, m⟩).2.m = ((T.after L).step m).2 ∧ T.Good ⟨L, 0, false, m⟩ := by
  obtain ⟨r1, r2⟩ := Pr.run_log L m L T 0 rfl (Nat.zero_le _) he
  rw [r1, r2]
  generalize T.after L = p at hc ⊢
  cases p with
  | ret a => exact ⟨rfl, (List.append_nil _).symm, rfl, trivial⟩
  | acc q k =>
    obtain ⟨c1, c2, c3⟩ := hc
    have ha : ask ⟨L, L.length, false, m⟩ q = ((doReq m q).1, ⟨L ++ [(doReq m q).1], L.length + 1, true, (doReq m q).2⟩) := by
      unfold ask
      rw [if_neg (by simp), if_neg (by simp)]
      simp only [Ent.ans_same c2]
    simp only [Pr.run, Pr.Good, ha, if_pos c2, Pr.step, Pr.logs]
    generalize doReq m q = r at c2 c3 ha ⊢
    generalize hk : k r.1 = p' at c3 ⊢
    cases p' with
    | ret b => exact ⟨rfl, rfl, rfl, c1, .inl ⟨c2, trivial⟩⟩
    | acc q' k' =>
      have hb : ask ⟨L ++ [r.1], L.length + 1, true, r.2⟩ q' = (.zero (.no 11), ⟨L ++ [r.1], L.length + 1, true, r.2⟩) := by
        unfold ask
        rw [if_neg (by simp), if_pos rfl]
      simp only [Pr.run, Pr.Good, hb]
      refine ⟨rfl, rfl, rfl, c1, .inl ⟨c2, c3, .inr rfl⟩⟩

theorem Pr.after_append {α : Type} : ∀ (L K : List Ent) (T : Pr α), T.after (L ++ K) = (T.after L).after K
  | [], K, T => by cases T <;> rfl
  | e :: L, K, .ret a => by cases K <;> rfl
  | e :: L, K, .acc q k => by simp only [List.cons_append, Pr.after]; exact Pr.after_append L K _
theorem Pr.eats_append {α : Type} : ∀ (L K : List Ent) (T : Pr α), T.Eats L → (T.after L).Eats K → T.Eats (L ++ K)
  | [], K, T, _, h => by cases T <;> exact h
  | e :: L, K, .ret a, h, _ => h.elim
  | e :: L, K, .acc q k, h, h2 => ⟨h.1, h.2.1, Pr.eats_append L K _ h.2.2 h2⟩
/-- Behind the step the log is one of it, and what is left is what the step left. -/
theorem Pr.eats_step {α : Type} {T : Pr α} {L : List Ent} {m : Mm} (he : T.Eats L) (hc : (T.after L).Can m) : T.Eats (L ++ (T.after L).logs m) ∧ T.after (L ++ (T.after L).logs m) = ((T.after L).step m).1 := by
  rw [Pr.after_append]
  constructor
  · refine Pr.eats_append _ _ _ he ?_
    generalize T.after L = p at hc ⊢
    cases p with
    | ret a => trivial
    | acc q k => exact ⟨hc.1, hc.2.1, by generalize k _ = p'; cases p' <;> trivial⟩
  · generalize T.after L = p
    cases p with
    | ret a => rfl
    | acc q k =>
      simp only [Pr.logs, Pr.after, Pr.step]

/-- It does at most n accesses. -/
def Pr.Deep {α : Type} : Nat → Pr α → Prop
  | _, .ret _ => True
  | 0, .acc _ _ => False
  | n + 1, .acc _ k => ∀ e, (k e).Deep n
theorem Pr.Deep.mono {α : Type} : ∀ {n n' : Nat} {p : Pr α}, Pr.Deep n p → n ≤ n' → Pr.Deep n' p
  | _, n', .ret _, _, _ => by cases n' <;> trivial
  | 0, _, .acc _ _, h, _ => h.elim
  | n + 1, 0, .acc _ _, _, h => by omega
  | n + 1, n' + 1, .acc _ k, h, hn => fun e => Pr.Deep.mono (h e) (by omega)
theorem Pr.Deep.bind {α β : Type} {f : α → Pr β} {b : Nat} (hf : ∀ a, (f a).Deep b) : ∀ {n : Nat} {p : Pr α}, p.Deep n → (p.bind f).Deep (n + b)
  | n, .ret a, _ => (hf a).mono (by omega)
  | 0, .acc _ _, h => h.elim
  | n + 1, .acc q k, h => by
    rw [show n + 1 + b = (n + b) + 1 by omega]
    exact fun e => Pr.Deep.bind hf (h e)
theorem Pr.Deep.step {α : Type} {n : Nat} {p : Pr α} (m : Mm) (h : p.Deep (n + 1)) : (p.step m).1.Deep n := by
  cases p with
  | ret a => cases n <;> trivial
  | acc q k => exact h _
theorem Pr.Deep.zero {α : Type} {p : Pr α} (h : p.Deep 0) : p.isRet = true := by
  cases p with
  | ret a => rfl
  | acc q k => exact h.elim
end Go.Proofs.YtenhmficiegpiaaGreatDoor

namespace Go.Proofs.YtenhmficiegpiaaGreatDoor
open Go.RowKit Go.Extern.Stop Go.Stop Go.Extern

theorem RunM.ok {w : World} {c t b a pl : Nat} {bv : Value} {round steps : Int} {ev : Value} {s : Rn} {Z : Nat → Prop} (h : RunM w c t b a pl bv round steps ev s Z) : s.Ok := by
  obtain ⟨_, _, h⟩ := h; exact h.ok
theorem RunM.old {w : World} {c t b a pl : Nat} {bv : Value} {round steps : Int} {ev : Value} {s : Rn} {Z : Nat → Prop} (h : RunM w c t b a pl bv round steps ev s Z) : ∀ x, Z x → x < w.heap.size := by
  obtain ⟨_, _, h⟩ := h; exact h.old
theorem RunM.gl {w : World} {c t b a pl : Nat} {bv : Value} {round steps : Int} {ev : Value} {s : Rn} {Z : Nat → Prop} (h : RunM w c t b a pl bv round steps ev s Z) : etB < w.heap.size := by
  obtain ⟨_, _, h⟩ := h; exact h.glob.lt
theorem RunM.far {w w' : World} {c t b a pl : Nat} {bv : Value} {round steps : Int} {ev : Value} {s : Rn} {Z S : Nat → Prop} (h : RunM w c t b a pl bv round steps ev s Z) (k : Keeps S w w') (hS : ∀ x, Z x → ¬ S x) (hg : ¬ S etB) : RunM w' c t b a pl bv round steps ev s Z := by
  obtain ⟨lv, X, h⟩ := h
  exact ⟨lv, X, h.keeps k hS hg⟩

/-- There is room for one more access. -/
def Cap (s : Rn) : Prop := s.log.length + (if s.over then 0 else 1) ≤ 4999 ∧ s.m.cnt + (if s.over then 0 else 1) < 10000

theorem Cap.few {s : Rn} (h : Cap s) : s.log.length ≤ 4999 ∧ s.m.cnt < 10000 := by unfold Cap at h; omega
theorem Cap.ask {s : Rn} (h : Cap s) (hok : s.Ok) {q : Req} (hq : q.small) : Cap (ask s q).2 := by
  rcases ask_ok hok q hq with ⟨_, h2, _⟩ | ⟨_, _, _, h4⟩
  · rw [h2]; exact h
  · unfold Cap at *
    rcases h4 with ⟨a1, a2, a3⟩ | ⟨a1, a2, a3, _, a5, _⟩
    · rw [a1, a2, a3]; exact h
    · rw [a1] at h
      rw [a2, a3, a5]
      simp at h ⊢
      omega

/-- The error of a body's step. -/
def eaOf {α : Type} : Option α → EA
  | some _ => .ok
  | none => .no 11

/-- What a step of a body leaves: Y': what the body has of its own. -/
structure BodyTo {α : Type} (P : World → (Nat → Prop) → Option α → Prop) (w : World) (c t b a pl : Nat) (bv : Value) (rd st : Int) (ev : Value) (Z Y R : Nat → Prop) (r : Option α × Rn) (v : Value) (w' : World) (Y' Z' : Nat → Prop) : Prop where
  err : ErrV w' v (eaOf r.1)
  run : RunM w' c t b a pl bv rd st ev r.2 Z'
  own : P w' Y' r.1
  keeps : Keeps (fun x => Z x ∨ Y x) w w'
  newZ : ∀ x, Z' x → Z x ∨ w.heap.size ≤ x
  newY : ∀ x, Y' x → Y x ∨ w.heap.size ≤ x
  apart : ∀ x, Y' x ∨ R x → ¬ Z' x

/-- The function F with the captures caps is a body that does the tree T. P: what it has of its own (Y), and what it reads (R). -/
structure IsBody {α : Type} (F : Nat) (caps : Array Value) (T : Pr α) (R : Nat → Prop) (P : World → (Nat → Prop) → Option α → Prop) : Prop where
  enters : ∀ (args : Array Value) (w : World), (callFunc F args).run Tryz.prog w = .ok (.enter F args) w
  keeps : ∀ {w w' : World} {Y S : Nat → Prop} {x : Option α}, P w Y x → Keeps S w w' → (∀ y, Y y ∨ R y → ¬ S y) → P w' Y x
  old : ∀ {w : World} {Y : Nat → Prop} {x : Option α}, P w Y x → ∀ y, Y y ∨ R y → y < w.heap.size
  does : ∀ {w : World} {c t b a pl : Nat} {rd st : Int} {ev : Value} {s : Rn} {Z Y : Nat → Prop}, RunM w c t b a pl (.func (.func F) #[] caps) rd st ev s Z → P w Y none → (∀ y, Y y ∨ R y → ¬ Z y) → Cap s → T.Good s →
    Calls Tryz.prog F (#[.pointer (some ⟨c, 0, none⟩), .int .i64 rd] ++ caps) w fun e w' => ∃ v Y' Z', e = .returned v ∧ BodyTo P w c t b a pl (.func (.func F) #[] caps) rd st ev Z Y R (T.run s) v w' Y' Z'

/-- A thread's parts while no step is under way, but for its error. -/
structure ThQ (w : World) (t b a pl : Nat) (bv : Value) (rd st : Nat) (log : List Ent) (dn : Bool) (ev : Value) (m : Mm) (lv : Value) (X Z : Nat → Prop) : Prop where
  th : ThRaw w t b pl bv (rd : Int) (st : Int) log lv false dn ev
  mm : MmM w b a m X
  x : ∀ x, X x → Z x
  own : ∀ x, Own3 t pl lv x → Z x ∧ ¬ X x
  old : ∀ x, Z x → x < w.heap.size
  glob : Glob w
  gz : ¬ Z etB

/-- A new Ctx for a step. -/
theorem ThQ.begin {w : World} {t b a pl : Nat} {bv : Value} {rd st : Nat} {log : List Ent} {ev : Value} {m : Mm} {lv : Value} {X Z : Nat → Prop} (h : ThQ w t b a pl bv rd st log false ev m lv X Z) {w1 : World} (k : Keeps (fun _ => False) w w1) {c : Nat} (hc : w.heap.size ≤ c) (hC : Whole w1 c 123 #[.pointer (some ⟨t, 0, none⟩), .int .i64 0, .bool false]) (hok : Rn.Ok ⟨log, 0, false, m⟩) :
    RunP (w1.setCell ⟨t, 6, none⟩ (.bool true)) c t b a pl bv (rd : Int) (st : Int) ev ⟨log, 0, false, m⟩ lv X (fun x => Z x ∨ x = c) ∧ Keeps Z w (w1.setCell ⟨t, 6, none⟩ (.bool true)) := by
  have hct : ¬ t = c := fun e => by have := h.old t (h.own t (.inl rfl)).1; omega
  have ks : Keeps (fun x => x = t) w1 (w1.setCell ⟨t, 6, none⟩ (.bool true)) := (Keeps.refl (fun x => x = t) w1).setCell (p := ⟨t, 6, none⟩) (fun _ => rfl) _
  have th1 := h.th.same k
  have hnX : ¬ X t := (h.own t (.inl rfl)).2
  refine ⟨{
    ctx := hC.keeps ks fun e => hct e.symm
    th := ⟨th1.blk.set_ 6 (.bool true), th1.row.keeps ks fun g hg e => (th1.row_ne hg).1 e, th1.map.keeps ks fun e => th1.ne e.symm⟩
    mm := (h.mm.same k).keeps ks fun x hx e => hnX (e ▸ hx)
    ok := hok
    x := fun x hx => .inl (h.x x hx)
    own := fun x hx => ⟨.inl (h.own x hx).1, (h.own x hx).2⟩
    cz := ⟨.inr rfl, fun hx => by have := h.old c (h.x c hx); omega⟩
    old := fun x hx => ?_
    glob := (h.glob.keeps k id).keeps ks fun e => h.gz (by subst e; exact (h.own _ (.inl rfl)).1)
    gz := fun hx => hx.elim h.gz fun e => by have : etB < w.heap.size := h.glob.lt; omega }, (k.mono fun _ _ => False.elim).trans ks fun x _ e => by rw [e]; exact (h.own t (.inl rfl)).1⟩
  rw [World.size_setCell]
  rcases hx with hx | rfl
  · exact Nat.lt_of_lt_of_le (h.old x hx) k.size
  · exact hC.lt

/-- What runBody leaves. -/
structure BodyRan {α : Type} (P : World → (Nat → Prop) → Option α → Prop) (w : World) (t b a pl : Nat) (bv : Value) (rd st : Nat) (ev : Value) (Z Y R : Nat → Prop) (r : Option α × Rn) (v : Value) (w' : World) (lv : Value) (X' Y' Z' : Nat → Prop) : Prop where
  err : ErrV w' v (eaOf r.1)
  ok : r.2.Ok
  th : ThQ w' t b a pl bv rd st r.2.log false ev r.2.m lv X' Z'
  own : P w' Y' r.1
  keeps : Keeps (fun x => Z x ∨ Y x) w w'
  newZ : ∀ x, Z' x → Z x ∨ w.heap.size ≤ x
  newY : ∀ x, Y' x → Y x ∨ w.heap.size ≤ x
  apart : ∀ x, Y' x ∨ R x → ¬ Z' x

/-- Behind the body and the deferred function. -/
theorem BodyTo.finish {α : Type} {F : Nat} {caps : Array Value} {T : Pr α} {R : Nat → Prop} {P : World → (Nat → Prop) → Option α → Prop} (B : IsBody F caps T R P) {w w1 w2 : World} {c t b a pl pe : Nat} {bv : Value} {rd st : Nat} {ev v : Value} {r : Option α × Rn} {Z Y Z0 Z1 Y1 : Nat → Prop}
    (h0 : BodyTo P w2 c t b a pl bv (rd : Int) (st : Int) ev Z0 Y R r v w1 Y1 Z1) (hk : Keeps Z w w2) (hZ : ∀ x, Z0 x → Z x ∨ w.heap.size ≤ x) (hpe : Whole w1 pe 50 #[.nilIface]) (npe : ¬ Z1 pe) (wpe : w.heap.size ≤ pe) (ppe : pe < w2.heap.size) (oldY : ∀ y, Y y ∨ R y → y < w.heap.size) :
    ∃ lv X Z', BodyRan P w t b a pl bv rd st ev Z Y R r v (shutW (w1.setCell ⟨pe, 0, none⟩ v) c t) lv X Y1 Z' := by
  have hP := h0.own
  have hap := h0.apart
  have hv := h0.err
  obtain ⟨lv, X, h⟩ := h0.run
  have k1 : Keeps (fun x => x = pe) w1 (w1.setCell ⟨pe, 0, none⟩ v) := (Keeps.refl (fun x => x = pe) w1).setCell (p := ⟨pe, 0, none⟩) (fun _ => rfl) _
  have k2 : Keeps (fun x => x = c) (w1.setCell ⟨pe, 0, none⟩ v) (((w1.setCell ⟨pe, 0, none⟩ v).setCell ⟨c, 1, none⟩ (.int .i64 6000)).setCell ⟨c, 2, none⟩ (.bool true)) := ((Keeps.refl (fun x => x = c) _).setCell (p := ⟨c, 1, none⟩) (fun _ => rfl) _).setCell (p := ⟨c, 2, none⟩) (fun _ => rfl) _
  have k3 : Keeps (fun x => x = t) (((w1.setCell ⟨pe, 0, none⟩ v).setCell ⟨c, 1, none⟩ (.int .i64 6000)).setCell ⟨c, 2, none⟩ (.bool true)) (shutW (w1.setCell ⟨pe, 0, none⟩ v) c t) := (Keeps.refl (fun x => x = t) _).setCell (p := ⟨t, 6, none⟩) (fun _ => rfl) _
  have nct : ∀ x, Own3 t pl lv x → ¬ x = c := by
    rintro x (rfl | rfl | hx) e
    · exact h.ctx.ne_ h.th.blk (by decide) e.symm
    · exact h.ctx.ne_map h.th.map e.symm
    · subst e; exact Go.Proofs.YtenhmficiegpiaaGreatDoor.row_ne h.th.row h.ctx (by decide) hx
  have zp : ∀ x, Z1 x → ¬ x = pe := fun x hx e => npe (e ▸ hx)
  have th1 := (h.th.keeps k1 fun x hx => zp x (h.own x hx).1).keeps k2 nct
  have mm1 := ((h.mm.keeps k1 fun x hx => zp x (h.x x hx)).keeps k2 fun x hx e => h.cz.2 (e ▸ hx)).keeps k3 fun x hx e => (h.own t (.inl rfl)).2 (e ▸ hx)
  have kall : Keeps (fun x => x = pe ∨ x = c ∨ x = t) w1 (shutW (w1.setCell ⟨pe, 0, none⟩ v) c t) := ((k1.mono fun _ _ => .inl).trans k2 fun _ _ h => .inr (.inl h)).trans k3 fun _ _ h => .inr (.inr h)
  have ht : Z1 t := (h.own t (.inl rfl)).1
  have hw2 : w.heap.size ≤ w2.heap.size := hk.size
  refine ⟨lv, X, Z1, {
    err := ?_
    ok := h.ok
    th := {
      th := ⟨th1.blk.set_ 6 (.bool false), th1.row.keeps k3 fun g hg e => (th1.row_ne hg).1 e, th1.map.keeps k3 fun e => th1.ne e.symm⟩
      mm := mm1
      x := h.x
      own := h.own
      old := fun x hx => Nat.lt_of_lt_of_le (h.old x hx) kall.size
      glob := h.glob.keeps kall ?_
      gz := h.gz }
    own := B.keeps hP kall ?_
    keeps := ?_
    newZ := fun x hx => ?_
    newY := fun x hx => (h0.newY x hx).imp id fun h' => Nat.le_trans hw2 h'
    apart := hap }⟩
  · cases hr : r.1 with
    | some x => rw [hr] at hv; exact hv
    | none => rw [hr] at hv; exact hv
  · rintro (e | e | e)
    · subst e
      have hg := h.glob
      unfold Glob at hg
      rw [hpe.at_ 0] at hg
      cases hg
    · subst e
      exact h.gz h.cz.1
    · subst e
      exact h.gz ht
  · rintro y hy (rfl | rfl | rfl)
    · rcases hy with hy | hy
      · rcases h0.newY _ hy with h' | h'
        · have := oldY _ (.inl h'); omega
        · omega
      · have := oldY _ (.inr hy); omega
    · exact hap _ hy h.cz.1
    · exact hap _ hy ht
  · have k12 : Keeps (fun x => Z x ∨ Y x) w w1 := (hk.mono fun _ _ => .inl).trans h0.keeps fun x hx hz => hz.elim (fun hz => (hZ x hz).elim .inl fun h' => absurd hx (Nat.not_lt.2 h')) .inr
    refine k12.trans kall fun x hx hz => ?_
    have back : ∀ y, y < w.heap.size → Z1 y → Z y := fun y hy hz => (h0.newZ y hz).elim (fun h0 => (hZ y h0).elim id fun h' => absurd hy (Nat.not_lt.2 h')) fun h' => absurd hy (Nat.not_lt.2 (Nat.le_trans hw2 h'))
    rcases hz with rfl | rfl | rfl
    · exact absurd hx (Nat.not_lt.2 wpe)
    · exact .inl (back _ hx h.cz.1)
    · exact .inl (back _ hx ht)
  · exact (h0.newZ x hx).elim (hZ x) fun h' => .inr (Nat.le_trans hw2 h')

set_option maxRecDepth 100000 in
set_option maxHeartbeats 1000000 in
theorem runBody_any {α : Type} {F : Nat} {caps : Array Value} {T : Pr α} {R : Nat → Prop} {P : World → (Nat → Prop) → Option α → Prop} (B : IsBody F caps T R P) {w : World} {t b a pl : Nat} {rd st : Nat} {log : List Ent} {ev : Value} {m : Mm} {Z Y : Nat → Prop} (h : ∃ lv X, ThQ w t b a pl (.func (.func F) #[] caps) rd st log false ev m lv X Z) (hp : P w Y none) (hd : ∀ y, Y y ∨ R y → ¬ Z y) (hok : Rn.Ok ⟨log, 0, false, m⟩) (few : log.length ≤ 4000) (hcnt : m.cnt < 9000) (hG : T.Good ⟨log, 0, false, m⟩) :
    Calls Tryz.prog 30 #[.pointer (some ⟨t, 0, none⟩)] w fun e w' => ∃ v lv X' Y' Z', e = .returned v ∧ BodyRan P w t b a pl (.func (.func F) #[] caps) rd st ev Z Y R (T.run ⟨log, 0, false, m⟩) v w' lv X' Y' Z' := by
  obtain ⟨lv, X, h⟩ := h
  have hmf := make_func
  have hent := B.enters
  have lt : t < w.heap.size := h.old t (h.own t (.inl rfl)).1
  obtain ⟨W1, hW1⟩ : ∃ W, W = (((w.alloc (.cells #[.pointer (some ⟨t, 0, none⟩)] 46)).alloc (.cells #[.nilIface] 50)).alloc (.cells #[.pointer (some ⟨t, 0, none⟩), .int .i64 0, .bool false] 123)).alloc (.cells #[.pointer (some ⟨w.heap.size + 1 + 1, 0, none⟩)] 48) := ⟨_, rfl⟩
  have k1 : Keeps (fun _ => False) w W1 := by rw [hW1]; exact ((((Keeps.refl _ w).alloc _).alloc _).alloc _).alloc _
  have n0 : Whole W1 w.heap.size 46 #[.pointer (some ⟨t, 0, none⟩)] := by rw [hW1]; exact (((made_at _ (by simp) _ _).alloc _).alloc _).alloc _
  have n1 : Whole W1 (w.heap.size + 1) 50 #[.nilIface] := by rw [hW1]; exact ((made_at _ (by simp) _ _).alloc _).alloc _
  have m2 : Whole W1 (w.heap.size + 1 + 1) 123 #[.pointer (some ⟨t, 0, none⟩), .int .i64 0, .bool false] := by rw [hW1]; exact (made_at _ (by simp) _ _).alloc _
  have n3 : Whole W1 (w.heap.size + 1 + 1 + 1) 48 #[.pointer (some ⟨w.heap.size + 1 + 1, 0, none⟩)] := by rw [hW1]; exact made_at _ (by simp) _ _
  obtain ⟨hP, hK⟩ := h.begin k1 (c := w.heap.size + 1 + 1) (by omega) m2 hok
  have t6 : W1.cell? ⟨t, 6, none⟩ = some (.bool false) := (h.th.same k1).blk.at_ 6
  have f6 : W1.frozen? ⟨t, 6, none⟩ = false := (h.th.same k1).blk.free 6
  obtain ⟨W2, hW2⟩ : ∃ W, W = W1.setCell ⟨t, 6, none⟩ (.bool true) := ⟨_, rfl⟩
  rw [← hW2] at hP hK
  have ks : Keeps (fun x => x = t) W1 W2 := by rw [hW2]; exact (Keeps.refl (fun x => x = t) W1).setCell (p := ⟨t, 6, none⟩) (fun _ => rfl) _
  have m0 := n0.keeps ks (by omega)
  have m1 := n1.keeps ks (by omega)
  have m3 := n3.keeps ks (by omega)
  obtain ⟨W3, hW3⟩ : ∃ W, W = W2.drew := ⟨_, rfl⟩
  have kd : Keeps (fun _ => False) W2 W3 := by rw [hW3]; exact (Keeps.refl _ W2).drew
  have P3 := hP.same kd
  have r0 : W3.cell? ⟨w.heap.size, 0, none⟩ = some (.pointer (some ⟨t, 0, none⟩)) := (m0.keeps kd id).at_ 0
  have M1 := Lib.hid (m1.keeps kd id)
  have M0 := Lib.hid (m0.keeps kd id)
  have M3 := Lib.hid (m3.keeps kd id)
  have r3 : W3.cell? ⟨w.heap.size + 1 + 1 + 1, 0, none⟩ = some (.pointer (some ⟨w.heap.size + 1 + 1, 0, none⟩)) := M3.out.at_ 0
  have r1 : W3.cell? ⟨t, 1, none⟩ = some (.func (.func F) #[] caps) := P3.th.blk.at_ 1
  have r2 : W3.cell? ⟨t, 2, none⟩ = some (.int .i64 (rd : Int)) := P3.th.blk.at_ 2
  have oldY := B.old hp
  have oldY' := Lib.hid oldY
  have KZ := Lib.hid (hK.trans kd fun _ _ => False.elim)
  have hp3 := B.keeps hp KZ.out hd
  have hd3 : ∀ y, Y y ∨ R y → ¬ (Z y ∨ y = w.heap.size + 1 + 1) := fun y hy h' => h'.elim (hd y hy) fun e => by have := oldY y hy; omega
  have cb := Lib.hid (B.does ⟨_, _, P3⟩ hp3 hd3 (by unfold Cap; simp; omega) hG)
  have hW1' := Lib.hid hW1
  have hW2' := Lib.hid hW2
  have hW3' := Lib.hid hW3
  have l3 : Hid (w.heap.size + 1 + 1 + 1 < W3.heap.size) := Lib.hid M3.out.lt
  have hold := Lib.hid h.old
  rw [hW1] at t6 f6
  clear h hp hd hok few hcnt k1 m0 m1 m2 m3 n0 n1 n3 ks hP hK hW1 hW2 hW3 kd P3 hp3 hd3 oldY hG
  go_enter_defers Tryz.func30, Tryz.ntmps30
  go_wp2_with fail
  rw [← hW1'.out, ← hW2'.out]
  refine still_tail_at 9 (by kernel_rfl) (by kernel_rfl) W3 hW3'.out ?_
  simp only [List.take_succ_cons, List.take_zero, List.drop_succ_cons, List.drop_zero]
  repeat still_step
  refine wpStill_nil ?_
  clear r0 r1 r2 r3 t6 f6
  go_wp2_with fail
  refine cb.out.mono ?_
  rintro e W4 ⟨v, Y4, Z4, rfl, hB⟩
  have nz : ∀ x, w.heap.size ≤ x → ¬ x = w.heap.size + 1 + 1 → ¬ ((Z x ∨ x = w.heap.size + 1 + 1) ∨ Y x) := fun x hx hn h => h.elim (fun h => h.elim (fun h => by have := hold.out x h; omega) hn) fun h => by have := oldY'.out x (.inl h); omega
  have E4 := M1.out.keeps hB.keeps (nz _ (by omega) (by omega))
  have Q4 := M3.out.keeps hB.keeps (nz _ (by omega) (by omega))
  have T4 := M0.out.keeps hB.keeps (nz _ (by omega) (by omega))
  have npe : ¬ Z4 (w.heap.size + 1) := fun hz => (hB.newZ _ hz).elim (fun h => nz _ (by omega) (by omega) (.inl h)) fun h' => absurd M1.out.lt (Nat.not_lt.2 h')
  have F0 := BodyTo.finish B hB KZ.out (fun x hx => hx.imp id fun e => by omega) E4 npe (by omega) M1.out.lt oldY'.out
  have F := Lib.hid (show ∃ v' lv X' Y' Z', Ending.returned v = .returned v' ∧ BodyRan P w t b a pl (.func (.func F) #[] caps) rd st ev Z Y R (T.run ⟨log, 0, false, m⟩) v' (shutW (W4.setCell ⟨w.heap.size + 1, 0, none⟩ v) (w.heap.size + 1 + 1) t) lv X' Y' Z' by
    obtain ⟨lv, X', Z', h⟩ := F0
    exact ⟨v, lv, X', _, Z', rfl, h⟩)
  have hvf : v = .nilIface ∨ ∃ ty x, v = .iface ty x := by
    have hv := hB.err
    generalize (T.run ⟨log, 0, false, m⟩).1 = e at hv
    cases e with
    | some x => exact .inl hv
    | none => exact .inr ⟨_, _, hv⟩
  obtain ⟨lv4, X4, P4⟩ := hB.run
  have ks5 : Keeps (fun x => x = w.heap.size + 1) W4 (W4.setCell ⟨w.heap.size + 1, 0, none⟩ v) := (Keeps.refl (fun x => x = w.heap.size + 1) W4).setCell (p := ⟨w.heap.size + 1, 0, none⟩) (fun _ => rfl) _
  have hd := Lib.hid (defer_any (w.heap.size + 1) (w.heap.size + 1 + 1 + 1) w.heap.size (w.heap.size + 1 + 1) t _ _ true (W4.setCell ⟨w.heap.size + 1, 0, none⟩ v) ((Q4.keeps ks5 (by omega)).at_ 0) ((T4.keeps ks5 (by omega)).at_ 0) (P4.ctx.keeps ks5 (by omega)) ((P4.th.blk.keeps ks5 (by omega)).at_ 6) ((P4.th.blk.keeps ks5 (by omega)).free 6))
  have hr : (shutW (W4.setCell ⟨w.heap.size + 1, 0, none⟩ v) (w.heap.size + 1 + 1) t).cell? ⟨w.heap.size + 1, 0, none⟩ = some v := ((((E4.set_ 0 v).far (p := ⟨w.heap.size + 1 + 1, 1, none⟩) (show ¬ (w.heap.size + 1 = w.heap.size + 1 + 1) by omega) _).far (p := ⟨w.heap.size + 1 + 1, 2, none⟩) (show ¬ (w.heap.size + 1 = w.heap.size + 1 + 1) by omega) _).far (p := ⟨t, 6, none⟩) (show ¬ (w.heap.size + 1 = t) by omega) _).at_ 0
  have hr' := Lib.hid hr
  have e0 : W4.cell? ⟨w.heap.size + 1, 0, none⟩ = some .nilIface := E4.at_ 0
  have ef : W4.frozen? ⟨w.heap.size + 1, 0, none⟩ = false := E4.free 0
  clear hB nz E4 Q4 T4 npe F0 P4 ks5 hr
  rcases hvf with rfl | ⟨ty, vx, rfl⟩
  all_goals
    go_wp2_with fail
    refine leaves_cons (f := 54) (args := #[.pointer (some ⟨w.heap.size + 1, 0, none⟩), .pointer (some ⟨w.heap.size + 1 + 1 + 1, 0, none⟩), .pointer (some ⟨w.heap.size, 0, none⟩)]) (by simp) (by simp [go_sem]) ?_
    refine hd.out.mono ?_
    rintro e u' w'' ⟨rfl, rfl, rfl⟩
    exact ⟨_, by simp [results, Tryz.results30, go_sem, hr'.out], F.out⟩
end Go.Proofs.YtenhmficiegpiaaGreatDoor

namespace Go.Proofs.YtenhmficiegpiaaGreatDoor
open Go.RowKit Go.Extern.Stop Go.Stop Go.Extern

/-- A thread at rest: it has answered no error; O: what it has of its own. -/
def ThO (w : World) (t b pl : Nat) (bv : Value) (st : Nat) (log : List Ent) (dn : Bool) (O : Nat → Prop) : Prop :=
  ∃ lv, ThRaw w t b pl bv ((0 : Nat) : Int) (st : Int) log lv false dn .nilIface ∧ (∀ x, O x ↔ Own3 t pl lv x) ∧ ¬ O etB

theorem ThO.keeps {w w' : World} {t b pl : Nat} {bv : Value} {st : Nat} {log : List Ent} {dn : Bool} {O S : Nat → Prop} (h : ThO w t b pl bv st log dn O) (k : Keeps S w w') (hS : ∀ x, O x → ¬ S x) : ThO w' t b pl bv st log dn O := by
  obtain ⟨lv, h1, h2, h3⟩ := h
  exact ⟨lv, h1.keeps k fun x hx => hS x ((h2 x).2 hx), h2, h3⟩
theorem ThO.old {w : World} {t b pl : Nat} {bv : Value} {st : Nat} {log : List Ent} {dn : Bool} {O : Nat → Prop} (h : ThO w t b pl bv st log dn O) : ∀ x, O x → x < w.heap.size := by
  obtain ⟨lv, h1, h2, h3⟩ := h
  exact fun x hx => h1.old x ((h2 x).1 hx)
theorem ThO.look {w : World} {t b pl : Nat} {bv : Value} {st : Nat} {log : List Ent} {dn : Bool} {O : Nat → Prop} (h : ThO w t b pl bv st log dn O) :
    w.cell? ⟨t, 1, none⟩ = some bv ∧ w.cell? ⟨t, 7, none⟩ = some (.bool dn) ∧ w.cell? ⟨t, 8, none⟩ = some .nilIface := by
  obtain ⟨lv, h1, h2, h3⟩ := h
  exact ⟨h1.blk.at_ 1, h1.blk.at_ 7, h1.blk.at_ 8⟩

/-- The blocks, shared by all. -/
structure Sha (w : World) (b a : Nat) (m : Mm) (X : Nat → Prop) : Prop where
  mm : MmM w b a m X
  glob : Glob w
  gx : ¬ X etB

theorem Sha.keeps {w w' : World} {b a : Nat} {m : Mm} {X S : Nat → Prop} (h : Sha w b a m X) (k : Keeps S w w') (hS : ∀ x, X x → ¬ S x) (hg : ¬ S etB) : Sha w' b a m X := ⟨h.mm.keeps k hS, h.glob.keeps k hg, h.gx⟩
theorem Sha.same {w w' : World} {b a : Nat} {m : Mm} {X : Nat → Prop} (h : Sha w b a m X) (k : Keeps (fun _ => False) w w') : Sha w' b a m X := h.keeps k (fun _ _ => id) id
theorem Sha.old {w : World} {b a : Nat} {m : Mm} {X : Nat → Prop} (h : Sha w b a m X) : ∀ x, X x → x < w.heap.size := h.mm.old

theorem ThQ.of {w : World} {t b a pl : Nat} {bv : Value} {st : Nat} {log : List Ent} {dn : Bool} {m : Mm} {X O : Nat → Prop} (h : ThO w t b pl bv st log dn O) (hs : Sha w b a m X) (hd : ∀ x, X x → ¬ O x) :
    ∃ lv, ThQ w t b a pl bv 0 st log dn .nilIface m lv X (fun x => X x ∨ O x) ∧ ∀ x, O x ↔ Own3 t pl lv x := by
  obtain ⟨lv, h1, h2, h3⟩ := h
  exact ⟨lv, ⟨h1, hs.mm, fun x hx => .inl hx, fun x hx => ⟨.inr ((h2 x).2 hx), fun hX => hd x hX ((h2 x).2 hx)⟩, fun x hx => hx.elim (hs.old x) fun h => h1.old x ((h2 x).1 h), hs.glob, fun hx => hx.elim hs.gx h3⟩, h2⟩

theorem ThQ.stepped {w : World} {t b a pl : Nat} {bv : Value} {rd st : Nat} {log : List Ent} {dn : Bool} {ev : Value} {m : Mm} {lv : Value} {X Z : Nat → Prop} (h : ThQ w t b a pl bv rd st log dn ev m lv X Z) : ThQ (w.setCell ⟨t, 3, none⟩ (.int .i64 ((st : Int) + 1))) t b a pl bv rd (st + 1) log dn ev m lv X Z ∧ Keeps Z w (w.setCell ⟨t, 3, none⟩ (.int .i64 ((st : Int) + 1))) := by
  have ks : Keeps (fun x => x = t) w (w.setCell ⟨t, 3, none⟩ (.int .i64 ((st : Int) + 1))) := (Keeps.refl (fun x => x = t) w).setCell (p := ⟨t, 3, none⟩) (fun _ => rfl) _
  refine ⟨{
    th := ⟨h.th.blk.set_ 3 _, h.th.row.keeps ks fun g hg e => (h.th.row_ne hg).1 e, h.th.map.keeps ks fun e => h.th.ne e.symm⟩
    mm := h.mm.keeps ks fun x hx e => (h.own t (.inl rfl)).2 (e ▸ hx)
    x := h.x
    own := h.own
    old := fun x hx => Nat.lt_of_lt_of_le (h.old x hx) ks.size
    glob := h.glob.keeps ks fun e => h.gz (by subst e; exact (h.own _ (.inl rfl)).1)
    gz := h.gz }, ks.mono fun x _ e => by rw [e]; exact (h.own t (.inl rfl)).1⟩

/-- What a step of a thread leaves. -/
structure Stept {α : Type} (P : World → (Nat → Prop) → Option α → Prop) (w : World) (t b a pl : Nat) (bv : Value) (st : Nat) (X O Y R : Nat → Prop) (log : List Ent) (dn : Bool) (x : Option α) (m' : Mm) (w' : World) (X' O' Y' : Nat → Prop) : Prop where
  th : ThO w' t b pl bv st log dn O'
  sh : Sha w' b a m' X'
  own : P w' Y' x
  keeps : Keeps (fun x => (X x ∨ O x) ∨ Y x) w w'
  xo : ∀ x, X' x → ¬ O' x
  new : ∀ x, X' x ∨ O' x → (X x ∨ O x) ∨ w.heap.size ≤ x
  newY : ∀ x, Y' x → Y x ∨ w.heap.size ≤ x
  apart : ∀ x, Y' x ∨ R x → ¬ X' x ∧ ¬ O' x

theorem ThQ.rest {w : World} {t b a pl : Nat} {bv : Value} {st : Nat} {log : List Ent} {dn : Bool} {m : Mm} {lv : Value} {X Z : Nat → Prop} (h : ThQ w t b a pl bv 0 st log dn .nilIface m lv X Z) :
    ThO w t b pl bv st log dn (Own3 t pl lv) ∧ Sha w b a m X ∧ (∀ x, X x → ¬ Own3 t pl lv x) ∧ ∀ x, X x ∨ Own3 t pl lv x → Z x :=
  ⟨⟨lv, h.th, fun _ => Iff.rfl, fun hx => h.gz (h.own _ hx).1⟩, ⟨h.mm, h.glob, fun hx => h.gz (h.x _ hx)⟩, fun x hx ho => (h.own x ho).2 hx, fun x hx => hx.elim (h.x x) fun ho => (h.own x ho).1⟩

theorem BodyRan.stept {α : Type} {P : World → (Nat → Prop) → Option α → Prop} {w w1 w2 w' : World} {t b a pl : Nat} {bv : Value} {st : Nat} {X O Y R : Nat → Prop} {r : Option α × Rn} {v lv lv' : Value} {X2 Y2 Z2 : Nat → Prop} {dn : Bool}
    (h : BodyRan P w1 t b a pl bv 0 st .nilIface (fun x => X x ∨ O x) Y R r v w2 lv X2 Y2 Z2) (k1 : Keeps (fun x => X x ∨ O x) w w1) (k2 : Keeps (Own3 t pl lv) w2 w') (hq : ThQ w' t b a pl bv 0 st r.2.log dn .nilIface r.2.m lv' X2 Z2)
    (hP : P w' Y2 r.1) : Stept P w t b a pl bv st X O Y R r.2.log dn r.1 r.2.m w' X2 (Own3 t pl lv') Y2 := by
  obtain ⟨h1, h2, h3, h4⟩ := hq.rest
  have hs := k1.size
  refine ⟨h1, h2, hP, ?_, h3, fun x hx => (h.newZ x (h4 x hx)).imp id fun h' => Nat.le_trans hs h', fun x hx => (h.newY x hx).imp id fun h' => Nat.le_trans hs h', fun x hx => ⟨fun hx' => h.apart x hx (h4 x (.inl hx')), fun hx' => h.apart x hx (h4 x (.inr hx'))⟩⟩
  refine ((k1.mono fun _ _ => .inl).trans h.keeps fun x _ hx => hx).trans k2 fun x hx ho => ?_
  exact (h.newZ x ((h.th.own x ho).1)).elim .inl fun h' => absurd hx (Nat.not_lt.2 (Nat.le_trans hs h'))

set_option maxRecDepth 100000 in
set_option maxHeartbeats 2000000 in
theorem step_any {α : Type} {F : Nat} {caps : Array Value} {T : Pr α} {R : Nat → Prop} {P : World → (Nat → Prop) → Option α → Prop} (B : IsBody F caps T R P) {w : World} {t b a pl st : Nat} {log : List Ent} {m : Mm} {X O Y : Nat → Prop}
    (hO : ThO w t b pl (.func (.func F) #[] caps) st log false O) (hs : Sha w b a m X) (hd : ∀ x, X x → ¬ O x) (hP : P w Y none) (hap : ∀ x, Y x ∨ R x → ¬ X x ∧ ¬ O x) (hok : Rn.Ok ⟨log, 0, false, m⟩) (few : log.length ≤ 4000) (hcnt : m.cnt < 9000) (hst : st ≤ 100000) (hG : T.Good ⟨log, 0, false, m⟩) :
    Calls Tryz.prog 20 #[.pointer (some ⟨t, 0, none⟩)] w fun e w' => e = .returned .nilIface ∧ ∃ X' O' Y', Stept P w t b a pl (.func (.func F) #[] caps) (st + 1) X O Y R (T.run ⟨log, 0, false, m⟩).2.log (T.run ⟨log, 0, false, m⟩).1.isSome (T.run ⟨log, 0, false, m⟩).1 (T.run ⟨log, 0, false, m⟩).2.m w' X' O' Y' := by
  obtain ⟨lv, hQ, hO3⟩ := ThQ.of hO hs hd
  have c1 : w.cell? ⟨t, 1, none⟩ = some (.func (.func F) #[] caps) := hQ.th.blk.at_ 1
  have hn := Lib.hid (tnone_there w c1)
  have c7 : w.cell? ⟨t, 7, none⟩ = some (.bool false) := hQ.th.blk.at_ 7
  have c6 : w.cell? ⟨t, 6, none⟩ = some (.bool false) := hQ.th.blk.at_ 6
  have c3 : w.cell? ⟨t, 3, none⟩ = some (.int .i64 (st : Int)) := hQ.th.blk.at_ 3
  have f3 : w.frozen? ⟨t, 3, none⟩ = false := hQ.th.blk.free 3
  have hst' : (st : Int) ≤ 100000 := by omega
  obtain ⟨q1, k1⟩ := hQ.stepped
  have hap2 : ∀ y, Y y ∨ R y → ¬ (X y ∨ O y) := fun y hy h => h.elim (hap y hy).1 (hap y hy).2
  have hrb := Lib.hid (runBody_any B ⟨_, _, q1⟩ (B.keeps hP k1 hap2) hap2 hok few hcnt hG)
  have k1' := Lib.hid k1
  clear q1 k1 hQ hP hok few hcnt hG c1 hO hs hd hap hap2 hO3 hst
  generalize T.run ⟨log, 0, false, m⟩ = r at hrb ⊢
  obtain ⟨W1, hW1⟩ : ∃ W, W = w.setCell ⟨t, 3, none⟩ (.int .i64 ((st : Int) + 1)) := ⟨_, rfl⟩
  rw [← hW1] at hrb k1'
  go_enter Tryz.func20, Tryz.ntmps20
  go_wp2_with (go_at_call 27; refine hn.out.mono ?_; rintro e w' ⟨rfl, rfl⟩)
  rw [← hW1]
  clear hW1 c7 c6 c3 f3
  refine hrb.out.mono ?_
  rintro e W2 ⟨v, lv2, X2, Y2, Z2, rfl, hB⟩
  have B2 := Lib.hid hB
  have V2 := hB.err
  clear hB hrb hn
  obtain ⟨x, s⟩ := r
  cases x with
  | none =>
    obtain rfl : v = .iface 71 (.int .i64 11) := V2
    have cw := Lib.hid (wraps_any (w := W2) (v := .iface 71 (.int .i64 11)) (e := .no 11) rfl 11 (by simp) true rfl)
    go_wp2_with fail
    refine cw.out.mono ?_
    rintro e W3 ⟨rfl, hK⟩
    have K3 := Lib.hid hK
    clear hK
    go_wp2_with fail
    go_ret
    have hq := B2.out.th
    exact ⟨rfl, _, _, _, B2.out.stept k1'.out (K3.out.mono fun _ _ => False.elim) ⟨hq.th.same K3.out, hq.mm.same K3.out, hq.x, hq.own, fun x hx => Nat.lt_of_lt_of_le (hq.old x hx) K3.out.size, hq.glob.keeps K3.out id, hq.gz⟩ (B.keeps B2.out.own K3.out fun _ _ => id)⟩
  | some x =>
    obtain rfl : v = .nilIface := V2
    have cw := Lib.hid (wraps_any (w := W2) (v := .nilIface) (e := .ok) rfl 11 (by simp) false rfl)
    go_wp2_with fail
    refine cw.out.mono ?_
    rintro e W3 ⟨rfl, hK⟩
    have K3 := Lib.hid hK
    clear hK
    have cw2 := Lib.hid (wraps_any (w := W3) (v := .nilIface) (e := .ok) rfl 12 (by simp) false rfl)
    go_wp2_with fail
    refine cw2.out.mono ?_
    rintro e W4 ⟨rfl, hK⟩
    have K4 := Lib.hid (K3.out.trans_ hK)
    clear hK
    have ce := Lib.hid (end_any (w := W4) (v := .nilIface) (B2.out.th.th.same K4.out) ⟨.ok, rfl⟩ rfl)
    go_wp2_with fail
    refine ce.out.mono ?_
    rintro e W5 ⟨rfl, hT, hK⟩
    have T5 := Lib.hid hT
    have K5 := Lib.hid hK
    clear hT hK
    go_wp2_with fail
    go_ret
    have hq := B2.out.th
    have kk : Keeps (fun x => x = t) W2 W5 := (K4.out.mono fun _ _ => False.elim).trans K5.out fun _ _ h => h
    refine ⟨rfl, _, _, _, B2.out.stept k1'.out (kk.mono fun _ _ h => .inl h) ⟨T5.out, hq.mm.keeps kk fun x hx e => (hq.own t (.inl rfl)).2 (e ▸ hx), hq.x, hq.own, fun x hx => Nat.lt_of_lt_of_le (hq.old x hx) kk.size, hq.glob.keeps kk fun e => hq.gz (by subst e; exact (hq.own _ (.inl rfl)).1), hq.gz⟩ (B.keeps B2.out.own kk fun y hy e => B2.out.apart y hy (by subst e; exact (hq.own _ (.inl rfl)).1))⟩

/-- A thread that is done. -/
theorem step_done {w : World} {t b pl st : Nat} {F : Nat} {caps : Array Value} {log : List Ent} {O : Nat → Prop} (hO : ThO w t b pl (.func (.func F) #[] caps) st log true O) :
    Calls Tryz.prog 20 #[.pointer (some ⟨t, 0, none⟩)] w fun e w' => e = .returned .nilIface ∧ w = w' := by
  obtain ⟨c1, c7, c8⟩ := hO.look
  have hn := Lib.hid (tnone_there w c1)
  clear hO c1
  go_enter Tryz.func20, Tryz.ntmps20
  go_wp2_with (go_at_call 27; refine hn.out.mono ?_; rintro e w' ⟨rfl, rfl⟩)
  go_ret
  exact ⟨rfl, rfl⟩

theorem done_any {w : World} {t : Nat} {fn : Fn} {f c : Array Value} {d : Bool} (c1 : w.cell? ⟨t, 1, none⟩ = some (.func fn f c)) (c7 : w.cell? ⟨t, 7, none⟩ = some (.bool d)) :
    Calls Tryz.prog 18 #[.pointer (some ⟨t, 0, none⟩)] w fun e w' => e = .returned (.bool d) ∧ w = w' := by
  go_enter Tryz.func18, Tryz.ntmps18
  go_wp2_with (go_at_call 27; refine (tnone_there _ c1).mono ?_; rintro e w' ⟨rfl, rfl⟩)
  go_ret
  exact ⟨rfl, rfl⟩

theorem tnew_any {w : World} {b a : Nat} {m : Mm} {X : Nat → Prop} {F : Nat} {caps : Array Value} (h : Sha w b a m X) (hg : m.st.get 0 = none) :
    Calls Tryz.prog 12 #[.pointer (some ⟨b, 0, none⟩), .func (.func F) #[] caps] w fun e w' => ∃ t pl O, e = .returned (.pointer (some ⟨t, 0, none⟩)) ∧ ThO w' t b pl (.func (.func F) #[] caps) 0 [] false O ∧ (∀ x, O x → w.heap.size ≤ x) ∧ Keeps (fun _ => False) w w' := by
  have hq := fun w => run_eql_func (.func F) #[] caps w
  have hmm := @run_makeMap Tryz.prog
  have hG' := Lib.hid h.glob
  have h' := Lib.hid h
  obtain ⟨_, ws, cnt, hb, _⟩ := h.mm
  have cs := Lib.hid (size_miss 0 (by simp) hg w hb.bk)
  clear hb hg h
  go_enter Tryz.func12, Tryz.ntmps12
  go_wp2_with fail
  refine cs.out.mono ?_
  rintro e W2 ⟨p, rfl, hW, hK⟩
  have ci := Lib.hid (is_fault p 0 5 1 W2 (hW.at_ 1))
  have K2 := Lib.hid hK
  clear hW hK
  go_wp2_with (go_at_call 24; refine ci.out.mono ?_; rintro e w' ⟨rfl, rfl⟩)
  go_ret
  have kk : Keeps (fun _ => False) W2 ((W2.alloc (.map #[] 0)).alloc (.cells (thCells b (.func (.func F) #[] caps) 0 0 (.slice none 0 0) W2.heap.size false false .nilIface) 75)) := ((Keeps.refl _ W2).alloc _).alloc _
  have mB := two_made W2 (.map #[] 0) 75 (thCells b (.func (.func F) #[] caps) 0 0 (.slice none 0 0) W2.heap.size false false .nilIface)
  have mM := (HoldsM.made Tryz.prog 3 intE W2).keeps ((Keeps.refl (fun _ => False) (W2.alloc (.map #[] 0))).alloc (.cells (thCells b (.func (.func F) #[] caps) 0 0 (.slice none 0 0) W2.heap.size false false .nilIface) 75)) id
  have kw := K2.out.trans_ kk
  have hge : w.heap.size ≤ W2.heap.size := K2.out.size
  have hl : etB < w.heap.size := hG'.out.lt
  refine ⟨W2.heap.size + 1, W2.heap.size, Own3 (W2.heap.size + 1) W2.heap.size (.slice none 0 0), rfl, ⟨.slice none 0 0, ⟨mB, ERow.nil _, by rw [placesF_nil]; exact mM⟩, fun _ => Iff.rfl, ?_⟩, ?_, kw⟩
  · rintro (hx | hx | hx)
    · omega
    · omega
    · cases hx
  · rintro x (rfl | rfl | hx)
    · omega
    · exact hge
    · cases hx
end Go.Proofs.YtenhmficiegpiaaGreatDoor

namespace Go.Proofs.YtenhmficiegpiaaGreatDoor
open Go.RowKit Go.Extern.Stop Go.Stop Go.Extern

/-- A thread: p is left of its tree; st: so many steps. -/
def TG {α : Type} (F : Nat) (caps : Array Value) (T : Pr α) (P : World → (Nat → Prop) → Option α → Prop) (w : World) (t b pl : Nat) (p : Pr α) (dn : Bool) (st : Nat) (O Y : Nat → Prop) : Prop :=
  ∃ log, ThO w t b pl (.func (.func F) #[] caps) st log dn O ∧ P w Y (if dn then p.val else none) ∧ T.Eats log ∧ T.after log = p ∧ (∀ e ∈ log, e.Ok) ∧ log.length ≤ st ∧ (dn = true → p.isRet = true)

/-- What may have moved. -/
structure Fr (w : World) (X O Y R : Nat → Prop) (w' : World) (X' O' Y' : Nat → Prop) : Prop where
  keeps : Keeps (fun x => (X x ∨ O x) ∨ Y x) w w'
  new : ∀ x, X' x ∨ O' x → (X x ∨ O x) ∨ w.heap.size ≤ x
  newY : ∀ x, Y' x → Y x ∨ w.heap.size ≤ x
  xo : ∀ x, X' x → ¬ O' x
  apart : ∀ x, Y' x ∨ R x → ¬ X' x ∧ ¬ O' x

theorem Fr.refl {w : World} {X O Y R : Nat → Prop} (xo : ∀ x, X x → ¬ O x) (ap : ∀ x, Y x ∨ R x → ¬ X x ∧ ¬ O x) : Fr w X O Y R w X O Y := ⟨Keeps.refl _ _, fun _ => .inl, fun _ => .inl, xo, ap⟩
theorem Fr.trans {w w1 w2 : World} {X O Y R X1 O1 Y1 X2 O2 Y2 : Nat → Prop} (h : Fr w X O Y R w1 X1 O1 Y1) (k : Fr w1 X1 O1 Y1 R w2 X2 O2 Y2) : Fr w X O Y R w2 X2 O2 Y2 := by
  have hs := h.keeps.size
  refine ⟨h.keeps.trans k.keeps fun x hx hS => ?_, fun x hx => ?_, fun x hx => ?_, k.xo, k.apart⟩
  · rcases hS with hS | hS
    · exact (h.new x hS).elim .inl fun h' => absurd hx (Nat.not_lt.2 h')
    · exact (h.newY x hS).elim .inr fun h' => absurd hx (Nat.not_lt.2 h')
  · exact (k.new x hx).elim (h.new x) fun h' => .inr (Nat.le_trans hs h')
  · exact (k.newY x hx).elim (h.newY x) fun h' => .inr (Nat.le_trans hs h')
theorem Fr.stay {w w1 w2 : World} {X O Y R X1 O1 Y1 : Nat → Prop} (h : Fr w X O Y R w1 X1 O1 Y1) (k : Keeps (fun _ => False) w1 w2) : Fr w X O Y R w2 X1 O1 Y1 := ⟨h.keeps.trans k fun _ _ => False.elim, h.new, h.newY, h.xo, h.apart⟩

theorem Pr.val_some {α : Type} (p : Pr α) : p.val.isSome = p.isRet := by cases p <;> rfl

theorem Pr.step_ok {α : Type} {p : Pr α} {m : Mm} (hm : m.Ok) (hc : p.Can m) : (p.step m).2.Ok ∧ (p.step m).2.cnt ≤ m.cnt + 1 ∧ (∀ e ∈ p.logs m, e.Ok) ∧ (p.logs m).length ≤ 1 := by
  cases p with
  | ret a => exact ⟨hm, Nat.le_succ _, fun e he => (by cases he), Nat.zero_le _⟩
  | acc q k =>
    obtain ⟨h1, h2, h3, _⟩ := doReq_ok hm q hc.1
    exact ⟨h2, by show (doReq m q).2.cnt ≤ _; omega, fun e he => by rw [List.mem_singleton.1 he]; exact h1, Nat.le_refl _⟩

/-- What a step of a thread comes to. -/
def TStepped {α : Type} (F : Nat) (caps : Array Value) (T : Pr α) (P : World → (Nat → Prop) → Option α → Prop) (w : World) (t b a pl : Nat) (p : Pr α) (dn : Bool) (st : Nat) (m : Mm) (X O Y R : Nat → Prop) (w' : World) : Prop :=
  ∃ X' O' Y', TG F caps T P w' t b pl p dn st O' Y' ∧ Sha w' b a m X' ∧ Fr w X O Y R w' X' O' Y'

theorem tg_step {α : Type} {F : Nat} {caps : Array Value} {T : Pr α} {R : Nat → Prop} {P : World → (Nat → Prop) → Option α → Prop} (B : IsBody F caps T R P) {w : World} {t b a pl st : Nat} {p : Pr α} {m : Mm} {X O Y : Nat → Prop}
    (h : TG F caps T P w t b pl p false st O Y) (hs : Sha w b a m X) (hd : ∀ x, X x → ¬ O x) (hap : ∀ x, Y x ∨ R x → ¬ X x ∧ ¬ O x) (hc : p.Can m) (hst : st ≤ 4000) (hcnt : m.cnt < 9000) :
    Calls Tryz.prog 20 #[.pointer (some ⟨t, 0, none⟩)] w fun e w' => e = .returned .nilIface ∧ TStepped F caps T P w t b a pl (p.step m).1 (p.step m).1.isRet (st + 1) (p.step m).2 X O Y R w' := by
  obtain ⟨log, hO, hP, he, ha, hl, hlen, _⟩ := h
  have hcan : (T.after log).Can m := by rw [ha]; exact hc
  obtain ⟨r1, r2, r3, hG⟩ := Pr.run_step he hcan
  obtain ⟨e1, e2⟩ := Pr.eats_step he hcan
  obtain ⟨s1, s2, s3, s4⟩ := Pr.step_ok hs.mm.1 hc
  rw [ha] at r1 r2 r3 e1 e2
  refine (step_any B hO hs hd hP hap ⟨hs.mm.1, hl, Nat.zero_le _⟩ (by omega) hcnt (by omega) hG).mono ?_
  rintro e w' ⟨rfl, X', O', Y', hS⟩
  rw [r1, r2, r3, Pr.val_some] at hS
  refine ⟨rfl, X', O', Y', ⟨_, hS.th, ?_, e1, e2, fun e he => (List.mem_append.1 he).elim (hl e) (s3 e), ?_, id⟩, hS.sh, ⟨hS.keeps, hS.new, hS.newY, hS.xo, hS.apart⟩⟩
  · have := hS.own
    cases hr : (p.step m).1 with
    | ret x => rw [hr] at this; exact this
    | acc q k => rw [hr] at this; exact this
  · rw [List.length_append]; omega

/-- So many steps, or fewer. -/
def Pr.runs {α : Type} : Nat → Pr α → Mm → Pr α × Mm × Bool
  | 0, p, m => (p, m, false)
  | n + 1, p, m => if (p.step m).1.isRet then ((p.step m).1, (p.step m).2, true) else Pr.runs n (p.step m).1 (p.step m).2
theorem Pr.runs_succ {α : Type} (n : Nat) (p : Pr α) (m : Mm) : Pr.runs (n + 1) p m = if (p.step m).1.isRet then ((p.step m).1, (p.step m).2, true) else Pr.runs n (p.step m).1 (p.step m).2 := rfl
def Pr.Cans {α : Type} : Nat → Pr α → Mm → Prop
  | 0, _, _ => True
  | n + 1, p, m => p.Can m ∧ ((p.step m).1.isRet = false → Pr.Cans n (p.step m).1 (p.step m).2)

theorem Pr.runs_done {α : Type} : ∀ (n : Nat) (p : Pr α) (m : Mm), p.Deep n → (Pr.runs (n + 1) p m).2.2 = true
  | n, p, m, h => by
    unfold Pr.runs
    split
    · rfl
    · rename_i hr
      cases n with
      | zero =>
        exfalso
        apply hr
        have h2 : (p.step m).1 = p := by
          cases p with
          | ret a => rfl
          | acc q k => exact h.elim
        rw [h2]
        exact h.zero
      | succ n => exact Pr.runs_done n _ _ (h.step m)
theorem Pr.runs_more {α : Type} : ∀ (n j : Nat) (p : Pr α) (m : Mm), (Pr.runs n p m).2.2 = true → Pr.runs (n + j) p m = Pr.runs n p m
  | 0, _, _, _, h => by cases h
  | n + 1, j, p, m, h => by
    rw [show n + 1 + j = (n + j) + 1 by omega]
    unfold Pr.runs at h ⊢
    split
    · rfl
    · rename_i hr
      rw [if_neg hr] at h
      exact Pr.runs_more n j _ _ h

/-- What several steps come to. -/
def TRan {α : Type} (F : Nat) (caps : Array Value) (T : Pr α) (P : World → (Nat → Prop) → Option α → Prop) (w : World) (t b a pl : Nat) (p : Pr α) (st : Nat) (m : Mm) (X O Y R : Nat → Prop) (N : Nat) (w' : World) : Prop :=
  ∃ st' X' O' Y', st' ≤ st + N ∧ (Pr.runs N p m).2.1.cnt ≤ m.cnt + N ∧ TG F caps T P w' t b pl (Pr.runs N p m).1 (Pr.runs N p m).2.2 st' O' Y' ∧ Sha w' b a (Pr.runs N p m).2.1 X' ∧ Fr w X O Y R w' X' O' Y'

set_option maxRecDepth 100000 in
set_option maxHeartbeats 1000000 in
theorem tg_run {α : Type} {F : Nat} {caps : Array Value} {T : Pr α} {R : Nat → Prop} {P : World → (Nat → Prop) → Option α → Prop} (B : IsBody F caps T R P) {w : World} {t b a pl st : Nat} {p : Pr α} {m : Mm} {X O Y : Nat → Prop} (N : Nat)
    (h : TG F caps T P w t b pl p false st O Y) (hs : Sha w b a m X) (hd : ∀ x, X x → ¬ O x) (hap : ∀ x, Y x ∨ R x → ¬ X x ∧ ¬ O x) (hc : p.Cans N m) (hst : st + N ≤ 4000) (hcnt : m.cnt + N < 9000) :
    Calls Tryz.prog 17 #[.pointer (some ⟨t, 0, none⟩), .int .i64 (N : Int)] w fun e w' => e = .returned .nilIface ∧ TRan F caps T P w t b a pl p st m X O Y R N w' := by
  obtain ⟨c1, _, _⟩ := (show ∃ log, ThO w t b pl (.func (.func F) #[] caps) st log false O from ⟨_, h.choose_spec.1⟩).choose_spec.look
  have hn := Lib.hid (tnone_there w c1)
  have h0 := Lib.hid (show TG F caps T P w t b pl p false st O Y ∧ Sha w b a m X ∧ Fr w X O Y R w X O Y from ⟨h, hs, Fr.refl hd hap⟩)
  have hc' := Lib.hid hc
  have hst' := Lib.hid hst
  have hcnt' := Lib.hid hcnt
  have hNb : (N : Int) ≤ 4000 := by omega
  clear h hs hd hap hc hst hcnt c1
  go_enter Tryz.func17, Tryz.ntmps17
  go_wp2_with (go_at_call 27; refine hn.out.mono ?_; rintro e w' ⟨rfl, rfl⟩)
  go_loopw [5] (fun nv wr => ∃ (k : Nat) (p' : Pr α) (m' : Mm) (dn : Bool) (st' : Nat) (X' O' Y' : Nat → Prop), nv = .int .i64 (k : Int) ∧ k ≤ N ∧ TG F caps T P wr t b pl p' dn st' O' Y' ∧ Sha wr b a m' X' ∧ Fr w X O Y R wr X' O' Y' ∧ st' ≤ st + k ∧ m'.cnt ≤ m.cnt + k ∧
    (if dn then Pr.runs N p m = (p', m', true) else (Pr.runs N p m = Pr.runs (N - k) p' m' ∧ p'.Cans (N - k) m'))) (fun nv _ => N - (intOf nv).toNat)
  case atStart => exact ⟨0, p, m, false, st, X, O, Y, rfl, Nat.zero_le _, h0.out.1, h0.out.2.1, h0.out.2.2, Nat.le_refl _, Nat.le_refl _, rfl, hc'.out⟩
  case round =>
    obtain ⟨k, p', m', dn, st', X', O', Y', rfl, hk, hT, hS, hF, hst2, hcnt2, hR⟩ := hrel
    have T1 := Lib.hid hT
    have S1 := Lib.hid hS
    have F1 := Lib.hid hF
    obtain ⟨log, hO, _⟩ := hT
    obtain ⟨_, c7, c8⟩ := hO.look
    clear hS hF hO
    cases dn with
    | true =>
      have hR' := Lib.hid (show Pr.runs N p m = (p', m', true) from hR)
      have fin := Lib.hid (show TRan F caps T P w t b a pl p st m X O Y R N wr by
        unfold TRan
        rw [hR'.out]
        exact ⟨st', X', O', Y', by omega, by show m'.cnt ≤ _; omega, T1.out, S1.out, F1.out⟩)
      clear hR
      by_cases hlt : k < N
      · have hlt' : (k : Int) < (N : Int) := by omega
        go_wp2_with fail
        go_ret
        exact ⟨rfl, fin.out⟩
      · have hlt' : ¬ (k : Int) < (N : Int) := by omega
        go_wp2_with fail
        go_ret
        exact ⟨rfl, fin.out⟩
    | false =>
      obtain ⟨hR1, hR2⟩ : Pr.runs N p m = Pr.runs (N - k) p' m' ∧ p'.Cans (N - k) m' := hR
      by_cases hlt : k < N
      · have hlt' : (k : Int) < (N : Int) := by omega
        obtain ⟨j, hj⟩ : ∃ j, N - k = j + 1 := ⟨N - k - 1, by omega⟩
        rw [hj] at hR1 hR2
        have hst := Lib.hid (tg_step B T1.out S1.out F1.out.xo F1.out.apart hR2.1 (by have := hst'.out; omega) (by have := hcnt'.out; omega))
        have hsc := Lib.hid (Pr.step_ok S1.out.mm.1 hR2.1).2.1
        have hR1' := Lib.hid hR1
        have hR2' := Lib.hid hR2
        have hj' := Lib.hid hj
        clear hR1 hR2 hj
        go_wp2_with fail
        refine hst.out.mono ?_
        rintro e W2 ⟨rfl, X2, O2, Y2, hT, hS, hF⟩
        have T2 := Lib.hid hT
        have S2 := Lib.hid hS
        have F2 := Lib.hid (F1.out.trans hF)
        clear hT hS hF hst
        go_wp2_with fail
        go_roundw
        case rel =>
          refine ⟨k + 1, _, _, _, st' + 1, X2, O2, Y2, by go_num, by omega, T2.out, S2.out, F2.out, by omega, by have := hsc.out; omega, ?_⟩
          have e1 := hR1'.out
          rw [Pr.runs_succ] at e1
          cases hr : (p'.step m').1.isRet with
          | true => rw [hr, if_pos rfl] at e1; exact e1
          | false =>
            rw [hr] at e1
            exact ⟨by rw [e1, show N - (k + 1) = j by have := hj'.out; omega]; rfl, by rw [show N - (k + 1) = j by have := hj'.out; omega]; exact hR2'.out.2 hr⟩
        case measure => simp [intOf]; omega
      · have hlt' : ¬ (k : Int) < (N : Int) := by omega
        have fin := Lib.hid (show TRan F caps T P w t b a pl p st m X O Y R N wr by
          unfold TRan
          rw [hR1, show N - k = 0 by omega]
          exact ⟨st', X', O', Y', by omega, by show m'.cnt ≤ _; omega, T1.out, S1.out, F1.out⟩)
        clear hR1 hR2
        go_wp2_with fail
        go_ret
        exact ⟨rfl, fin.out⟩
end Go.Proofs.YtenhmficiegpiaaGreatDoor
