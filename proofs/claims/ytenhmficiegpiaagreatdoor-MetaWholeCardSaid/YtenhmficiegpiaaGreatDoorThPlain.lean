/-
  Threads over blocks, as a plain state: what an access of the blocks tells and leaves (doReq), what a body is told in a step (ask), what a small program does in a step (body), a step of a thread (step), several (runN). Of no program. That each step ends or goes on by one: a thread of a program of at most 20 parts is done behind at most 840 steps.
-/
import Derived.Test.YtenhmficiegpiaaGreatDoorBkState
namespace Go.Proofs.YtenhmficiegpiaaGreatDoor

/-- An error: none; a number; a number at a place. -/
inductive EA where
  | ok
  | no (k : Nat)
  | at_ (i : Int) (k : Nat)
deriving DecidableEq

def EA.num : EA → Nat
  | .ok => 0
  | .no k => k
  | .at_ _ k => k
def EA.place : EA → Option Int
  | .at_ i _ => some i
  | _ => none

/-- What an access told. -/
structure Ent where
  kind : Nat
  ref : Nat
  i : Int
  word : Nat
  done : Bool
  err : EA
deriving DecidableEq

def Ent.zero (e : EA) : Ent := ⟨0, 0, 0, 0, false, e⟩

/-- Blocks, plainly: what they are, their words, how many words the arena has, how many accesses were asked for. -/
structure Mm where
  st : St
  mem : Nat → Nat
  len : Nat
  cnt : Nat

inductive Req where
  | load (ref : Nat) (i : Int)
  | store (ref : Nat) (i : Int) (x : Nat)
  | cas (ref : Nat) (i : Int) (old next : Nat)
  | alloc (n : Int)
  | free (ref : Nat)

def putAt (f : Nat → Nat) (j x : Nat) : Nat → Nat := fun k => if k = j then x else f k
/-- The words of a new block are 0. -/
def zeroAt (f : Nat → Nat) (p n : Nat) : Nat → Nat := fun k => if p < k ∧ k ≤ p + n then 0 else f k

/-- Where the word of a ref is, or what is wrong. -/
def Mm.word (m : Mm) (ref : Nat) (i : Int) : Except EA Nat :=
  match m.st.get ref with
  | none => .error (.at_ ((ref % 4294967296 : Nat) : Int) 5)
  | some B => if 0 ≤ i ∧ i < (B.size : Int) then .ok (B.place + 1 + i.toNat) else .error (.at_ i 3)

/-- A block that is given out: the state, its ref, its place. -/
def St.take (s : St) (n len : Nat) : Option (St × Nat × Nat) :=
  match (s.fr n).getLast? with
  | some p => match s.at p with
    | some B => some (s.pop B (s.fr n).dropLast, B.ref, p)
    | none => none
  | none => if s.top + 1 + n ≤ len then some (s.fresh n, s.top, s.top) else none

/-- An access of the blocks: what it tells, and what they are then. -/
def doReq (m : Mm) : Req → Ent × Mm
  | .load ref i => match m.word ref i with
    | .ok j => (⟨1, ref, i, m.mem j, false, .ok⟩, { m with cnt := m.cnt + 1 })
    | .error e => (⟨1, ref, i, 0, false, e⟩, { m with cnt := m.cnt + 1 })
  | .store ref i x => match m.word ref i with
    | .ok j => (⟨2, ref, i, x, false, .ok⟩, { m with mem := putAt m.mem j x, cnt := m.cnt + 1 })
    | .error e => (⟨2, ref, i, x, false, e⟩, { m with cnt := m.cnt + 1 })
  | .cas ref i old next => match m.word ref i with
    | .ok j => if m.mem j = old then (⟨3, ref, i, next, true, .ok⟩, { m with mem := putAt m.mem j next, cnt := m.cnt + 1 }) else (⟨3, ref, i, next, false, .ok⟩, { m with cnt := m.cnt + 1 })
    | .error e => (⟨3, ref, i, next, false, e⟩, { m with cnt := m.cnt + 1 })
  | .alloc n => if n < 1 ∨ 64 < n then (⟨4, 0, n, 0, false, .no 2⟩, { m with cnt := m.cnt + 1 }) else
    match m.st.take n.toNat m.len with
    | some (s, ref, p) => (⟨4, ref, n, 0, false, .ok⟩, { m with st := s, mem := zeroAt m.mem p n.toNat, cnt := m.cnt + 1 })
    | none => (⟨4, 0, n, 0, false, .no 4⟩, { m with cnt := m.cnt + 1 })
  | .free ref => match m.st.get ref with
    | some B => (⟨5, ref, 0, 0, false, .ok⟩, { m with st := m.st.back B, cnt := m.cnt + 1 })
    | none => (⟨5, ref, 0, 0, false, .no 5⟩, { m with cnt := m.cnt + 1 })

/-- A step under way: the log; which entry is next; was the step's own access done; the blocks. -/
structure Rn where
  log : List Ent
  next : Nat
  over : Bool
  m : Mm

/-- What an entry answers. -/
def Ent.ans (e : Ent) : Ent := if e.err = .ok then e else .zero e.err

/-- What an access of a body answers. -/
def ask (s : Rn) (q : Req) : Ent × Rn :=
  if s.next < s.log.length then ((s.log.getD s.next (.zero .ok)).ans, { s with next := s.next + 1 })
  else if s.over then (.zero (.no 11), s)
  else ((doReq s.m q).1.ans, ⟨s.log ++ [(doReq s.m q).1], s.next + 1, true, (doReq s.m q).2⟩)

/-- A part of a small program. -/
structure Mic where
  kind : Int
  a : Int
  i : Int
  x : Nat
  add : Bool
  to_ : Int

def regOf (n : Int) : Nat := (n % 4).toNat

/-- What is asked for. -/
def Mic.req (m : Mic) (ref x last : Nat) : Req :=
  if m.kind = 1 then .load ref m.i
  else if m.kind = 2 then .store ref m.i x
  else if m.kind = 3 then .cas ref m.i last x
  else if m.kind = 4 then .alloc m.i
  else .free ref
/-- What is told last then. -/
def Mic.told (m : Mic) (last : Nat) (e : Ent) : Nat :=
  if m.kind = 1 then e.word
  else if m.kind = 3 then (if e.done then 1 else 0)
  else if m.kind = 4 then e.ref
  else last
def Mic.val (m : Mic) (last : Nat) : Nat := if m.add then (m.x + last) % 18446744073709551616 else m.x

/-- A small program, in a step of that round. -/
def body (round : Nat) : List Mic → (Nat → Nat) → Nat → Rn → EA × Rn
  | [], _, _, s => (.ok, s)
  | m :: p, r, last, s =>
    if m.kind = 6 ∧ last = m.x ∧ (round : Int) < m.i then (.no 12, s)
    else if m.kind < 1 ∨ 5 < m.kind then body round p r last s
    else match ask s (m.req (r (regOf m.a)) (m.val last) last) with
      | (e, s') => if e.err = .ok then body round p (putAt r (regOf m.to_) (m.told last e)) (m.told last e) s' else (e.err, s')

/-- A thread. -/
structure Ths where
  m : Mm
  log : List Ent
  round : Nat
  steps : Nat
  done : Bool
  err : EA

/-- What a step of a body is. -/
def Ths.run (p : List Mic) (t : Ths) : EA × Rn := body t.round p (fun _ => 0) 0 ⟨t.log, 0, false, t.m⟩

/-- What a thread is behind a step in which its body answered. -/
def Ths.close (t : Ths) (r : EA × Rn) : Ths :=
  if r.1.num = 11 then ⟨r.2.m, r.2.log, t.round, t.steps + 1, false, .ok⟩
  else if r.1.num = 12 then
    if 39 ≤ t.round then ⟨r.2.m, r.2.log, t.round, t.steps + 1, true, .no 15⟩
    else ⟨r.2.m, [], t.round + 1, t.steps + 1, false, .ok⟩
  else ⟨r.2.m, r.2.log, t.round, t.steps + 1, true, r.1⟩

/-- A step of a thread that is not done. -/
def step (p : List Mic) (t : Ths) : Ths := t.close (t.run p)

/-- So many steps, or fewer. -/
def runN (p : List Mic) : Nat → Ths → Ths
  | 0, t => t
  | n + 1, t => if t.done then t else runN p n (step p t)

theorem runN_done (p : List Mic) (n : Nat) (t : Ths) (h : t.done = true) : runN p n t = t := by
  cases n with
  | zero => rfl
  | succ n => simp [runN, h]

theorem runN_add (p : List Mic) : ∀ (a b : Nat) (t : Ths), runN p (a + b) t = runN p b (runN p a t)
  | 0, b, t => by rw [Nat.zero_add]; rfl
  | a + 1, b, t => by
    rw [show a + 1 + b = (a + b) + 1 by omega]
    by_cases h : t.done = true
    · simp only [runN, if_pos h]
      rw [runN_done p b t h]
    · simp only [runN, if_neg h]
      exact runN_add p a b _

/-! ### what always holds -/

/-- Blocks as they come to be: few accesses, small words, no generation near its end. -/
structure Mm.Ok (m : Mm) : Prop where
  st : m.st.Ok m.len
  len : m.len ≤ 16384
  small : ∀ j, m.mem j < 18446744073709551616
  gen : ∀ B ∈ m.st.bs, B.gen ≤ m.cnt

theorem gen_set {bs : List Blk} {B : Blk} {n : Nat} (h : ∀ C ∈ bs, C.gen ≤ n) (hB : B.gen ≤ n + 1) : ∀ C ∈ setBlk bs B, C.gen ≤ n + 1 := by
  intro C hC
  rcases mem_setBlk hC with rfl | ⟨hC, _⟩
  · exact hB
  · exact Nat.le_succ_of_le (h C hC)

theorem getLast_snoc {l : List Nat} {p : Nat} (h : l.getLast? = some p) : l = l.dropLast ++ [p] := by
  rcases List.eq_nil_or_concat l with rfl | ⟨l', x, rfl⟩
  · cases h
  · simp at h
    subst h
    simp

/-- What a block that is given out is. -/
theorem take_some {s s' : St} {n len ref p : Nat} (h : s.Ok len) (ht : s.take n len = some (s', ref, p)) :
    (∃ B, B ∈ s.bs ∧ B.size = n ∧ B.live = false ∧ B.gen < 4294967295 ∧ B.place = p ∧ s.fr n = (s.fr n).dropLast ++ [p] ∧ s' = s.pop B (s.fr n).dropLast ∧ ref = B.ref) ∨ (s.fr n = [] ∧ s.top + 1 + n ≤ len ∧ s' = s.fresh n ∧ ref = s.top ∧ p = s.top) := by
  unfold St.take at ht
  split at ht
  · rename_i q hq
    split at ht
    · rename_i B hB
      injection ht with ht
      injection ht with h1 h2
      injection h2 with h2 h3
      subst h1 h2 h3
      have hfr := getLast_snoc hq
      obtain ⟨C, hC, e1, e2, e3, e4⟩ := h.free n q (by rw [hfr]; simp)
      obtain ⟨hB1, hB2⟩ := St.at_some hB
      have e := order_inj h hC hB1 (e1.trans hB2.symm)
      subst e
      exact .inl ⟨C, hC, e2, e3, e4, e1, hfr, rfl, rfl⟩
    · cases ht
  · rename_i hq
    split at ht
    · rename_i hr
      injection ht with ht
      injection ht with h1 h2
      injection h2 with h2 h3
      exact .inr ⟨List.getLast?_eq_none_iff.1 hq, hr, h1.symm, h2.symm, h3.symm⟩
    · cases ht

theorem take_none {s : St} {n len : Nat} (h : s.Ok len) (ht : s.take n len = none) : s.fr n = [] ∧ len < s.top + 1 + n := by
  unfold St.take at ht
  split at ht
  · rename_i q hq
    have hfr := getLast_snoc hq
    obtain ⟨C, hC, e1, _⟩ := h.free n q (by rw [hfr]; simp)
    rw [← e1, St.at_mem h hC] at ht
    cases ht
  · rename_i hq
    split at ht
    · cases ht
    · exact ⟨List.getLast?_eq_none_iff.1 hq, by omega⟩

theorem word_ok {m : Mm} {ref : Nat} {i : Int} {j : Nat} (h : m.word ref i = .ok j) : ∃ B, m.st.get ref = some B ∧ ∃ k : Nat, i = (k : Int) ∧ k < B.size ∧ j = B.place + 1 + k := by
  unfold Mm.word at h
  split at h
  · cases h
  · rename_i B hB
    split at h
    · rename_i hi
      injection h with h
      exact ⟨B, hB, i.toNat, by omega, by omega, h.symm⟩
    · cases h
theorem word_err {m : Mm} {ref : Nat} {i : Int} {e : EA} (h : m.word ref i = .error e) : (m.st.get ref = none ∧ e = .at_ ((ref % 4294967296 : Nat) : Int) 5) ∨ (∃ B, m.st.get ref = some B ∧ (i < 0 ∨ (B.size : Int) ≤ i) ∧ e = .at_ i 3) := by
  unfold Mm.word at h
  split at h
  · rename_i hB
    injection h with h
    exact .inl ⟨hB, h.symm⟩
  · rename_i B hB
    split at h
    · cases h
    · rename_i hi
      injection h with h
      exact .inr ⟨B, hB, by omega, h.symm⟩

theorem putAt_small {f : Nat → Nat} {N : Nat} (h : ∀ j, f j < N) (j x : Nat) (hx : x < N) : ∀ k, putAt f j x k < N := by
  intro k
  unfold putAt
  split
  · exact hx
  · exact h k

/-- The numbers that a request bears are words. -/
def Req.small : Req → Prop
  | .load ref _ => ref < 18446744073709551616
  | .store ref _ x => ref < 18446744073709551616 ∧ x < 18446744073709551616
  | .cas ref _ old next => ref < 18446744073709551616 ∧ old < 18446744073709551616 ∧ next < 18446744073709551616
  | .alloc _ => True
  | .free ref => ref < 18446744073709551616

/-- An entry's numbers are words, its error one of those of the blocks. -/
structure Ent.Ok (e : Ent) : Prop where
  kind : e.kind ≤ 5
  ref : e.ref < 18446744073709551616
  word : e.word < 18446744073709551616
  err : e.err = .ok ∨ e.err.num = 2 ∨ e.err.num = 3 ∨ e.err.num = 4 ∨ e.err.num = 5

theorem word_num {m : Mm} {ref : Nat} {i : Int} {e : EA} (h : m.word ref i = .error e) : e = .ok ∨ e.num = 2 ∨ e.num = 3 ∨ e.num = 4 ∨ e.num = 5 := by
  rcases word_err h with ⟨_, rfl⟩ | ⟨_, _, _, rfl⟩ <;> simp [EA.num]

theorem ref_small {B : Blk} (hg : B.gen < 4294967295) (hp : B.place < 16385) : B.ref < 18446744073709551616 := by unfold Blk.ref; omega

theorem doReq_ok {m : Mm} (h : m.Ok) (q : Req) (hq : q.small) : (doReq m q).1.Ok ∧ (doReq m q).2.Ok ∧ (doReq m q).2.cnt = m.cnt + 1 ∧ (doReq m q).2.len = m.len := by
  have hg1 : ∀ B ∈ m.st.bs, B.gen ≤ m.cnt + 1 := fun B hB => Nat.le_succ_of_le (h.gen B hB)
  have ht : Mm.Ok { m with cnt := m.cnt + 1 } := ⟨h.st, h.len, h.small, hg1⟩
  cases q with
  | load ref i =>
    simp only [doReq]
    split
    · exact ⟨⟨by simp, hq, h.small _, .inl rfl⟩, ht, rfl, rfl⟩
    · rename_i e he
      exact ⟨⟨by simp, hq, by simp, word_num he⟩, ht, rfl, rfl⟩
  | store ref i x =>
    simp only [doReq]
    split
    · exact ⟨⟨by simp, hq.1, hq.2, .inl rfl⟩, ⟨h.st, h.len, putAt_small h.small _ _ hq.2, hg1⟩, rfl, rfl⟩
    · rename_i e he
      exact ⟨⟨by simp, hq.1, hq.2, word_num he⟩, ht, rfl, rfl⟩
  | cas ref i old next =>
    simp only [doReq]
    split
    · split
      · exact ⟨⟨by simp, hq.1, hq.2.2, .inl rfl⟩, ⟨h.st, h.len, putAt_small h.small _ _ hq.2.2, hg1⟩, rfl, rfl⟩
      · exact ⟨⟨by simp, hq.1, hq.2.2, .inl rfl⟩, ht, rfl, rfl⟩
    · rename_i e he
      exact ⟨⟨by simp, hq.1, hq.2.2, word_num he⟩, ht, rfl, rfl⟩
  | alloc n =>
    simp only [doReq]
    split
    · exact ⟨⟨by simp, by simp, by simp, .inr (.inl rfl)⟩, ht, rfl, rfl⟩
    · rename_i hn
      have hn' : 1 ≤ n.toNat ∧ n.toNat ≤ 64 := by omega
      split
      · rename_i s ref p hs
        have hz : ∀ j, zeroAt m.mem p n.toNat j < 18446744073709551616 := by
          intro j
          unfold zeroAt
          split
          · decide
          · exact h.small j
        rcases take_some h.st hs with ⟨B, hB, e1, e2, e3, e4, e5, rfl, rfl⟩ | ⟨e1, e2, rfl, rfl, rfl⟩
        · have hf := h.st.fits B hB
          have hr := h.st.room
          have hl := h.len
          refine ⟨⟨by simp, ref_small e3 (by omega), by simp, .inl rfl⟩, ⟨?_, h.len, hz, ?_⟩, rfl, rfl⟩
          · refine ok_pop h.st hB e2 e3 ?_
            rw [e1, e4]
            exact e5
          · exact gen_set h.gen (Nat.le_succ_of_le (h.gen B hB))
        · have hr := h.st.room
          have hl := h.len
          refine ⟨⟨by simp, by show m.st.top < _; omega, by simp, .inl rfl⟩, ⟨ok_fresh h.st hn' e2, h.len, hz, ?_⟩, rfl, rfl⟩
          intro C hC
          rcases List.mem_append.1 hC with hC | hC
          · exact hg1 C hC
          · rw [List.mem_singleton.1 hC]
            exact Nat.zero_le _
      · exact ⟨⟨by simp, by simp, by simp, .inr (.inr (.inr (.inl rfl)))⟩, ht, rfl, rfl⟩
  | free ref =>
    simp only [doReq]
    split
    · rename_i B hB
      obtain ⟨hm, _, hl, _⟩ := St.get_some hB
      exact ⟨⟨by simp, hq, by simp, .inl rfl⟩, ⟨ok_back h.st hm hl, h.len, h.small, gen_set h.gen (Nat.succ_le_succ (h.gen B hm))⟩, rfl, rfl⟩
    · exact ⟨⟨by simp, hq, by simp, .inr (.inr (.inr (.inr rfl)))⟩, ht, rfl, rfl⟩

/-- A step under way, as it comes to be. -/
structure Rn.Ok (s : Rn) : Prop where
  m : s.m.Ok
  log : ∀ e ∈ s.log, e.Ok
  next : s.next ≤ s.log.length

theorem Ent.ans_err (e : Ent) : e.ans.err = e.err := by
  unfold Ent.ans Ent.zero
  split <;> rfl
theorem Ent.ans_ok {e : Ent} (h : e.Ok) : e.ans.Ok := by
  unfold Ent.ans Ent.zero
  split
  · exact h
  · exact ⟨by simp, by simp, by simp, h.err⟩

/-- What an access of a body answers, and leaves. -/
theorem ask_ok {s : Rn} (h : s.Ok) (q : Req) (hq : q.small) :
    ((ask s q).1.err = .no 11 ∧ (ask s q).2 = s ∧ s.over = true) ∨
    ((ask s q).1.Ok ∧ (ask s q).2.Ok ∧ (ask s q).2.next = s.next + 1 ∧
      (((ask s q).2.log = s.log ∧ (ask s q).2.over = s.over ∧ (ask s q).2.m = s.m) ∨
       (s.over = false ∧ (ask s q).2.over = true ∧ (ask s q).2.log.length = s.log.length + 1 ∧ (ask s q).2.log.length = s.next + 1 ∧ (ask s q).2.m.cnt = s.m.cnt + 1 ∧ (ask s q).2.m.len = s.m.len))) := by
  unfold ask
  by_cases h1 : s.next < s.log.length
  · rw [if_pos h1]
    refine .inr ⟨?_, ⟨h.m, h.log, h1⟩, rfl, .inl ⟨rfl, rfl, rfl⟩⟩
    refine Ent.ans_ok (h.log _ ?_)
    rw [List.getD, List.getElem?_eq_getElem h1]
    exact List.getElem_mem h1
  · rw [if_neg h1]
    by_cases h2 : s.over = true
    · rw [if_pos h2]
      exact .inl ⟨rfl, rfl, h2⟩
    · rw [if_neg h2]
      obtain ⟨d1, d2, d3, d4⟩ := doReq_ok h.m q hq
      have hn := h.next
      refine .inr ⟨Ent.ans_ok d1, ⟨d2, ?_, ?_⟩, rfl, .inr ⟨by simpa using h2, rfl, ?_, ?_, d3, d4⟩⟩
      · intro e he
        rcases List.mem_append.1 he with he | he
        · exact h.log e he
        · rw [List.mem_singleton.1 he]; exact d1
      · simp only [List.length_append, List.length_singleton]; omega
      · simp only [List.length_append, List.length_singleton]
      · simp only [List.length_append, List.length_singleton]; omega

theorem Mic.val_small {m : Mic} {last : Nat} (h : m.x < 18446744073709551616) : m.val last < 18446744073709551616 := by
  unfold Mic.val
  split
  · exact Nat.mod_lt _ (by simp)
  · exact h
theorem Mic.req_small {m : Mic} {ref x last : Nat} (h1 : ref < 18446744073709551616) (h2 : x < 18446744073709551616) (h3 : last < 18446744073709551616) : (m.req ref x last).small := by
  unfold Mic.req
  split
  · exact h1
  split
  · exact ⟨h1, h2⟩
  split
  · exact ⟨h1, h3, h2⟩
  split
  · trivial
  · exact h1
theorem Mic.told_small {m : Mic} {last : Nat} {e : Ent} (h1 : last < 18446744073709551616) (h2 : e.Ok) : m.told last e < 18446744073709551616 := by
  unfold Mic.told
  split
  · exact h2.word
  split
  · split <;> simp
  split
  · exact h2.ref
  · exact h1

/-- How a body's answer may be. -/
def Fine (e : EA) : Prop := e = .ok ∨ e = .no 12 ∨ e.num = 2 ∨ e.num = 3 ∨ e.num = 4 ∨ e.num = 5

theorem Ent.Ok.fine {e : Ent} (h : e.Ok) : Fine e.err := by
  rcases h.err with h | h | h | h | h
  · exact .inl h
  · exact .inr (.inr (.inl h))
  · exact .inr (.inr (.inr (.inl h)))
  · exact .inr (.inr (.inr (.inr (.inl h))))
  · exact .inr (.inr (.inr (.inr (.inr h))))

/-- What a step of a body comes to. -/
structure Came (N : Nat) (s : Rn) (r : EA × Rn) : Prop where
  ok : r.2.Ok
  len : r.2.m.len = s.m.len
  ans : Fine r.1 ∨ (r.1 = .no 11 ∧ r.2.over = true)
  late : s.over = true → r.2.over = true ∧ r.2.log = s.log ∧ r.2.m = s.m
  one : s.over = false → r.2.over = true → r.2.log.length = s.log.length + 1 ∧ r.2.log.length ≤ N ∧ r.2.m.cnt = s.m.cnt + 1
  none : r.2.over = false → r.2.log = s.log ∧ r.2.m = s.m

theorem Came.stay {N : Nat} {s : Rn} (h : s.Ok) (e : EA) (he : Fine e ∨ (e = .no 11 ∧ s.over = true)) : Came N s (e, s) :=
  ⟨h, rfl, he, fun h => ⟨h, rfl, rfl⟩, fun h1 h2 => (by rw [h1] at h2; cases h2), fun _ => ⟨rfl, rfl⟩⟩

theorem body_came (round N : Nat) : ∀ (p : List Mic) (r : Nat → Nat) (last : Nat) (s : Rn), (∀ m ∈ p, m.x < 18446744073709551616) → (∀ j, r j < 18446744073709551616) → last < 18446744073709551616 → s.Ok → s.next + p.length ≤ N → Came N s (body round p r last s)
  | [], _, _, s, _, _, _, h, _ => Came.stay h .ok (.inl (.inl rfl))
  | m :: p, r, last, s, hp, hr, hl, h, hN => by
    have hm := hp m (List.mem_cons_self ..)
    have hp' : ∀ m ∈ p, m.x < 18446744073709551616 := fun x hx => hp x (List.mem_cons_of_mem _ hx)
    rw [List.length_cons] at hN
    unfold body
    by_cases c1 : m.kind = 6 ∧ last = m.x ∧ (round : Int) < m.i
    · rw [if_pos c1]
      exact Came.stay h _ (.inl (.inr (.inl rfl)))
    · rw [if_neg c1]
      by_cases c2 : m.kind < 1 ∨ 5 < m.kind
      · rw [if_pos c2]
        exact body_came round N p r last s hp' hr hl h (by omega)
      · rw [if_neg c2]
        have hv := Mic.val_small (last := last) hm
        have ha := ask_ok h (m.req (r (regOf m.a)) (m.val last) last) (Mic.req_small (hr _) hv hl)
        generalize ask s (m.req (r (regOf m.a)) (m.val last) last) = A at ha ⊢
        obtain ⟨e, s'⟩ := A
        rcases ha with ⟨h1, h2, h3⟩ | ⟨h1, h2, h3, h4⟩
        · simp only at h1 h2
          subst h2
          simp only [h1]
          rw [if_neg (by simp)]
          exact Came.stay h _ (.inr ⟨rfl, h3⟩)
        · simp only at h1 h2 h3 h4 ⊢
          have key : Came N s' (if e.err = .ok then body round p (putAt r (regOf m.to_) (m.told last e)) (m.told last e) s' else (e.err, s')) := by
            have ht := Mic.told_small (m := m) hl h1
            split
            · exact body_came round N p _ _ s' hp' (putAt_small hr _ _ ht) ht h2 (by omega)
            · exact Came.stay h2 _ (.inl h1.fine)
          generalize (if e.err = .ok then body round p (putAt r (regOf m.to_) (m.told last e)) (m.told last e) s' else (e.err, s')) = R at key ⊢
          rcases h4 with ⟨l1, l2, l3⟩ | ⟨l1, l2, l3, l4, l5, l6⟩
          · exact ⟨key.ok, by rw [key.len, l3], key.ans, fun ho => by have := key.late (l2.trans ho); rw [this.2.1, this.2.2, l1, l3]; exact ⟨this.1, rfl, rfl⟩,
              fun ho h' => by have := key.one (l2.trans ho) h'; rw [l1, l3] at this; exact this, fun h' => by have := key.none h'; rw [l1, l3] at this; exact this⟩
          · obtain ⟨q1, q2, q3⟩ := key.late l2
            exact ⟨key.ok, by rw [key.len, l6], key.ans, fun ho => (by rw [l1] at ho; cases ho), fun _ _ => ⟨by rw [q2, l3], by rw [q2, l4]; omega, by rw [q3, l5]⟩, fun h' => by rw [q1] at h'; cases h'⟩

/-- A thread as it comes to be, of a program of at most 20 parts. -/
structure Ths.Ok (t : Ths) : Prop where
  m : t.m.Ok
  log : ∀ e ∈ t.log, e.Ok
  few : t.log.length ≤ 20
  round : t.round ≤ 39
  cnt : t.m.cnt ≤ t.steps
  left : t.done = false → t.steps + (39 - t.round) * 21 + (21 - t.log.length) ≤ 840
  most : t.steps ≤ 840
  err : t.done = false → t.err = .ok
  ans : t.err.num ≠ 11

/-- Words of a program. -/
def SmallP (p : List Mic) : Prop := (∀ m ∈ p, m.x < 18446744073709551616) ∧ p.length ≤ 20

theorem Ths.Ok.start {t : Ths} (h : t.Ok) : Rn.Ok ⟨t.log, 0, false, t.m⟩ := ⟨h.m, h.log, Nat.zero_le _⟩

theorem Ths.Ok.came {t : Ths} (h : t.Ok) {p : List Mic} (hp : SmallP p) : Came 20 ⟨t.log, 0, false, t.m⟩ (t.run p) :=
  body_came t.round 20 p _ 0 _ hp.1 (fun _ => by simp) (by simp) h.start (by have := hp.2; simp only; omega)

theorem Fine.num {e : EA} (h : Fine e) : e.num ≠ 11 := by
  rcases h with rfl | rfl | h | h | h | h
  · simp [EA.num]
  · simp [EA.num]
  all_goals omega

theorem step_ok {t : Ths} (h : t.Ok) {p : List Mic} (hp : SmallP p) (hd : t.done = false) : (step p t).Ok ∧ (step p t).steps = t.steps + 1 := by
  have hc := h.came hp
  have hl := h.left hd
  have hf := h.few
  have hr := h.round
  have hcnt := h.cnt
  unfold step
  generalize t.run p = R at hc ⊢
  obtain ⟨c1, c2, c3, c4, c5, c6⟩ := hc
  simp only [true_implies] at c2 c4 c5 c6
  have hlen : R.2.log.length ≤ 20 ∧ R.2.m.cnt ≤ t.steps + 1 := by
    by_cases ho : R.2.over = true
    · have := c5 ho
      omega
    · have := c6 (by simpa using ho)
      rw [this.1, this.2]
      omega
  unfold Ths.close
  by_cases e1 : R.1.num = 11
  · rw [if_pos e1]
    have ho : R.2.over = true := by
      rcases c3 with h' | h'
      · exact absurd e1 h'.num
      · exact h'.2
    have := c5 ho
    exact ⟨⟨c1.m, c1.log, hlen.1, hr, hlen.2, fun _ => by show t.steps + 1 + (39 - t.round) * 21 + (21 - R.2.log.length) ≤ 840; omega, by show t.steps + 1 ≤ 840; omega, fun _ => rfl, by simp [EA.num]⟩, rfl⟩
  · rw [if_neg e1]
    have hs : t.steps + 1 ≤ 840 := by omega
    by_cases e2 : R.1.num = 12
    · rw [if_pos e2]
      by_cases e3 : 39 ≤ t.round
      · rw [if_pos e3]
        exact ⟨⟨c1.m, c1.log, hlen.1, hr, hlen.2, fun h' => (by cases h'), hs, fun h' => (by cases h'), by simp [EA.num]⟩, rfl⟩
      · rw [if_neg e3]
        exact ⟨⟨c1.m, fun e he => (by cases he), Nat.zero_le _, by show t.round + 1 ≤ 39; omega, hlen.2, fun _ => by show t.steps + 1 + (39 - (t.round + 1)) * 21 + (21 - 0) ≤ 840; omega, hs, fun _ => rfl, by simp [EA.num]⟩, rfl⟩
    · rw [if_neg e2]
      exact ⟨⟨c1.m, c1.log, hlen.1, hr, hlen.2, fun h' => (by cases h'), hs, fun h' => (by cases h'), e1⟩, rfl⟩

theorem runN_ok {p : List Mic} (hp : SmallP p) : ∀ (n : Nat) (t : Ths), t.Ok → (runN p n t).Ok ∧ ((runN p n t).done = true ∨ (runN p n t).steps = t.steps + n)
  | 0, t, h => ⟨h, .inr rfl⟩
  | n + 1, t, h => by
    by_cases hd : t.done = true
    · rw [runN_done p _ t hd]
      exact ⟨h, .inl hd⟩
    · have hd' : t.done = false := by simpa using hd
      obtain ⟨h1, h2⟩ := step_ok h hp hd'
      have := runN_ok hp n _ h1
      rw [show runN p (n + 1) t = runN p n (step p t) by simp [runN, hd']]
      exact ⟨this.1, this.2.imp id fun h => by omega⟩

theorem runN_ends {p : List Mic} (hp : SmallP p) {t : Ths} (h : t.Ok) : (runN p 2000 t).done = true := by
  obtain ⟨h1, h2⟩ := runN_ok hp 2000 t h
  rcases h2 with h2 | h2
  · exact h2
  · have := h1.most
    omega

/-- Whatever portions come first. -/
theorem runN_same {p : List Mic} (hp : SmallP p) {t : Ths} (h : t.Ok) (n : Nat) : runN p 2000 (runN p n t) = runN p 2000 t := by
  rw [← runN_add, Nat.add_comm, runN_add, runN_done p n _ (runN_ends hp h)]
end Go.Proofs.YtenhmficiegpiaaGreatDoor
