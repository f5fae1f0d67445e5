/-
  meta, plainly: threads of calls over one clock and one cell (of a scene): states, steps; each access that they do can be done.
  A pool of threads of calls in memory, over the blocks of a scene: a new thread; a step of one; one run to its end.
  A new thread of calls: concordlaw06.Body by contract; it joins a pool.
  concordlaw06.run, between its statements: the pool, its rows of pointers (RunS); a new thread; a step; a run of one thread.
  concordlaw06.run by contract.
-/
import Derived.Test.YtenhmficiegpiaaGreatDoorMtSc
import Derived.Test.YtenhmficiegpiaaGreatDoorMtRows
import Derived.Test.YtenhmficiegpiaaGreatDoorMtBody
import Derived.Test.YtenhmficiegpiaaGreatDoorBkArgs
import Derived.Test.YtenhmficiegpiaaGreatDoorBkRow
import Derived.LoopTactic

namespace Go.Proofs.YtenhmficiegpiaaGreatDoor

/-- Where the words of a scene lie: the clock, the cell's Meta, its value. -/
def slotOf (ref : Nat) (i : Int) : Option Nat := if ref = 1 ∧ i = 0 then some 2 else if ref = 3 ∧ i = 0 then some 4 else if ref = 3 ∧ i = 1 then some 5 else none
def Req.slot : Req → Option Nat
  | .load r i => slotOf r i
  | .store r i _ => slotOf r i
  | .cas r i _ _ => slotOf r i
  | _ => none

theorem scene_word {m : Mm} (h : m.st = scM.st) {ref : Nat} {i : Int} {j : Nat} (hs : slotOf ref i = some j) : m.word ref i = .ok j := by
  unfold slotOf at hs
  unfold Mm.word
  rw [h]
  split at hs
  · rename_i c
    obtain ⟨rfl, rfl⟩ := c
    injection hs with hs
    subst hs
    rfl
  · split at hs
    · rename_i c
      obtain ⟨rfl, rfl⟩ := c
      injection hs with hs
      subst hs
      rfl
    · split at hs
      · rename_i c
        obtain ⟨rfl, rfl⟩ := c
        injection hs with hs
        subst hs
        rfl
      · cases hs

/-- What an access of a scene's words tells, and leaves. -/
theorem scene_req {m : Mm} (h : m.st = scM.st) (hm : m.Ok) {q : Req} {j : Nat} (hs : q.slot = some j) (hq : q.small) :
    (doReq m q).1.err = .ok ∧ (doReq m q).2.st = scM.st ∧ (doReq m q).1.word < 18446744073709551616 := by
  have ok := doReq_ok hm q hq
  cases q with
  | load r i => rw [req_load_ok (scene_word h hs)] at ok ⊢; exact ⟨rfl, h, ok.1.word⟩
  | store r i x => rw [req_store_ok (scene_word h hs)] at ok ⊢; exact ⟨rfl, h, ok.1.word⟩
  | cas r i o x =>
    by_cases c : m.mem j = o
    · rw [req_cas_yes (scene_word h hs) c] at ok ⊢; exact ⟨rfl, h, ok.1.word⟩
    · rw [req_cas_no (scene_word h hs) c] at ok ⊢; exact ⟨rfl, h, ok.1.word⟩
  | alloc n => cases hs
  | free r => cases hs

/-- All that it does are accesses of a scene's words. -/
def Pr.Fits {α : Type} : Pr α → Prop
  | .ret _ => True
  | .acc q k => q.small ∧ q.slot.isSome = true ∧ ∀ e : Ent, e.word < 18446744073709551616 → (k e).Fits

theorem Pr.Fits.can {α : Type} {p : Pr α} (hf : p.Fits) {m : Mm} (h : m.st = scM.st) (hm : m.Ok) : p.Can m ∧ (p.step m).1.Fits ∧ (p.step m).2.st = scM.st := by
  cases p with
  | ret a => exact ⟨trivial, trivial, h⟩
  | acc q k =>
    obtain ⟨h1, h2, h3⟩ := hf
    obtain ⟨j, hj⟩ := Option.isSome_iff_exists.1 h2
    obtain ⟨r1, r2, r3⟩ := scene_req h hm hj h1
    have hk := h3 _ r3
    refine ⟨⟨h1, r1, ?_⟩, hk, r2⟩
    generalize k (doReq m q).1 = p' at hk
    cases p' with
    | ret a => trivial
    | acc q' k' => exact hk.1
theorem Pr.Fits.bind {α β : Type} {f : α → Pr β} (hf : ∀ a, (f a).Fits) : ∀ {p : Pr α}, p.Fits → (p.bind f).Fits
  | .ret a, _ => hf a
  | .acc _ _, h => ⟨h.1, h.2.1, fun e he => Pr.Fits.bind hf (h.2.2 e he)⟩

theorem pack_lt {v o : Nat} {c t : Bool} (hv : v ≤ 281474976710655) (ho : o ≤ 255) : packN v o c t < 18446744073709551616 := by
  have := flagN_lt c t
  unfold packN
  omega

theorem tickT_fits : ∀ n, (tickT 1 n).Fits
  | 0 => trivial
  | n + 1 => by
    refine ⟨by show (1 : Nat) < _; decide, rfl, fun e he => ⟨⟨by decide, he, Nat.mod_lt _ (by decide)⟩, rfl, fun f hf => ?_⟩⟩
    show Pr.Fits (if f.done then _ else tickT 1 n)
    split
    · trivial
    · exact tickT_fits n
theorem readL_fits : ∀ n w, (readL 3 n w).Fits
  | 0, w => trivial
  | n + 1, w => by
    unfold readL
    split
    · trivial
    · refine ⟨by show (3 : Nat) < _; decide, rfl, fun e he => ⟨by show (3 : Nat) < _; decide, rfl, fun f hf => ?_⟩⟩
      show Pr.Fits (if f.word = w then _ else readL 3 n f.word)
      split
      · trivial
      · exact readL_fits n _
theorem turnT_fits (ver : Nat) (g : Nat → Option Nat) (hg : ∀ w x, w < 18446744073709551616 → g w = some x → x < 18446744073709551616) : ∀ n, (turnT 3 ver g n).Fits
  | 0 => trivial
  | n + 1 => by
    refine ⟨by show (3 : Nat) < _; decide, rfl, fun e he => ?_⟩
    show Pr.Fits (if chg e.word = true ∨ verN e.word ≠ ver then _ else _)
    split
    · trivial
    · split
      · trivial
      · rename_i x hx
        refine ⟨⟨by decide, he, hg _ _ he hx⟩, rfl, fun f hf => ?_⟩
        show Pr.Fits (if f.done then _ else turnT 3 ver g n)
        split
        · trivial
        · exact turnT_fits ver g hg n

theorem callT_fits (x : Cal) (hx : CalOk x) : (callT 1 3 x).Fits := by
  obtain ⟨hk, hn, ho, hv⟩ := hx
  unfold callT
  split
  · exact ⟨by show (1 : Nat) < _; decide, rfl, fun e he => trivial⟩
  split
  · exact tickT_fits 8
  split
  · exact ⟨by show (3 : Nat) < _; decide, rfl, fun e he => readL_fits 8 e.word⟩
  split
  · exact turnT_fits _ _ (fun w x hw h => by unfold lockG at h; injection h with h; rw [← h]; exact pack_lt (verN_le hw) ho) 8
  split
  · refine ⟨by show (3 : Nat) < _; decide, rfl, fun e he => ?_⟩
    show Pr.Fits (if chg e.word then _ else _)
    split
    · exact ⟨⟨by decide, hv⟩, rfl, fun f hf => ⟨⟨by decide, pack_lt hn (by omega)⟩, rfl, fun _ _ => trivial⟩⟩
    · trivial
  split
  · refine ⟨by show (3 : Nat) < _; decide, rfl, fun e he => ?_⟩
    show Pr.Fits (if chg e.word then _ else _)
    split
    · exact ⟨⟨by decide, pack_lt (verN_le he) (by omega)⟩, rfl, fun _ _ => trivial⟩
    · trivial
  split
  · exact turnT_fits _ _ (fun w x hw h => by
      unfold awaitG at h
      split at h
      · cases h
      · injection h with h; rw [← h]; exact pack_lt (verN_le hw) (ownN_le w)) 8
  · trivial

theorem callsT_fits : ∀ (l : List Cal) (acc : List Ans), (∀ x ∈ l, CalOk x) → (callsT 1 3 l acc).Fits
  | [], acc, _ => trivial
  | x :: l, acc, h => by
    unfold callsT
    split
    · trivial
    · exact Pr.Fits.bind (fun a => callsT_fits l _ fun y hy => h y (List.mem_cons_of_mem _ hy)) (callT_fits x (h x (List.mem_cons_self ..)))

/-- A pool of threads, plainly: the blocks; what is left of each thread's tree; which are done. -/
structure PS where
  m : Mm
  p : Nat → Pr (List Ans)
  dn : Nat → Bool

def setAt {β : Type} (f : Nat → β) (k : Nat) (v : β) : Nat → β := fun i => if i = k then v else f i
theorem setAt_same {β : Type} (f : Nat → β) (k : Nat) (v : β) : setAt f k v k = v := if_pos rfl
theorem setAt_ne {β : Type} (f : Nat → β) {k i : Nat} (v : β) (h : i ≠ k) : setAt f k v i = f i := if_neg h

def PS.step (S : PS) (k : Nat) : PS := if S.dn k then S else ⟨((S.p k).step S.m).2, setAt S.p k ((S.p k).step S.m).1, setAt S.dn k ((S.p k).step S.m).1.isRet⟩
/-- Thread k alone, so many steps, or till it is done. -/
def PS.runs (S : PS) (k n : Nat) : PS := if S.dn k then S else ⟨(Pr.runs n (S.p k) S.m).2.1, setAt S.p k (Pr.runs n (S.p k) S.m).1, setAt S.dn k (Pr.runs n (S.p k) S.m).2.2⟩

/-- What holds of n threads, and stays so by each step of each that is not done. -/
structure Stays (n : Nat) (I : PS → Prop) : Prop where
  step : ∀ S k, I S → k < n → S.dn k = false → I (S.step k)

theorem PS.step_go {S : PS} {k : Nat} (h : S.dn k = false) : S.step k = ⟨((S.p k).step S.m).2, setAt S.p k ((S.p k).step S.m).1, setAt S.dn k ((S.p k).step S.m).1.isRet⟩ := by unfold PS.step; rw [if_neg (by simp [h])]

theorem setAt_twice {β : Type} (f : Nat → β) (k : Nat) (v u : β) : setAt (setAt f k v) k u = setAt f k u := by
  funext i
  unfold setAt
  split <;> rfl
theorem setAt_self {β : Type} (f : Nat → β) (k : Nat) : setAt f k (f k) = f := by
  funext i
  unfold setAt
  split
  · rename_i h; rw [h]
  · rfl

/-- Several steps of one thread are steps. -/
theorem Stays.runs {n : Nat} {I : PS → Prop} (h : Stays n I) {k : Nat} (hk : k < n) : ∀ (N : Nat) (S : PS), I S → I (S.runs k N)
  | 0, S, hS => by
    unfold PS.runs
    split
    · exact hS
    · rename_i hd
      have e : S.dn k = false := by simpa using hd
      simp only [Pr.runs, setAt_self]
      rw [← e, setAt_self]
      exact hS
  | N + 1, S, hS => by
    cases hd : S.dn k with
    | true => unfold PS.runs; rw [if_pos hd]; exact hS
    | false =>
      have h1 := h.step S k hS hk hd
      have h2 := Stays.runs h hk N _ h1
      rw [PS.step_go hd] at h1 h2
      unfold PS.runs at h2 ⊢
      simp only [setAt_same, setAt_twice] at h2
      rw [if_neg (by simp [hd]), Pr.runs_succ]
      cases hr : ((S.p k).step S.m).1.isRet with
      | true =>
        rw [hr] at h1
        exact h1
      | false =>
        rw [hr] at h2
        exact h2
end Go.Proofs.YtenhmficiegpiaaGreatDoor

namespace Go.Proofs.YtenhmficiegpiaaGreatDoor
open Go.RowKit Go.Extern.Stop Go.Stop Go.Extern

/-- A thread of calls: its blocks, its calls. -/
structure TD where
  t : Nat
  pl : Nat
  o : Nat
  p0 : Nat
  p1 : Nat
  p2 : Nat
  p3 : Nat
  l : List Cal

def TD.caps (d : TD) : Array Value := #[.pointer (some ⟨d.p0, 0, none⟩), .pointer (some ⟨d.p1, 0, none⟩), .pointer (some ⟨d.p2, 0, none⟩), .pointer (some ⟨d.p3, 0, none⟩)]

theorem calls_isBody {p0 p1 p2 p3 o : Nat} {l : List Cal} {R : Nat → Prop} (hk : ∀ x ∈ l, CalOk x) (hlen : l.length ≤ 10) (hRo : ¬ R o) :
    IsBody 28 #[.pointer (some ⟨p0, 0, none⟩), .pointer (some ⟨p1, 0, none⟩), .pointer (some ⟨p2, 0, none⟩), .pointer (some ⟨p3, 0, none⟩)] (callsT 1 3 l []) R (OutP p0 p1 p2 p3 o l 1 3 R) where
  enters := Go.Proofs.enters_of Tryz.func28 (by kernel_rfl) rfl
  keeps := fun h k hS => by
    obtain ⟨hc, ho, v, L, hW, hA, hY, hx⟩ := h
    exact ⟨hc.keeps k fun y hy => hS y (.inr hy), fun y hy => Nat.lt_of_lt_of_le (ho y hy) k.size, v, L, hW.keeps k (hS _ (.inl ((hY _).2 (.inl rfl)))), hA.keeps k fun g hg => hS g (.inl ((hY g).2 (.inr hg))), hY, hx⟩
  old := fun h y hy => by
    obtain ⟨hc, ho, v, L, hW, hA, hY, hx⟩ := h
    rcases hy with hy | hy
    · rcases (hY y).1 hy with rfl | hg
      · exact hW.lt
      · exact hA.lt hg
    · exact ho y hy
  does := fun h hP hd hcap hg => calls_does hk hlen hRo h hP hd hcap hg

/-- A thread of calls at rest. -/
structure TI (R : Nat → Prop) (w : World) (b : Nat) (d : TD) (p : Pr (List Ans)) (dn : Bool) (st : Nat) (O Y : Nat → Prop) : Prop where
  tg : TG 28 d.caps (callsT 1 3 d.l []) (OutP d.p0 d.p1 d.p2 d.p3 d.o d.l 1 3 R) w d.t b d.pl p dn st O Y
  cal : ∀ x ∈ d.l, CalOk x
  len : d.l.length ≤ 10
  ro : ¬ R d.o

theorem TI.body {R : Nat → Prop} {w : World} {b : Nat} {d : TD} {p : Pr (List Ans)} {dn : Bool} {st : Nat} {O Y : Nat → Prop} (h : TI R w b d p dn st O Y) :
    IsBody 28 d.caps (callsT 1 3 d.l []) R (OutP d.p0 d.p1 d.p2 d.p3 d.o d.l 1 3 R) := calls_isBody h.cal h.len h.ro

theorem TI.old {R : Nat → Prop} {w : World} {b : Nat} {d : TD} {p : Pr (List Ans)} {dn : Bool} {st : Nat} {O Y : Nat → Prop} (h : TI R w b d p dn st O Y) : ∀ x, (O x ∨ Y x) ∨ R x → x < w.heap.size := by
  obtain ⟨log, hO, hP, _⟩ := h.tg
  intro x hx
  rcases hx with (hx | hx) | hx
  · exact hO.old x hx
  · exact h.body.old hP x (.inl hx)
  · exact h.body.old hP x (.inr hx)

theorem TI.keeps {R : Nat → Prop} {w w' : World} {b : Nat} {d : TD} {p : Pr (List Ans)} {dn : Bool} {st : Nat} {O Y S : Nat → Prop} (h : TI R w b d p dn st O Y) (k : Keeps S w w') (hS : ∀ x, (O x ∨ Y x) ∨ R x → ¬ S x) : TI R w' b d p dn st O Y := by
  obtain ⟨log, hO, hP, h3⟩ := h.tg
  exact ⟨⟨log, hO.keeps k fun x hx => hS x (.inl (.inl hx)), h.body.keeps hP k fun y hy => hS y (hy.elim (fun h => .inl (.inr h)) .inr), h3⟩, h.cal, h.len, h.ro⟩

/-- What is always so of a pool, plainly. -/
structure PInv (n : Nat) (S : PS) : Prop where
  fit : ∀ i, i < n → (S.p i).Fits
  deep : ∀ i, i < n → (S.p i).Deep 170
  st : S.m.st = scM.st
  ok : S.m.Ok

theorem PInv.stays (n : Nat) : Stays n (PInv n) where
  step := fun S k h hk hd => by
    rw [PS.step_go hd]
    obtain ⟨c1, c2, c3⟩ := (h.fit k hk).can h.st h.ok
    refine ⟨fun i hi => ?_, fun i hi => ?_, c3, (Pr.step_ok h.ok c1).1⟩
    · by_cases e : i = k
      · subst e; simp only [setAt_same]; exact c2
      · simp only [setAt_ne _ _ e]; exact h.fit i hi
    · by_cases e : i = k
      · subst e; simp only [setAt_same]; exact ((h.deep i hi).mono (Nat.le_succ 170)).step S.m
      · simp only [setAt_ne _ _ e]; exact h.deep i hi

theorem Pr.Fits.cans {α : Type} : ∀ (N : Nat) (p : Pr α) (m : Mm), p.Fits → m.st = scM.st → m.Ok → p.Cans N m
  | 0, _, _, _, _, _ => trivial
  | N + 1, p, m, hf, h, hm => by
    obtain ⟨c1, c2, c3⟩ := hf.can h hm
    exact ⟨c1, fun _ => Pr.Fits.cans N _ _ c2 c3 (Pr.step_ok hm c1).1⟩

/-- All that a pool has. -/
def Has (X : Nat → Prop) (n : Nat) (O Y : Nat → Nat → Prop) (x : Nat) : Prop := X x ∨ ∃ i, i < n ∧ (O i x ∨ Y i x)

/-- A pool in memory. -/
structure Pool (w : World) (b a : Nat) (R : Nat → Prop) (n : Nat) (D : Nat → TD) (S : PS) (st : Nat → Nat) (O Y : Nat → Nat → Prop) (X : Nat → Prop) (N C : Nat) : Prop where
  sh : Sha w b a S.m X
  th : ∀ i, i < n → TI R w b (D i) (S.p i) (S.dn i) (st i) (O i) (Y i)
  inv : PInv n S
  xo : ∀ i, i < n → ∀ x, X x → ¬ (O i x ∨ Y i x)
  oy : ∀ i, i < n → ∀ x, O i x → ¬ Y i x
  pw : ∀ i j, i < n → j < n → i ≠ j → ∀ x, O i x ∨ Y i x → ¬ (O j x ∨ Y j x)
  ro : ∀ x, R x → ¬ X x ∧ ∀ i, i < n → ¬ (O i x ∨ Y i x)
  few : ∀ i, i < n → st i ≤ N
  cnt : S.m.cnt ≤ C

theorem Pool.old {w : World} {b a : Nat} {R : Nat → Prop} {n : Nat} {D : Nat → TD} {S : PS} {st : Nat → Nat} {O Y : Nat → Nat → Prop} {X : Nat → Prop} {N C : Nat} (h : Pool w b a R n D S st O Y X N C) : ∀ x, Has X n O Y x → x < w.heap.size := by
  rintro x (hx | ⟨i, hi, hx⟩)
  · exact h.sh.old x hx
  · exact (h.th i hi).old x (.inl hx)

/-- One thread has moved. -/
theorem Pool.put {w w' : World} {b a : Nat} {R : Nat → Prop} {n : Nat} {D : Nat → TD} {S : PS} {st : Nat → Nat} {O Y : Nat → Nat → Prop} {X : Nat → Prop} {N C : Nat} (h : Pool w b a R n D S st O Y X N C) {k : Nat} (hk : k < n) {p' : Pr (List Ans)} {dn' : Bool} {st' : Nat} {O' Y' X' : Nat → Prop} {m' : Mm} {N' C' : Nat}
    (hT : TI R w' b (D k) p' dn' st' O' Y') (hs : Sha w' b a m' X') (hF : Fr w X (O k) (Y k) R w' X' O' Y') (hinv : PInv n ⟨m', setAt S.p k p', setAt S.dn k dn'⟩) (hst : st' ≤ N') (hN : N ≤ N') (hC : m'.cnt ≤ C') :
    Pool w' b a R n D ⟨m', setAt S.p k p', setAt S.dn k dn'⟩ (setAt st k st') (setAt O k O') (setAt Y k Y') X' N' C' ∧ Mv (Has X n O Y) (Has X' n (setAt O k O') (setAt Y k Y')) w w' := by
  have hU : ∀ x, O' x ∨ Y' x → (X x ∨ O k x ∨ Y k x) ∨ w.heap.size ≤ x := fun x hx => hx.elim (fun hx => (hF.new x (.inr hx)).elim (fun h => .inl (h.elim .inl fun h => .inr (.inl h))) .inr) fun hx => (hF.newY x hx).elim (fun h => .inl (.inr (.inr h))) .inr
  have hX : ∀ x, X' x → (X x ∨ O k x ∨ Y k x) ∨ w.heap.size ≤ x := fun x hx => (hF.new x (.inl hx)).elim (fun h => .inl (h.elim .inl fun h => .inr (.inl h))) .inr
  have far : ∀ j, j < n → j ≠ k → ∀ x, O j x ∨ Y j x → ¬ ((X x ∨ O k x ∨ Y k x) ∨ w.heap.size ≤ x) := by
    intro j hj hjk x hx hc
    rcases hc with (hc | hc) | hc
    · exact h.xo j hj x hc hx
    · exact h.pw j k hj hk hjk x hx hc
    · have := (h.th j hj).old x (.inl hx); omega
  refine ⟨{
    sh := hs
    th := fun i hi => ?_
    inv := hinv
    xo := fun i hi x hx => ?_
    oy := fun i hi x hx => ?_
    pw := fun i j hi hj hij x hx => ?_
    ro := fun x hx => ⟨(hF.apart x (.inr hx)).1, fun i hi => ?_⟩
    few := fun i hi => ?_
    cnt := hC }, ⟨?_, fun x hx => ?_⟩⟩
  · by_cases e : i = k
    · subst e; simp only [setAt_same]; exact hT
    · simp only [setAt_ne _ _ e]
      refine (h.th i hi).keeps hF.keeps fun x hx hS => ?_
      rcases hx with hx | hx
      · exact far i hi e x hx (.inl (hS.elim (fun h => h.elim .inl fun h => .inr (.inl h)) fun h => .inr (.inr h)))
      · have hr := h.ro x hx
        rcases hS with (hS | hS) | hS
        · exact hr.1 hS
        · exact hr.2 k hk (.inl hS)
        · exact hr.2 k hk (.inr hS)
  · by_cases e : i = k
    · subst e
      simp only [setAt_same]
      exact fun h => h.elim (hF.xo x hx) fun h => (hF.apart x (.inl h)).1 hx
    · simp only [setAt_ne _ _ e]
      exact fun h => far i hi e x h (hX x hx)
  · by_cases e : i = k
    · subst e
      simp only [setAt_same] at hx ⊢
      exact fun h => (hF.apart x (.inl h)).2 hx
    · simp only [setAt_ne _ _ e] at hx ⊢
      exact h.oy i hi x hx
  · by_cases e : i = k
    · subst e
      have e2 : j ≠ i := fun h => hij h.symm
      simp only [setAt_same, setAt_ne _ _ e2] at hx ⊢
      exact fun h => far j hj e2 x h (hU x hx)
    · by_cases e2 : j = k
      · subst e2
        simp only [setAt_same, setAt_ne _ _ e] at hx ⊢
        exact fun h => far i hi e x hx (hU x h)
      · simp only [setAt_ne _ _ e, setAt_ne _ _ e2] at hx ⊢
        exact h.pw i j hi hj hij x hx
  · by_cases e : i = k
    · subst e
      simp only [setAt_same]
      refine fun hh => hh.elim (hF.apart x (.inr hx)).2 fun hy => ?_
      rcases hF.newY x hy with h1 | h1
      · exact (h.ro x hx).2 i hi (.inr h1)
      · have := (h.th i hi).old x (.inr hx); omega
    · simp only [setAt_ne _ _ e]
      exact (h.ro x hx).2 i hi
  · by_cases e : i = k
    · subst e; simp only [setAt_same]; exact hst
    · simp only [setAt_ne _ _ e]; exact Nat.le_trans (h.few i hi) hN
  · exact hF.keeps.mono fun x _ hx => hx.elim (fun h => h.elim .inl fun h => .inr ⟨k, hk, .inl h⟩) fun h => .inr ⟨k, hk, .inr h⟩
  · have conv : (X x ∨ O k x ∨ Y k x) ∨ w.heap.size ≤ x → Has X n O Y x ∨ w.heap.size ≤ x := fun h => h.imp (fun h => h.elim .inl fun h => .inr ⟨k, hk, h⟩) id
    rcases hx with hx | ⟨i, hi, hx⟩
    · exact conv (hX x hx)
    · by_cases e : i = k
      · subst e
        simp only [setAt_same] at hx
        exact conv (hU x hx)
      · simp only [setAt_ne _ _ e] at hx
        exact .inl (.inr ⟨i, hi, hx⟩)

/-- A pool somewhere, from V on. -/
def PoolTo (w : World) (V : Nat → Prop) (b a : Nat) (R : Nat → Prop) (n : Nat) (D : Nat → TD) (S : PS) (N C : Nat) (w' : World) : Prop :=
  ∃ st O Y X, Pool w' b a R n D S st O Y X N C ∧ Mv V (Has X n O Y) w w'

theorem Pool.same {w w' : World} {b a : Nat} {R : Nat → Prop} {n : Nat} {D : Nat → TD} {S : PS} {st : Nat → Nat} {O Y : Nat → Nat → Prop} {X : Nat → Prop} {N C : Nat} (h : Pool w b a R n D S st O Y X N C) (k : Keeps (fun _ => False) w w') : Pool w' b a R n D S st O Y X N C :=
  { h with sh := h.sh.same k, th := fun i hi => (h.th i hi).keeps k fun _ _ => id }
theorem PoolTo.same {w w1 w2 : World} {V : Nat → Prop} {b a : Nat} {R : Nat → Prop} {n : Nat} {D : Nat → TD} {S : PS} {N C : Nat} (h : PoolTo w V b a R n D S N C w1) (k : Keeps (fun _ => False) w1 w2) : PoolTo w V b a R n D S N C w2 := by
  obtain ⟨st, O, Y, X, h1, h2⟩ := h
  exact ⟨st, O, Y, X, h1.same k, h2.trans (Mv.stay k)⟩

theorem pool_step {w0 w : World} {V : Nat → Prop} {b a : Nat} {R : Nat → Prop} {n : Nat} {D : Nat → TD} {S : PS} {N C : Nat} (hP : PoolTo w0 V b a R n D S N C w) {k : Nat} (hk : k < n) (hN : N ≤ 3000) (hC : C ≤ 8000) :
    Calls Tryz.prog 20 #[.pointer (some ⟨(D k).t, 0, none⟩)] w fun e w' => e = .returned .nilIface ∧ PoolTo w0 V b a R n D (S.step k) (N + 1) (C + 1) w' := by
  obtain ⟨st, O, Y, X, h, hm⟩ := hP
  have hT := h.th k hk
  cases hd : S.dn k with
  | true =>
    obtain ⟨log, hO, _⟩ := hT.tg
    rw [hd] at hO
    refine (step_done hO).mono ?_
    rintro e w' ⟨rfl, rfl⟩
    refine ⟨rfl, st, O, Y, X, ?_, hm⟩
    rw [show S.step k = S by unfold PS.step; rw [if_pos hd]]
    exact { h with few := fun i hi => Nat.le_succ_of_le (h.few i hi), cnt := Nat.le_succ_of_le h.cnt }
  | false =>
    have hst := h.few k hk
    have hcn := h.cnt
    obtain ⟨c1, _, _⟩ := (h.inv.fit k hk).can h.inv.st h.inv.ok
    have ht := hT.tg
    rw [hd] at ht
    refine (tg_step hT.body ht h.sh (fun x hx ho => h.xo k hk x hx (.inl ho)) (fun x hx => hx.elim (fun hy => ⟨fun hx => h.xo k hk x hx (.inr hy), fun ho => h.oy k hk x ho hy⟩) fun hr => ⟨(h.ro x hr).1, fun ho => (h.ro x hr).2 k hk (.inl ho)⟩) c1 (by omega) (by omega)).mono ?_
    rintro e w' ⟨rfl, X', O', Y', hT', hS', hF⟩
    have hi := (PInv.stays n).step S k h.inv hk hd
    rw [PS.step_go hd] at hi ⊢
    obtain ⟨r1, r2⟩ := h.put hk (p' := ((S.p k).step S.m).1) (dn' := ((S.p k).step S.m).1.isRet) (N' := N + 1) (C' := C + 1) ⟨hT', hT.cal, hT.len, hT.ro⟩ hS' hF hi (by omega) (Nat.le_succ _) (by have := (Pr.step_ok h.inv.ok c1).2.1; omega)
    exact ⟨rfl, _, _, _, _, r1, hm.trans r2⟩

/-- Run of a thread that is done. -/
theorem run_done {w : World} {t b pl st : Nat} {F : Nat} {caps : Array Value} {log : List Ent} {O : Nat → Prop} (N : Nat) (hN : (N : Int) ≤ 4000) (hO : ThO w t b pl (.func (.func F) #[] caps) st log true O) :
    Calls Tryz.prog 17 #[.pointer (some ⟨t, 0, none⟩), .int .i64 (N : Int)] w fun e w' => e = .returned .nilIface ∧ w = w' := by
  obtain ⟨c1, c7, c8⟩ := hO.look
  have hn := Lib.hid (tnone_there w c1)
  clear hO c1
  by_cases h0 : (0 : Int) < (N : Int)
  · go_enter Tryz.func17, Tryz.ntmps17
    go_wp2_with (go_at_call 27; refine hn.out.mono ?_; rintro e w' ⟨rfl, rfl⟩)
    refine wp_loop_rounds 1 ?_
    rw [rounds_succ]
    go_wp2_with fail
    go_ret
    exact ⟨rfl, rfl⟩
  · go_enter Tryz.func17, Tryz.ntmps17
    go_wp2_with (go_at_call 27; refine hn.out.mono ?_; rintro e w' ⟨rfl, rfl⟩)
    refine wp_loop_rounds 1 ?_
    rw [rounds_succ]
    go_wp2_with fail
    go_ret
    exact ⟨rfl, rfl⟩

theorem runs_dn {n : Nat} {S : PS} (h : PInv n S) {k : Nat} (hk : k < n) (N : Nat) (hN : 171 ≤ N) : (S.runs k N).dn k = true := by
  unfold PS.runs
  split
  · assumption
  · obtain ⟨j, rfl⟩ : ∃ j, N = 171 + j := ⟨N - 171, by omega⟩
    have h1 := Pr.runs_done 170 (S.p k) S.m (h.deep k hk)
    simp only [setAt_same]
    rw [Pr.runs_more 171 j _ _ h1]
    exact h1
theorem runs_other {S : PS} {k i N : Nat} (h : i ≠ k) : (S.runs k N).dn i = S.dn i ∧ (S.runs k N).p i = S.p i := by
  unfold PS.runs
  split
  · exact ⟨rfl, rfl⟩
  · exact ⟨setAt_ne _ _ h, setAt_ne _ _ h⟩

theorem pool_run {w0 w : World} {V : Nat → Prop} {b a : Nat} {R : Nat → Prop} {n : Nat} {D : Nat → TD} {S : PS} {N C : Nat} (hP : PoolTo w0 V b a R n D S N C w) {k : Nat} (hk : k < n) (M : Nat) (hM : M ≤ 500) (hN : N + M ≤ 4000) (hC : C + M < 9000) :
    Calls Tryz.prog 17 #[.pointer (some ⟨(D k).t, 0, none⟩), .int .i64 (M : Int)] w fun e w' => e = .returned .nilIface ∧ PoolTo w0 V b a R n D (S.runs k M) (N + M) (C + M) w' ∧ ∀ j, j < n → j ≠ k → w'.cell? ⟨(D j).o, 0, none⟩ = w.cell? ⟨(D j).o, 0, none⟩ := by
  obtain ⟨st, O, Y, X, h, hm⟩ := hP
  have hT := h.th k hk
  cases hd : S.dn k with
  | true =>
    obtain ⟨log, hO, _⟩ := hT.tg
    rw [hd] at hO
    refine (run_done M (by omega) hO).mono ?_
    rintro e w' ⟨rfl, rfl⟩
    refine ⟨rfl, ⟨st, O, Y, X, ?_, hm⟩, fun _ _ _ => rfl⟩
    rw [show S.runs k M = S by unfold PS.runs; rw [if_pos hd]]
    exact { h with few := fun i hi => Nat.le_trans (h.few i hi) (Nat.le_add_right _ _), cnt := Nat.le_trans h.cnt (Nat.le_add_right _ _) }
  | false =>
    have hst := h.few k hk
    have hcn := h.cnt
    have ht := hT.tg
    rw [hd] at ht
    refine (tg_run hT.body M ht h.sh (fun x hx ho => h.xo k hk x hx (.inl ho)) (fun x hx => hx.elim (fun hy => ⟨fun hx => h.xo k hk x hx (.inr hy), fun ho => h.oy k hk x ho hy⟩) fun hr => ⟨(h.ro x hr).1, fun ho => (h.ro x hr).2 k hk (.inl ho)⟩) ((h.inv.fit k hk).cans M _ _ h.inv.st h.inv.ok) (by omega) (by omega)).mono ?_
    rintro e w' ⟨rfl, st', X', O', Y', hst', hcn', hT', hS', hF⟩
    have hi := (PInv.stays n).runs hk M S h.inv
    have e1 : S.runs k M = ⟨(Pr.runs M (S.p k) S.m).2.1, setAt S.p k (Pr.runs M (S.p k) S.m).1, setAt S.dn k (Pr.runs M (S.p k) S.m).2.2⟩ := by unfold PS.runs; rw [if_neg (by simp [hd])]
    rw [e1] at hi ⊢
    obtain ⟨r1, r2⟩ := h.put hk (N' := N + M) (C' := C + M) ⟨hT', hT.cal, hT.len, hT.ro⟩ hS' hF hi (by omega) (Nat.le_add_right _ _) (by omega)
    refine ⟨rfl, ⟨_, _, _, _, r1, hm.trans r2⟩, fun j hj hjk => ?_⟩
    have hTj := h.th j hj
    have hoj : Y j (D j).o := by
      obtain ⟨_, _, hPo, _⟩ := hTj.tg
      obtain ⟨v, L, hW, hA, hY, hx⟩ := hPo.out
      exact (hY _).2 (.inl rfl)
    refine hF.keeps.cell (p := ⟨(D j).o, 0, none⟩) (hTj.old _ (.inl (.inr hoj))) ?_
    rintro ((hs | hs) | hs)
    · exact h.xo j hj _ hs (.inr hoj)
    · exact h.pw k j hk hj (fun e => hjk e.symm) _ (.inl hs) (.inr hoj)
    · exact h.pw k j hk hj (fun e => hjk e.symm) _ (.inr hs) (.inr hoj)

/-- A thread that is done: where its answers lie. -/
theorem PoolTo.out {w0 w : World} {V : Nat → Prop} {b a : Nat} {R : Nat → Prop} {n : Nat} {D : Nat → TD} {S : PS} {N C : Nat} (hP : PoolTo w0 V b a R n D S N C w) {k : Nat} (hk : k < n) (hd : S.dn k = true) :
    ∃ v L, S.p k = .ret L ∧ w.cell? ⟨(D k).o, 0, none⟩ = some v ∧ ARow w v L ∧ w.cell? ⟨(D k).t, 1, none⟩ = some (.func (.func 28) #[] (D k).caps) ∧ w.cell? ⟨(D k).t, 7, none⟩ = some (.bool true) := by
  obtain ⟨st, O, Y, X, h, hm⟩ := hP
  obtain ⟨log, hO, hPo, he, ha, hl, hlen, hr⟩ := (h.th k hk).tg
  rw [hd] at hO hPo hr
  obtain ⟨c1, c7, _⟩ := hO.look
  have hret := hr rfl
  cases hp : S.p k with
  | acc q kk => rw [hp] at hret; cases hret
  | ret L =>
    rw [hp] at hPo
    obtain ⟨_, _, v, L', hW, hA, hY, hx⟩ := hPo
    obtain rfl := hx L rfl
    exact ⟨v, L, rfl, hW.at_ 0, hA, c1, c7⟩
end Go.Proofs.YtenhmficiegpiaaGreatDoor

namespace Go.Proofs.YtenhmficiegpiaaGreatDoor
open Go.RowKit Go.Extern.Stop Go.Stop Go.Extern

theorem body_new (lv cv : Value) (o : Nat) (w : World) (hl : ∃ a n c, lv = .slice a n c) (hc : ∃ a n c, cv = .slice a n c) :
    Calls Tryz.prog 19 #[lv, .int .u64 1, cv, .pointer (some ⟨o, 0, none⟩)] w fun e w' => e = .returned (.func (.func 28) #[] #[.pointer (some ⟨w.heap.size, 0, none⟩), .pointer (some ⟨w.heap.size + 1 + 1, 0, none⟩), .pointer (some ⟨w.heap.size + 1, 0, none⟩), .pointer (some ⟨w.heap.size + 1 + 1 + 1, 0, none⟩)]) ∧
      w' = (((w.alloc (.cells #[lv] 32)).alloc (.cells #[.int .u64 1] 24)).alloc (.cells #[cv] 25)).alloc (.cells #[.pointer (some ⟨o, 0, none⟩)] 57) := by
  have hmf := make_func
  obtain ⟨a1, n1, c1, rfl⟩ := hl
  obtain ⟨a2, n2, c2, rfl⟩ := hc
  go_enter Tryz.func19, Tryz.ntmps19
  go_wp2
  go_ret
  exact ⟨rfl, rfl⟩

theorem OutP.oY {p0 p1 p2 p3 o : Nat} {l : List Cal} {k cell : Nat} {R Y : Nat → Prop} {w : World} {x : Option (List Ans)} (h : OutP p0 p1 p2 p3 o l k cell R w Y x) : Y o := by
  obtain ⟨v, L, hW, hA, hY, hx⟩ := h.out
  exact (hY o).2 (.inl rfl)
theorem TI.oY {R : Nat → Prop} {w : World} {b : Nat} {d : TD} {p : Pr (List Ans)} {dn : Bool} {st : Nat} {O Y : Nat → Prop} (h : TI R w b d p dn st O Y) : Y d.o := by
  obtain ⟨log, hO, hP, _⟩ := h.tg
  exact hP.oY

/-- What is read may be more. -/
theorem TI.wider {R R' : Nat → Prop} {w : World} {b : Nat} {d : TD} {p : Pr (List Ans)} {dn : Bool} {st : Nat} {O Y : Nat → Prop} (h : TI R w b d p dn st O Y) (hR : ∀ x, R x → R' x) (ho : ∀ x, R' x → x < w.heap.size) (hn : ¬ R' d.o) : TI R' w b d p dn st O Y := by
  obtain ⟨⟨log, hO, ⟨⟨⟨v, q1, q2, q3⟩, ⟨g, cp, q4, q5, q6⟩, q7, q8, r0, r1, r2, r3⟩, _, hout⟩, h3⟩, h4, h5, _⟩ := h
  exact ⟨⟨log, hO, ⟨⟨⟨v, q1, q2, fun g hg => hR g (q3 g hg)⟩, ⟨g, cp, q4, q5, hR g q6⟩, q7, q8, hR _ r0, hR _ r1, hR _ r2, hR _ r3⟩, ho, hout⟩, h3⟩, h4, h5, hn⟩

/-- A new thread joins. -/
theorem Pool.add {w w' : World} {b a : Nat} {R R' : Nat → Prop} {n : Nat} {D : Nat → TD} {S : PS} {st : Nat → Nat} {O Y : Nat → Nat → Prop} {X O' Y' : Nat → Prop} {N C : Nat} (h : Pool w b a R n D S st O Y X N C) (k : Keeps (fun _ => False) w w') (d : TD) (hT : TI R' w' b d (S.p n) (S.dn n) 0 O' Y')
    (hnew : ∀ x, O' x ∨ Y' x → w.heap.size ≤ x) (hoy : ∀ x, O' x → ¬ Y' x) (hR : ∀ x, R x → R' x) (hR' : ∀ x, R' x → (R x ∧ x < w.heap.size) ∨ (¬ Has X n O Y x ∧ ¬ (O' x ∨ Y' x))) (hinv : PInv (n + 1) S) :
    Pool w' b a R' (n + 1) (setAt D n d) S (setAt st n 0) (setAt O n O') (setAt Y n Y') X N C := by
  have hlt : ∀ i, i < n → ∀ x, O i x ∨ Y i x → ¬ w.heap.size ≤ x := fun i hi x hx => by have := (h.th i hi).old x (.inl hx); omega
  have hRn : ∀ x, R' x → ¬ Has X n O Y x := fun x hx => by
    rcases hR' x hx with hx | hx
    · rintro (hX | ⟨i, hi, hu⟩)
      · exact (h.ro x hx.1).1 hX
      · exact (h.ro x hx.1).2 i hi hu
    · exact hx.1
  have hs := k.size
  refine {
    sh := h.sh.same k
    th := fun i hi => ?_
    inv := hinv
    xo := fun i hi x hx => ?_
    oy := fun i hi x hx => ?_
    pw := fun i j hi hj hij x hx => ?_
    ro := fun x hx => ⟨fun hX => hRn x hx (.inl hX), fun i hi => ?_⟩
    few := fun i hi => ?_
    cnt := h.cnt }
  · by_cases e : i = n
    · subst e; simp only [setAt_same]; exact hT
    · have hi' : i < n := by omega
      simp only [setAt_ne _ _ e]
      exact ((h.th i hi').keeps k fun _ _ => id).wider hR (fun x hx => hT.old x (.inr hx)) fun hx => hRn _ hx (.inr ⟨i, hi', .inr (h.th i hi').oY⟩)
  · by_cases e : i = n
    · subst e
      simp only [setAt_same]
      exact fun hu => by have := hnew x hu; have := h.sh.old x hx; omega
    · simp only [setAt_ne _ _ e]; exact h.xo i (by omega) x hx
  · by_cases e : i = n
    · subst e; simp only [setAt_same] at hx ⊢; exact hoy x hx
    · simp only [setAt_ne _ _ e] at hx ⊢; exact h.oy i (by omega) x hx
  · by_cases e : i = n
    · subst e
      have e2 : j ≠ i := fun h => hij h.symm
      simp only [setAt_same, setAt_ne _ _ e2] at hx ⊢
      exact fun hu => hlt j (by omega) x hu (hnew x hx)
    · by_cases e2 : j = n
      · subst e2
        simp only [setAt_same, setAt_ne _ _ e] at hx ⊢
        exact fun hu => hlt i (by omega) x hx (hnew x hu)
      · simp only [setAt_ne _ _ e, setAt_ne _ _ e2] at hx ⊢
        exact h.pw i j (by omega) (by omega) hij x hx
  · by_cases e : i = n
    · subst e
      simp only [setAt_same]
      rcases hR' x hx with hx | hx
      · exact fun hu => by have := hnew x hu; omega
      · exact hx.2
    · simp only [setAt_ne _ _ e]
      exact fun hu => hRn x hx (.inr ⟨i, by omega, hu⟩)
  · by_cases e : i = n
    · subst e; simp only [setAt_same]; exact Nat.zero_le _
    · simp only [setAt_ne _ _ e]; exact h.few i (by omega)

theorem has_add {X : Nat → Prop} {n : Nat} {O Y : Nat → Nat → Prop} {O' Y' : Nat → Prop} {x : Nat} (h : Has X (n + 1) (setAt O n O') (setAt Y n Y') x) : Has X n O Y x ∨ O' x ∨ Y' x := by
  rcases h with h | ⟨i, hi, h⟩
  · exact .inl (.inl h)
  · by_cases e : i = n
    · subst e; simp only [setAt_same] at h; exact .inr h
    · simp only [setAt_ne _ _ e] at h; exact .inl (.inr ⟨i, by omega, h⟩)

/-- Other blocks may be written. -/
theorem Pool.keeps {w w' : World} {b a : Nat} {R : Nat → Prop} {n : Nat} {D : Nat → TD} {S : PS} {st : Nat → Nat} {O Y : Nat → Nat → Prop} {X T : Nat → Prop} {N C : Nat} (h : Pool w b a R n D S st O Y X N C) (k : Keeps T w w') (hT : ∀ x, T x → ¬ Has X n O Y x ∧ ¬ R x) (hg : ¬ T etB) : Pool w' b a R n D S st O Y X N C :=
  { h with
    sh := h.sh.keeps k (fun x hx ht => (hT x ht).1 (.inl hx)) hg
    th := fun i hi => (h.th i hi).keeps k fun x hx ht => hx.elim (fun hu => (hT x ht).1 (.inr ⟨i, hi, hu⟩)) (hT x ht).2 }

/-- A row of pointers, or of slices, of one's own. -/
structure PRow (w0 w : World) (V : Nat → Prop) (e : TypeId) (v : Value) (xs : List Value) : Prop where
  row : w.ownsRow 0 e 1 v xs.length xs
  far : ∀ g, v.ownBlock = some g → ¬ V g ∧ w0.heap.size ≤ g

theorem PRow.nil (w0 w : World) (V : Nat → Prop) (e : TypeId) : PRow w0 w V e (.slice none 0 0) [] := ⟨World.ownsRow_nil _ _ _ _, fun g hg => by cases hg⟩
theorem PRow.keeps {w0 w w' : World} {V V' S : Nat → Prop} {e : TypeId} {v : Value} {xs : List Value} (h : PRow w0 w V e v xs) (k : Keeps S w w') (hS : ∀ x, x < w.heap.size → w0.heap.size ≤ x → ¬ V x → ¬ S x ∧ ¬ V' x) : PRow w0 w' V' e v xs :=
  ⟨ownsRow_keeps h.row k fun g hg => (hS g (h.row.lt g hg).2 (h.far g hg).2 (h.far g hg).1).1, fun g hg => ⟨(hS g (h.row.lt g hg).2 (h.far g hg).2 (h.far g hg).1).2, (h.far g hg).2⟩⟩
theorem PRow.shape {w0 w : World} {V : Nat → Prop} {e : TypeId} {v : Value} {xs : List Value} (h : PRow w0 w V e v xs) : ∃ o c, v = .slice o xs.length c ∧ (0 < xs.length → ∃ g, o = some ⟨g, 0, none⟩) := by
  rcases h.row.2 with ⟨hv, hn⟩ | ⟨g, cap, cur, hv, _⟩
  · exact ⟨_, _, by rw [hn]; exact hv, fun h => by omega⟩
  · exact ⟨_, _, hv, fun _ => ⟨g, rfl⟩⟩
theorem PRow.cell {w0 w : World} {V : Nat → Prop} {e : TypeId} {g c n : Nat} {xs : List Value} (h : PRow w0 w V e (.slice (some ⟨g, 0, none⟩) n c) xs) (hn : xs.length = n) (j : Nat) (hj : j < n) : w.cell? ⟨g, j, none⟩ = xs[j]? := by
  subst hn
  exact h.row.cellAt j (by omega)
theorem PRow.grown {w0 w w' : World} {V : Nat → Prop} {e : TypeId} {v : Value} {xs : List Value} {y : Value} {g cap n : Nat} (h : PRow w0 w V e v xs) (hn : xs.length = n) (hw : w0.heap.size ≤ w.heap.size) (hV : ∀ x, V x → x < w.heap.size) (hO : w'.ownsRow 0 e 1 (.slice (some ⟨g, 0, none⟩) (n + 1) cap) (n + 1) (xs ++ [y])) (hloc : v.ownBlock = some g ∨ g = w.heap.size) : PRow w0 w' V e (.slice (some ⟨g, 0, none⟩) (n + 1) cap) (xs ++ [y]) := by
  subst hn
  refine ⟨by rw [List.length_append]; exact hO, fun g' hg => ?_⟩
  have hg : g = g' := by simpa [Value.ownBlock] using hg
  subst hg
  rcases hloc with hl | rfl
  · exact h.far g hl
  · exact ⟨fun hv => by have := hV _ hv; omega, hw⟩
end Go.Proofs.YtenhmficiegpiaaGreatDoor

namespace Go.Proofs.YtenhmficiegpiaaGreatDoor
open Go.RowKit Go.Extern.Stop Go.Stop Go.Extern

def ptrT (D : Nat → TD) (n : Nat) : List Value := (List.range n).map fun i => .pointer (some ⟨(D i).t, 0, none⟩)
def ptrO (D : Nat → TD) (n : Nat) : List Value := (List.range n).map fun i => .pointer (some ⟨(D i).o, 0, none⟩)
theorem ptrT_len (D : Nat → TD) (n : Nat) : (ptrT D n).length = n := by simp [ptrT]
theorem ptrO_len (D : Nat → TD) (n : Nat) : (ptrO D n).length = n := by simp [ptrO]
theorem ptrT_add (D : Nat → TD) (n : Nat) (d : TD) : ptrT (setAt D n d) (n + 1) = ptrT D n ++ [.pointer (some ⟨d.t, 0, none⟩)] := by
  unfold ptrT
  rw [List.range_succ, List.map_append, List.map_singleton, setAt_same]
  congr 1
  exact List.map_congr_left fun i hi => by rw [setAt_ne D d (Nat.ne_of_lt (List.mem_range.1 hi))]
theorem ptrO_add (D : Nat → TD) (n : Nat) (d : TD) : ptrO (setAt D n d) (n + 1) = ptrO D n ++ [.pointer (some ⟨d.o, 0, none⟩)] := by
  unfold ptrO
  rw [List.range_succ, List.map_append, List.map_singleton, setAt_same]
  congr 1
  exact List.map_congr_left fun i hi => by rw [setAt_ne D d (Nat.ne_of_lt (List.mem_range.1 hi))]
theorem ptrT_at (D : Nat → TD) {n k : Nat} (h : k < n) : (ptrT D n)[k]? = some (.pointer (some ⟨(D k).t, 0, none⟩)) := by simp [ptrT, h]
theorem ptrO_at (D : Nat → TD) {n k : Nat} (h : k < n) : (ptrO D n)[k]? = some (.pointer (some ⟨(D k).o, 0, none⟩)) := by simp [ptrO, h]

/-- run, from w0 on, where the blocks have X0: n threads, their rows. -/
structure RunP' (w0 w : World) (b a : Nat) (R : Nat → Prop) (n : Nat) (D : Nat → TD) (S : PS) (st : Nat → Nat) (O Y : Nat → Nat → Prop) (X : Nat → Prop) (N C : Nat) (tv ov : Value) (X0 : Nat → Prop) : Prop where
  pool : Pool w b a R n D S st O Y X N C
  t : PRow w0 w (fun x => Has X n O Y x ∨ R x) 46 tv (ptrT D n)
  o : PRow w0 w (fun x => Has X n O Y x ∨ R x) 57 ov (ptrO D n)
  mv : Mv X0 (Has X n O Y) w0 w
  r : ∀ x, R x → x < w.heap.size

def RunS (w0 w : World) (b a n : Nat) (D : Nat → TD) (S : PS) (N C : Nat) (tv ov : Value) (X0 : Nat → Prop) : Prop :=
  ∃ R st O Y X, RunP' w0 w b a R n D S st O Y X N C tv ov X0

theorem RunS.same {w0 w w' : World} {b a n : Nat} {D : Nat → TD} {S : PS} {N C : Nat} {tv ov : Value} {X0 : Nat → Prop} (h : RunS w0 w b a n D S N C tv ov X0) (k : Keeps (fun _ => False) w w') : RunS w0 w' b a n D S N C tv ov X0 := by
  obtain ⟨R, st, O, Y, X, h1, h2, h3, h4, h5⟩ := h
  exact ⟨R, st, O, Y, X, h1.same k, h2.keeps k fun _ _ _ hv => ⟨id, hv⟩, h3.keeps k fun _ _ _ hv => ⟨id, hv⟩, h4.trans (Mv.stay k), fun x hx => Nat.lt_of_lt_of_le (h5 x hx) k.size⟩

/-- A row that is neither of these may be written. -/
theorem RunP'.keeps {w0 w w' : World} {b a n : Nat} {R : Nat → Prop} {D : Nat → TD} {S : PS} {st : Nat → Nat} {O Y : Nat → Nat → Prop} {X T : Nat → Prop} {N C : Nat} {tv ov : Value} {X0 : Nat → Prop} (h : RunP' w0 w b a R n D S st O Y X N C tv ov X0) (k : Keeps T w w')
    (hT : ∀ x, T x → ¬ (Has X n O Y x ∨ R x) ∧ w0.heap.size ≤ x ∧ tv.ownBlock ≠ some x ∧ ov.ownBlock ≠ some x) (hg : etB < w0.heap.size) : RunP' w0 w' b a R n D S st O Y X N C tv ov X0 where
  pool := h.pool.keeps k (fun x hx => ⟨fun h' => (hT x hx).1 (.inl h'), fun h' => (hT x hx).1 (.inr h')⟩) fun ht => by have := (hT _ ht).2.1; omega
  t := ⟨ownsRow_keeps h.t.row k fun g hg ht => (hT g ht).2.2.1 hg, h.t.far⟩
  o := ⟨ownsRow_keeps h.o.row k fun g hg ht => (hT g ht).2.2.2 hg, h.o.far⟩
  mv := ⟨h.mv.keeps.trans k fun x hx ht => absurd hx (Nat.not_lt.2 (hT x ht).2.1), h.mv.new⟩
  r := fun x hx => Nat.lt_of_lt_of_le (h.r x hx) k.size

theorem own_cells6 {w : World} {base : Nat} {e : TypeId} {size : Nat} {v : Value} {n : Nat} {xs : List Value} (h : w.ownsRow base e size v n xs) {b : Nat} (hb : v.ownBlock = some b) : ∃ cs, Whole w b e cs := by
  rcases h.2 with ⟨rfl, _⟩ | ⟨g', cap, cur, rfl, _, hh, _⟩
  · simp [Value.ownBlock] at hb
  · obtain rfl : g' = b := by simpa [Value.ownBlock] using hb
    exact ⟨cur, hh⟩
theorem own_ne {w : World} {v u : Value} {n m : Nat} {xs ys : List Value} (h : w.ownsRow 0 46 1 v n xs) (k : w.ownsRow 0 57 1 u m ys) {g : Nat} (hg : v.ownBlock = some g) : u.ownBlock ≠ some g := fun hu => by
  obtain ⟨c1, h1⟩ := own_cells6 h hg
  obtain ⟨c2, h2⟩ := own_cells6 k hu
  exact absurd (show 46 = 57 by
    unfold Whole at h1 h2
    rw [h1] at h2
    injection h2 with h2
    injection h2) (by decide)

/-- A thread has been made, and noted in both rows. -/
theorem RunS.add {w0 w w3 V1 V2 : World} {b a n : Nat} {D : Nat → TD} {S : PS} {C : Nat} {tv ov : Value} {X0 : Nat → Prop} (h : RunS w0 w b a n D S 0 C tv ov X0) (k : Keeps (fun _ => False) w w3) (d : TD) (R1 O' Y' : Nat → Prop) (hT : TI R1 w3 b d (S.p n) (S.dn n) 0 O' Y')
    (hnew : ∀ x, O' x ∨ Y' x → w.heap.size ≤ x) (hoy : ∀ x, O' x → ¬ Y' x) (hR1 : ∀ x, R1 x → ¬ (O' x ∨ Y' x) ∧ (w.heap.size ≤ x ∨ (x < w0.heap.size ∧ ¬ X0 x))) (hinv : PInv (n + 1) S) (hg : etB < w0.heap.size)
    {o1 o2 : Obj} {g1 c1 g2 c2 : Nat} (hO1 : V1.ownsRow 0 46 1 (.slice (some ⟨g1, 0, none⟩) (n + 1) c1) (n + 1) (ptrT D n ++ [.pointer (some ⟨d.t, 0, none⟩)])) (hG1 : (w3.alloc o1).grownBy V1 tv.ownBlock) (hl1 : tv.ownBlock = some g1 ∨ g1 = (w3.alloc o1).heap.size)
    (hO2 : V2.ownsRow 0 57 1 (.slice (some ⟨g2, 0, none⟩) (n + 1) c2) (n + 1) (ptrO D n ++ [.pointer (some ⟨d.o, 0, none⟩)])) (hG2 : (V1.alloc o2).grownBy V2 ov.ownBlock) (hl2 : ov.ownBlock = some g2 ∨ g2 = (V1.alloc o2).heap.size) :
    RunS w0 V2 b a (n + 1) (setAt D n d) S 0 C (.slice (some ⟨g1, 0, none⟩) (n + 1) c1) (.slice (some ⟨g2, 0, none⟩) (n + 1) c2) X0 := by
  obtain ⟨R, st, O, Y, X, hp, ht, ho, hm, hr⟩ := h
  have hws := hm.keeps.size
  have k3 := k.size
  have hasw : ∀ x, Has X n O Y x → x < w.heap.size := hp.old
  have has0 : ∀ x, Has X n O Y x → ¬ (x < w0.heap.size ∧ ¬ X0 x) := fun x hx hc => by
    rcases hm.new x hx with h' | h'
    · exact hc.2 h'
    · omega
  have hR3 : ∀ x, R x ∨ R1 x → x < w3.heap.size := fun x hx => hx.elim (fun h => Nat.lt_of_lt_of_le (hr x h) k3) fun h => hT.old x (.inr h)
  have hwide : TI (fun x => R x ∨ R1 x) w3 b d (S.p n) (S.dn n) 0 O' Y' := hT.wider (fun x => .inr) hR3 fun hx => hx.elim (fun h => by have := hr _ h; have := hnew _ (.inr hT.oY); omega) fun h => (hR1 _ h).1 (.inr hT.oY)
  have hpool := hp.add k d hwide hnew hoy (fun x => .inl) (fun x hx => hx.elim (fun h => .inl ⟨h, hr x h⟩) fun h => .inr ⟨fun hh => (hR1 x h).2.elim (fun h' => by have := hasw x hh; omega) (has0 x hh), (hR1 x h).1⟩) hinv
  -- the blocks of the rows are none of these
  have hfar : ∀ g, (tv.ownBlock = some g ∨ ov.ownBlock = some g) → g < w.heap.size ∧ ¬ (Has X (n + 1) (setAt O n O') (setAt Y n Y') g ∨ (R g ∨ R1 g)) ∧ w0.heap.size ≤ g := by
    intro g hg'
    obtain ⟨h1, h2, h3⟩ : g < w.heap.size ∧ ¬ (Has X n O Y g ∨ R g) ∧ w0.heap.size ≤ g := hg'.elim (fun h => ⟨(ht.row.lt g h).2, (ht.far g h).1, (ht.far g h).2⟩) fun h => ⟨(ho.row.lt g h).2, (ho.far g h).1, (ho.far g h).2⟩
    refine ⟨h1, ?_, h3⟩
    rintro (hh | hh | hh)
    · rcases has_add hh with h' | h'
      · exact h2 (.inl h')
      · have := hnew g h'; omega
    · exact h2 (.inr hh)
    · rcases (hR1 g hh).2 with h' | h'
      · omega
      · omega
  have hHas3 : ∀ x, Has X (n + 1) (setAt O n O') (setAt Y n Y') x ∨ (R x ∨ R1 x) → x < w3.heap.size := fun x hx => hx.elim (hpool.old x) (hR3 x)
  have ka : Keeps (fun _ => False) w3 (w3.alloc o1) := (Keeps.refl _ w3).alloc _
  have kt : Keeps (fun x => tv.ownBlock = some x) (w3.alloc o1) V1 := keeps_row hG1
  have kb : Keeps (fun _ => False) V1 (V1.alloc o2) := (Keeps.refl _ V1).alloc _
  have ko : Keeps (fun x => ov.ownBlock = some x) (V1.alloc o2) V2 := keeps_row hG2
  have ha1 : w3.heap.size ≤ (w3.alloc o1).heap.size := ka.size
  have hv1 : (w3.alloc o1).heap.size ≤ V1.heap.size := kt.size
  have hv2 : V1.heap.size ≤ (V1.alloc o2).heap.size := kb.size
  have hv3 : (V1.alloc o2).heap.size ≤ V2.heap.size := ko.size
  -- the second row's block is not the first one's
  have hg1o : ov.ownBlock ≠ some g1 := fun he => by
    rcases hl1 with h' | h'
    · exact own_ne ht.row ho.row h' he
    · have := (hfar g1 (.inr he)).1; omega
  have hg1f : ¬ (Has X (n + 1) (setAt O n O') (setAt Y n Y') g1 ∨ (R g1 ∨ R1 g1)) ∧ w0.heap.size ≤ g1 := by
    rcases hl1 with h' | h'
    · exact (hfar g1 (.inl h')).2
    · exact ⟨fun hh => by have := hHas3 g1 hh; omega, by omega⟩
  have hg2f : ¬ (Has X (n + 1) (setAt O n O') (setAt Y n Y') g2 ∨ (R g2 ∨ R1 g2)) ∧ w0.heap.size ≤ g2 := by
    rcases hl2 with h' | h'
    · exact (hfar g2 (.inr h')).2
    · exact ⟨fun hh => by have := hHas3 g2 hh; omega, by omega⟩
  refine ⟨fun x => R x ∨ R1 x, setAt st n 0, setAt O n O', setAt Y n Y', X, {
    pool := ?_
    t := ⟨?_, fun g hg => ?_⟩
    o := ⟨?_, fun g hg => ?_⟩
    mv := ⟨?_, fun x hx => ?_⟩
    r := fun x hx => by have := hR3 x hx; omega }⟩
  · have h1 := (hpool.same ka).keeps kt (fun x hx => ⟨fun hh => (hfar x (.inl hx)).2.1 (.inl hh), fun hh => (hfar x (.inl hx)).2.1 (.inr hh)⟩) fun he => by have := (hfar _ (.inl he)).2.2; omega
    exact (h1.same kb).keeps ko (fun x hx => ⟨fun hh => (hfar x (.inr hx)).2.1 (.inl hh), fun hh => (hfar x (.inr hx)).2.1 (.inr hh)⟩) fun he => by have := (hfar _ (.inr he)).2.2; omega
  · rw [ptrT_add, show (ptrT D n ++ [Value.pointer (some ⟨d.t, 0, none⟩)]).length = n + 1 by simp [ptrT_len]]
    exact ownsRow_keeps (ownsRow_keeps hO1 kb fun _ _ => id) ko fun g hg => by
      have : g1 = g := by simpa [Value.ownBlock] using hg
      subst this
      exact hg1o
  · have : g1 = g := by simpa [Value.ownBlock] using hg
    subst this
    exact hg1f
  · rw [ptrO_add, show (ptrO D n ++ [Value.pointer (some ⟨d.o, 0, none⟩)]).length = n + 1 by simp [ptrO_len]]
    exact hO2
  · have : g2 = g := by simpa [Value.ownBlock] using hg
    subst this
    exact hg2f
  · exact ((((hm.keeps.trans k fun _ _ => False.elim).trans ka fun _ _ => False.elim).trans kt fun x hx he => by have := (hfar x (.inl he)).2.2; omega).trans kb fun _ _ => False.elim).trans ko fun x hx he => by have := (hfar x (.inr he)).2.2; omega
  · rcases has_add hx with h' | h'
    · exact hm.new x h'
    · have := hnew x h'; exact .inr (by omega)

theorem RunP'.next {w0 w w' : World} {b a n : Nat} {D : Nat → TD} {S S' : PS} {R : Nat → Prop} {st : Nat → Nat} {O Y : Nat → Nat → Prop} {X : Nat → Prop} {N C N' C' : Nat} {tv ov : Value} {X0 : Nat → Prop} (h : RunP' w0 w b a R n D S st O Y X N C tv ov X0) (hP : PoolTo w (Has X n O Y) b a R n D S' N' C' w') :
    ∃ st' O' Y' X', RunP' w0 w' b a R n D S' st' O' Y' X' N' C' tv ov X0 ∧ Mv (Has X n O Y) (Has X' n O' Y') w w' := by
  obtain ⟨st', O', Y', X', hp, hm⟩ := hP
  have hn : ∀ x, x < w.heap.size → w0.heap.size ≤ x → ¬ (Has X n O Y x ∨ R x) → ¬ Has X n O Y x ∧ ¬ (Has X' n O' Y' x ∨ R x) := fun x hx _ hv => ⟨fun h => hv (.inl h), fun hh => hh.elim (hm.apart hx fun h => hv (.inl h)) fun h => hv (.inr h)⟩
  exact ⟨st', O', Y', X', ⟨hp, h.t.keeps hm.keeps hn, h.o.keeps hm.keeps hn, h.mv.trans hm, fun x hx => Nat.lt_of_lt_of_le (h.r x hx) hm.keeps.size⟩, hm⟩

theorem runS_step {w0 w : World} {b a n : Nat} {D : Nat → TD} {S : PS} {N C : Nat} {tv ov : Value} {X0 : Nat → Prop} (h : RunS w0 w b a n D S N C tv ov X0) {k : Nat} (hk : k < n) (hN : N ≤ 3000) (hC : C ≤ 8000) :
    Calls Tryz.prog 20 #[.pointer (some ⟨(D k).t, 0, none⟩)] w fun e w' => e = .returned .nilIface ∧ RunS w0 w' b a n D (S.step k) (N + 1) (C + 1) tv ov X0 := by
  obtain ⟨R, st, O, Y, X, h⟩ := h
  refine (pool_step ⟨st, O, Y, X, h.pool, Mv.refl _ _⟩ hk hN hC).mono ?_
  rintro e w' ⟨rfl, hP⟩
  obtain ⟨st', O', Y', X', h1, _⟩ := h.next hP
  exact ⟨rfl, R, st', O', Y', X', h1⟩

/-- run, while it collects: av: the row of what threads answered. -/
structure RunC (w0 w : World) (b a n : Nat) (D : Nat → TD) (S : PS) (N C : Nat) (tv ov av : Value) (xs : List Value) (X0 : Nat → Prop) : Prop where
  ex : ∃ R st O Y X, RunP' w0 w b a R n D S st O Y X N C tv ov X0 ∧ PRow w0 w (fun x => Has X n O Y x ∨ R x) 36 av xs
  outs : ∀ j, j < xs.length → w.cell? ⟨(D j).o, 0, none⟩ = xs[j]?
  dn : ∀ j, j < xs.length → S.dn j = true
  le : xs.length ≤ n

theorem runC_run {w0 w : World} {b a n : Nat} {D : Nat → TD} {S : PS} {N C : Nat} {tv ov av : Value} {xs : List Value} {X0 : Nat → Prop} (h : RunC w0 w b a n D S N C tv ov av xs X0) {k : Nat} (hk : k < n) (hkx : xs.length = k) (hN : N + 500 ≤ 4000) (hC : C + 500 < 9000) :
    Calls Tryz.prog 17 #[.pointer (some ⟨(D k).t, 0, none⟩), .int .i64 500] w fun e w' => e = .returned .nilIface ∧ RunC w0 w' b a n D (S.runs k 500) (N + 500) (C + 500) tv ov av xs X0 ∧
      (S.runs k 500).dn k = true ∧ (∃ o n' c, w'.cell? ⟨(D k).o, 0, none⟩ = some (.slice o n' c)) ∧ w'.cell? ⟨(D k).t, 1, none⟩ = some (.func (.func 28) #[] (D k).caps) ∧ w'.cell? ⟨(D k).t, 7, none⟩ = some (.bool true) := by
  obtain ⟨⟨R, st, O, Y, X, h, hav⟩, ho, hd, hle⟩ := h
  refine (pool_run ⟨st, O, Y, X, h.pool, Mv.refl _ _⟩ hk 500 (Nat.le_refl _) hN hC).mono ?_
  rintro e w' ⟨rfl, hP, hj⟩
  obtain ⟨st', O', Y', X', h1, hm⟩ := h.next hP
  have hdn := runs_dn h.pool.inv hk 500 (by decide)
  obtain ⟨v, L, _, hv, hA, c1, c7⟩ := hP.out hk hdn
  obtain ⟨vo, vc, hvs, _⟩ := hA.shape
  refine ⟨rfl, ⟨⟨R, st', O', Y', X', h1, hav.keeps hm.keeps fun x hx _ hv => ⟨fun h => hv (.inl h), fun hh => hh.elim (hm.apart hx fun h => hv (.inl h)) fun h => hv (.inr h)⟩⟩, fun j hjx => (hj j (by omega) (by omega)).trans (ho j hjx), fun j hjx => ?_, hle⟩, hdn, ⟨vo, L.length, vc, by rw [hv, hvs]⟩, c1, c7⟩
  rw [(runs_other (show j ≠ k by omega)).1]
  exact hd j hjx

theorem own_ne3 {w : World} {e1 e2 : TypeId} (he : e1 ≠ e2) {v u : Value} {n m : Nat} {xs ys : List Value} (h : w.ownsRow 0 e1 1 v n xs) (k : w.ownsRow 0 e2 1 u m ys) {g : Nat} (hg : v.ownBlock = some g) : u.ownBlock ≠ some g := fun hu => by
  obtain ⟨c1, h1⟩ := own_cells6 h hg
  obtain ⟨c2, h2⟩ := own_cells6 k hu
  unfold Whole at h1 h2
  rw [h1] at h2
  injection h2 with h2
  injection h2 with _ h2
  exact he h2

/-- What the next thread answered is noted. -/
theorem RunC.add {w0 w V : World} {b a n : Nat} {D : Nat → TD} {S : PS} {N C : Nat} {tv ov av u : Value} {xs : List Value} {X0 : Nat → Prop} {k : Nat} (h : RunC w0 w b a n D S N C tv ov av xs X0) (hk : k < n) (hkx : xs.length = k) (hd : S.dn k = true) (hu : w.cell? ⟨(D k).o, 0, none⟩ = some u) (hg : etB < w0.heap.size) {o1 : Obj} {g c : Nat}
    (hO : V.ownsRow 0 36 1 (.slice (some ⟨g, 0, none⟩) (k + 1) c) (k + 1) (xs ++ [u])) (hG : (w.alloc o1).grownBy V av.ownBlock) (hl : av.ownBlock = some g ∨ g = (w.alloc o1).heap.size) : RunC w0 V b a n D S N C tv ov (.slice (some ⟨g, 0, none⟩) (k + 1) c) (xs ++ [u]) X0 := by
  obtain ⟨⟨R, st, O, Y, X, h, hav⟩, ho, hdn, hle⟩ := h
  have ka : Keeps (fun _ => False) w (w.alloc o1) := (Keeps.refl _ w).alloc _
  have kg : Keeps (fun x => av.ownBlock = some x) (w.alloc o1) V := keeps_row hG
  have hws := h.mv.keeps.size
  have has := ka.size
  have h1 : RunP' w0 (w.alloc o1) b a R n D S st O Y X N C tv ov X0 := ⟨h.pool.same ka, h.t.keeps ka fun _ _ _ hv => ⟨id, hv⟩, h.o.keeps ka fun _ _ _ hv => ⟨id, hv⟩, h.mv.trans (Mv.stay ka), fun x hx => Nat.lt_of_lt_of_le (h.r x hx) has⟩
  have h2 := h1.keeps kg (fun x hx => ⟨(hav.far x hx).1, (hav.far x hx).2, own_ne3 (by decide) hav.row h.t.row hx, own_ne3 (by decide) hav.row h.o.row hx⟩) hg
  have hoY : ∀ j, j < n → av.ownBlock ≠ some (D j).o ∧ (D j).o < w.heap.size := fun j hj => by
    have hh : Has X n O Y (D j).o := .inr ⟨j, hj, .inr (h.pool.th j hj).oY⟩
    exact ⟨fun e => (hav.far _ e).1 (.inl hh), h.pool.old _ hh⟩
  have hcell : ∀ j, j < n → V.cell? ⟨(D j).o, 0, none⟩ = w.cell? ⟨(D j).o, 0, none⟩ := fun j hj =>
    (kg.cell (p := ⟨(D j).o, 0, none⟩) (Nat.lt_of_lt_of_le (hoY j hj).2 has) (hoY j hj).1).trans (ka.cell (p := ⟨(D j).o, 0, none⟩) (hoY j hj).2 id)
  refine ⟨⟨R, st, O, Y, X, h2, ⟨?_, fun g' hg' => ?_⟩⟩, fun j hj => ?_, fun j hj => ?_, ?_⟩
  · rw [show (xs ++ [u]).length = k + 1 by simp [hkx]]; exact hO
  · have : g = g' := by simpa [Value.ownBlock] using hg'
    subst this
    rcases hl with hl | hl
    · exact hav.far g hl
    · refine ⟨fun hh => ?_, by omega⟩
      have : g < w.heap.size := hh.elim (h.pool.old g) (h.r g)
      omega
  · rw [List.length_append, List.length_singleton] at hj
    rw [hcell j (by omega)]
    by_cases e : j = k
    · subst e
      rw [hu, List.getElem?_append_right (by omega), hkx, Nat.sub_self]
      rfl
    · rw [ho j (by omega), List.getElem?_append_left (by omega)]
  · rw [List.length_append, List.length_singleton] at hj
    by_cases e : j = k
    · subst e; exact hd
    · exact hdn j (by omega)
  · rw [List.length_append, List.length_singleton]; omega

/-- What run leaves. -/
def RunTo (w : World) (b a n : Nat) (S0 : PS) (C : Nat) (X : Nat → Prop) (e : Ending) (w' : World) : Prop :=
  ∃ v xs Sf X', e = .returned (.tuple #[v, .bool true]) ∧ w'.ownsRow 0 36 1 v n xs ∧ xs.length = n ∧ (∀ j, j < n → ∃ u L, xs[j]? = some u ∧ Sf.p j = .ret L ∧ ARow w' u L) ∧
    (∀ I, Stays n I → I S0 → I Sf) ∧ Sha w' b a Sf.m X' ∧ Sf.m.cnt ≤ C ∧ Mv X X' w w'

theorem RunC.fin {w0 w : World} {b a n : Nat} {D : Nat → TD} {S S0 : PS} {N C : Nat} {tv ov av : Value} {xs : List Value} {X0 : Nat → Prop} (h : RunC w0 w b a n D S N C tv ov av xs X0) (hx : xs.length = n) (hI : ∀ I, Stays n I → I S0 → I S) : RunTo w0 b a n S0 C X0 (.returned (.tuple #[av, .bool true])) w := by
  obtain ⟨⟨R, st, O, Y, X, h, hav⟩, ho, hdn, hle⟩ := h
  refine ⟨av, xs, S, X, rfl, by rw [← hx]; exact hav.row, hx, fun j hj => ?_, hI, h.pool.sh, h.pool.cnt, ⟨h.mv.keeps, fun x hx => h.mv.new x (.inl hx)⟩⟩
  obtain ⟨v, L, hp, hv, hA, _, _⟩ := PoolTo.out ⟨st, O, Y, X, h.pool, Mv.refl _ _⟩ hj (hdn j (by omega))
  exact ⟨v, L, (ho j (by omega)).symm.trans hv, hp, hA⟩
end Go.Proofs.YtenhmficiegpiaaGreatDoor

namespace Go.Proofs.YtenhmficiegpiaaGreatDoor
open Go.RowKit Go.Extern.Stop Go.Stop Go.Extern

theorem info_thread : (Tryz.prog.info? 46).map (fun i => (i.zero, i.size, i.bytes)) = some (some (.pointer none), 1, 8) := by kernel_rfl
theorem info_outp : (Tryz.prog.info? 57).map (fun i => (i.zero, i.size, i.bytes)) = some (some (.pointer none), 1, 8) := by kernel_rfl
theorem info_rowA : (Tryz.prog.info? 36).map (fun i => (i.zero, i.size, i.bytes)) = some (some (.slice none 0 0), 1, 24) := by kernel_rfl

theorem after_nil {α : Type} (p : Pr α) : p.after [] = p := by cases p <;> rfl
theorem eats_nil {α : Type} (p : Pr α) : p.Eats [] := by cases p <;> trivial

/-- The lists of calls in memory. -/
def LRow (w : World) (X : Nat → Prop) (lg : Nat) (ls : List (List Cal)) : Prop :=
  ∀ i, i < ls.length → ∃ u, w.cell? ⟨lg, i, none⟩ = some u ∧ CRow w u (ls.getD i []) ∧ ∀ g, u.ownBlock = some g → ¬ X g ∧ g < w.heap.size

/-- The state in which run begins. -/
def S0of (m : Mm) (ls : List (List Cal)) : PS := ⟨m, fun i => callsT 1 3 (ls.getD i []) [], fun _ => false⟩

theorem S0_inv {m : Mm} {ls : List (List Cal)} (hst : m.st = scM.st) (hok : m.Ok) (hls : ∀ l ∈ ls, (∀ x ∈ l, CalOk x) ∧ l.length ≤ 10) (n : Nat) : PInv n (S0of m ls) := by
  have hl : ∀ i, (∀ x ∈ ls.getD i [], CalOk x) ∧ (ls.getD i []).length ≤ 10 := by
    intro i
    rcases Nat.lt_or_ge i ls.length with h | h
    · rw [List.getD, List.getElem?_eq_getElem h]
      exact hls _ (List.getElem_mem h)
    · rw [List.getD, List.getElem?_eq_none h]
      exact ⟨fun x hx => (by cases hx), Nat.zero_le _⟩
  exact ⟨fun i _ => callsT_fits _ _ (hl i).1, fun i _ => (callsT_deep 1 3 _ _).mono (by have := (hl i).2; omega), hst, hok⟩

theorem pick_e (z : Int) (n : Nat) (h : 1 ≤ n) : (z.tmod n + n) % n = (z.tmod n + n).tmod n := by
  have h1 : -(n : Int) < z.tmod n := by have := Int.lt_tmod_of_pos z (b := n) (by omega); omega
  exact (Int.tmod_eq_emod_of_nonneg (by omega)).symm
theorem pick_b (z : Int) (n : Nat) (h : 1 ≤ n) (h4 : n ≤ 6) : -6 < z.tmod n ∧ z.tmod n < 6 := by
  have h1 : -(n : Int) < z.tmod n := by have := Int.lt_tmod_of_pos z (b := n) (by omega); omega
  have h2 : z.tmod n < n := Int.tmod_lt_of_pos z (by omega)
  omega
theorem pick_q (z : Int) (n : Nat) (h : 1 ≤ n) : ∃ q : Nat, q < n ∧ (z.tmod n + n).tmod n = (q : Int) := by
  have h1 : -(n : Int) < z.tmod n ∧ z.tmod n < n := ⟨by have := Int.lt_tmod_of_pos z (b := n) (by omega); omega, Int.tmod_lt_of_pos z (by omega)⟩
  have h2 : 0 ≤ (z.tmod n + n).tmod n := Int.tmod_nonneg _ (by omega)
  have h3 : (z.tmod n + n).tmod n < n := Int.tmod_lt_of_pos _ (by omega)
  exact ⟨((z.tmod n + n).tmod n).toNat, by omega, by omega⟩

theorem RunTo.le {w w' : World} {b a n : Nat} {S0 : PS} {C C' : Nat} {X : Nat → Prop} {e : Ending} (h : RunTo w b a n S0 C X e w') (hC : C ≤ C') : RunTo w b a n S0 C' X e w' := by
  obtain ⟨v, xs, Sf, X', h1, h2, h3, h4, h5, h6, h7, h8⟩ := h
  exact ⟨v, xs, Sf, X', h1, h2, h3, h4, h5, h6, Nat.le_trans h7 hC, h8⟩
theorem RunS.toC {w0 w : World} {b a n : Nat} {D : Nat → TD} {S : PS} {N C N' C' : Nat} {tv ov : Value} {X0 : Nat → Prop} (h : RunS w0 w b a n D S N C tv ov X0) (hN : N ≤ N') (hC : C ≤ C') : RunC w0 w b a n D S N' C' tv ov (.slice none 0 0) [] X0 := by
  obtain ⟨R, st, O, Y, X, h1, h2, h3, h4, h5⟩ := h
  exact ⟨⟨R, st, O, Y, X, ⟨{ h1 with few := fun i hi => Nat.le_trans (h1.few i hi) hN, cnt := Nat.le_trans h1.cnt hC }, h2, h3, h4, h5⟩, PRow.nil _ _ _ _⟩, fun j hj => absurd hj (Nat.not_lt_zero _), fun j hj => absurd hj (Nat.not_lt_zero _), Nat.zero_le _⟩

set_option maxRecDepth 100000 in
set_option maxHeartbeats 8000000 in
theorem run_any6 {w : World} {b a row lg lc a1n cap1 : Nat} {m : Mm} {X : Nat → Prop} {ls : List (List Cal)} {a1 : Option Addr} (hls : ∀ l ∈ ls, (∀ x ∈ l, CalOk x) ∧ l.length ≤ 10) (h1 : 1 ≤ ls.length) (h4 : ls.length ≤ 6) (hs : Sha w b a m X) (hst : m.st = scM.st) (hcnt : m.cnt ≤ 4000)
    (hrow : w.cell? ⟨row, 0, none⟩ = some (.int .u64 3)) (hrX : ¬ X row) (hL : LRow w X lg ls) (hp : Nums w a1 a1n) (hpX : 0 < a1n → ∀ x, a1 = some x → ¬ X x.block) (hpn : a1n ≤ 100) :
    Calls Tryz.prog 9 #[.pointer (some ⟨b, 0, none⟩), .int .u64 1, .slice (some ⟨row, 0, none⟩) 1 1, .slice (some ⟨lg, 0, none⟩) ls.length lc, .slice a1 a1n cap1] w fun e w' => RunTo w b a ls.length (S0of m ls) (m.cnt + 3200) X e w' := by
  have hinv := Lib.hid (S0_inv (ls := ls) hst hs.mm.1 hls)
  have gl := Lib.hid (show etB < w.heap.size from hs.glob.lt)
  have L0 := Lib.hid (show RunS w w b a 0 (fun _ => ⟨0, 0, 0, 0, 0, 0, 0, []⟩) (S0of m ls) 0 m.cnt (.slice none 0 0) (.slice none 0 0) X from
    ⟨fun _ => False, fun _ => 0, fun _ _ => False, fun _ _ => False, X, ⟨hs, fun i hi => absurd hi (Nat.not_lt_zero _), hinv.out 0, fun i hi => absurd hi (Nat.not_lt_zero _), fun i hi => absurd hi (Nat.not_lt_zero _), fun i j hi => absurd hi (Nat.not_lt_zero _), fun x hx => hx.elim, fun i hi => absurd hi (Nat.not_lt_zero _), Nat.le_refl _⟩,
      PRow.nil _ _ _ _, PRow.nil _ _ _ _, ⟨Keeps.refl _ _, fun x hx => hx.elim .inl fun ⟨i, hi, _⟩ => absurd hi (Nat.not_lt_zero _)⟩, fun x hx => hx.elim⟩)
  have hs' := Lib.hid hs
  have hst' := Lib.hid hst
  have hls' := Lib.hid hls
  have hL' := Lib.hid hL
  have hp' := Lib.hid hp
  have hpX' := Lib.hid hpX
  have hrow' := Lib.hid hrow
  have hrX' := Lib.hid hrX
  have hcnt' := Lib.hid hcnt
  have hI1 := Lib.hid (info_parts info_thread)
  have hI2 := Lib.hid (info_parts info_outp)
  have hI3 := Lib.hid (info_parts info_rowA)
  obtain ⟨n, hn⟩ : ∃ n, ls.length = n := ⟨_, rfl⟩
  have hn' := Lib.hid hn
  rw [hn] at h1 h4 ⊢
  have hnb : (n : Int) ≤ 6 := by omega
  have hn1 : (1 : Int) ≤ (n : Int) := by omega
  have hpb : (a1n : Int) ≤ 100 := by omega
  clear hls hs hst hcnt hrow hrX hL hp hpX hn
  go_enter Tryz.func9, Tryz.ntmps9
  go_wp2_with fail
  go_loopw [12, 13, 24] (fun tv ov iv wr => ∃ (i : Nat) (D : Nat → TD), iv = .int .i64 (i : Int) ∧ i ≤ n ∧ RunS w wr b a i D (S0of m ls) 0 m.cnt tv ov X ∧ Keeps (fun _ => False) w wr) (fun _ _ iv _ => n - (intOf iv).toNat)
  case atStart => exact ⟨0, _, rfl, Nat.zero_le _, L0.out, Keeps.refl _ _⟩
  case round =>
    obtain ⟨i, D, rfl, hi, hR, hK⟩ := hrel
    have R1 := Lib.hid hR
    have K1 := Lib.hid hK
    obtain ⟨R, st, O, Y, Xx, hRp⟩ := hR
    obtain ⟨to, tc, htv, htS⟩ := hRp.t.shape
    obtain ⟨oo, oc, hov, hoS⟩ := hRp.o.shape
    rw [ptrT_len] at htv htS
    rw [ptrO_len] at hov hoS
    have T1 := Lib.hid hRp.t.row
    have U1 := Lib.hid hRp.o.row
    rw [ptrT_len] at T1
    rw [ptrO_len] at U1
    have tfar := Lib.hid (fun g hg => (hRp.t.far g hg).2)
    have ofar := Lib.hid (fun g hg => (hRp.o.far g hg).2)
    subst htv hov
    clear hRp hK
    by_cases hlt : i < n
    · obtain ⟨u, hu, hcr, huX⟩ := hL'.out i (by rw [hn'.out]; exact hlt)
      obtain ⟨lo, lcp, hu2, hcr2⟩ := hcr
      subst hu2
      obtain ⟨l', hl'⟩ : ∃ l', ls.getD i [] = l' := ⟨_, rfl⟩
      rw [hl'] at hu hcr2 huX
      have hlp : (S0of m ls).p i = callsT 1 3 l' [] := by show callsT 1 3 (ls.getD i []) [] = _; rw [hl']
      have hlok := hls'.out l' (by rw [← hl', List.getD, List.getElem?_eq_getElem (by rw [hn'.out]; exact hlt)]; exact List.getElem_mem _)
      have hu1 : wr.cell? ⟨lg, i, none⟩ = some (.slice lo l'.length lcp) := (K1.out.cell (p := ⟨lg, i, none⟩) (cell_lt hu) id).trans hu
      have hlti : (i : Int) < (n : Int) := by omega
      have hi0 : (0 : Int) ≤ (i : Int) := by omega
      obtain ⟨W1, hW1⟩ : ∃ V, V = wr.alloc (.cells #[.slice none 0 0] 59) := ⟨_, rfl⟩
      have k1 : Keeps (fun _ => False) wr W1 := by rw [hW1]; exact (Keeps.refl _ wr).alloc _
      have mO : Whole W1 wr.heap.size 59 #[.slice none 0 0] := by rw [hW1]; exact Whole.made _ _ _
      have KK1 := Lib.hid k1
      have MO := Lib.hid mO
      have hW1' := Lib.hid hW1
      have HU := Lib.hid (And.intro hcr2 huX)
      have HLP := Lib.hid hlp
      have HLO := Lib.hid hlok
      have ne1 := Lib.hid (show ∀ g, (Value.slice to i tc).ownBlock = some g → (Value.slice oo i oc).ownBlock ≠ some g from fun g hg => own_ne T1.out U1.out hg)
      clear k1 mO hW1 hu hcr2 huX hlp hlok hl'
      go_wp2_with fail
      rw [← hW1'.out]
      refine (body_new _ _ _ W1 ⟨_, _, _, rfl⟩ ⟨_, _, _, rfl⟩).mono ?_
      rintro e W2 ⟨rfl, hW2⟩
      have k2 : Keeps (fun _ => False) W1 W2 := by rw [hW2]; exact ((((Keeps.refl _ W1).alloc _).alloc _).alloc _).alloc _
      have v0 : Whole W2 W1.heap.size 32 #[.slice lo l'.length lcp] := by rw [hW2]; exact (((made_at _ rfl _ _).alloc _).alloc _).alloc _
      have v1 : Whole W2 (W1.heap.size + 1) 24 #[.int .u64 1] := by rw [hW2]; exact ((made_at _ (by simp) _ _).alloc _).alloc _
      have v2 : Whole W2 (W1.heap.size + 1 + 1) 25 #[.slice (some ⟨row, 0, none⟩) 1 1] := by rw [hW2]; exact (made_at _ (by simp) _ _).alloc _
      have v3 : Whole W2 (W1.heap.size + 1 + 1 + 1) 57 #[.pointer (some ⟨wr.heap.size, 0, none⟩)] := by rw [hW2]; exact made_at _ (by simp) _ _
      have K2 := Lib.hid ((K1.out.trans_ KK1.out).trans_ k2)
      have K12 := Lib.hid (KK1.out.trans_ k2)
      have VV := Lib.hid (And.intro v0 (And.intro v1 (And.intro v2 v3)))
      have MO2 := Lib.hid (MO.out.keeps k2 id)
      have cn := Lib.hid (tnew_any (F := 28) (caps := #[.pointer (some ⟨W1.heap.size, 0, none⟩), .pointer (some ⟨W1.heap.size + 1 + 1, 0, none⟩), .pointer (some ⟨W1.heap.size + 1, 0, none⟩), .pointer (some ⟨W1.heap.size + 1 + 1 + 1, 0, none⟩)]) (hs'.out.same K2.out) (by rw [hst'.out]; rfl))
      clear hW2 k2 v0 v1 v2 v3
      go_wp2_with fail
      refine cn.out.mono ?_
      rintro e W3 ⟨t, pl, O', rfl, hO, hOn, hK3⟩
      have K13 := Lib.hid (K12.out.trans_ hK3)
      have hsz1 : wr.heap.size < W1.heap.size := MO.out.lt
      have hsz2 : W1.heap.size + 1 + 1 + 1 < W2.heap.size := VV.out.2.2.2.lt
      have hTI := Lib.hid (show TI (fun x => (x = W1.heap.size ∨ x = W1.heap.size + 1 + 1 ∨ x = W1.heap.size + 1 ∨ x = W1.heap.size + 1 + 1 + 1) ∨ x = row ∨ (Value.slice lo l'.length lcp).ownBlock = some x) W3 b ⟨t, pl, wr.heap.size, W1.heap.size, W1.heap.size + 1 + 1, W1.heap.size + 1, W1.heap.size + 1 + 1 + 1, l'⟩ ((S0of m ls).p i) ((S0of m ls).dn i) 0 O' (fun x => x = wr.heap.size) from {
        tg := ⟨[], hO, ⟨⟨⟨_, (VV.out.1.keeps hK3 id).at_ 0, (CRow.keeps ⟨lo, lcp, rfl, HU.out.1⟩ (K2.out.trans_ hK3) fun _ _ => id), fun g hg => .inr (.inr hg)⟩,
          ⟨row, 1, (VV.out.2.2.1.keeps hK3 id).at_ 0, ((K2.out.trans_ hK3).cell (p := ⟨row, 0, none⟩) (cell_lt hrow'.out) id).trans hrow'.out, .inr (.inl rfl)⟩, (VV.out.2.1.keeps hK3 id).at_ 0, (VV.out.2.2.2.keeps hK3 id).at_ 0, .inl (.inl rfl), .inl (.inr (.inl rfl)), .inl (.inr (.inr (.inl rfl))), .inl (.inr (.inr (.inr rfl)))⟩,
          fun y hy => by
            have h3 := hK3.size
            have h4 := K2.out.size
            rcases hy with (rfl | rfl | rfl | rfl) | rfl | hy
            · omega
            · omega
            · omega
            · omega
            · have := cell_lt hrow'.out; simp only at this; omega
            · have := (HU.out.2 y hy).2; omega,
          .slice none 0 0, [], MO2.out.keeps hK3 id, ARow.nil _, fun y => ⟨.inl, fun h => h.elim id fun h => by cases h⟩, fun L' h => by cases h⟩, eats_nil _, by rw [after_nil]; exact HLP.out.symm, fun e he => (by cases he), Nat.le_refl _, fun h => by cases h⟩
        cal := HLO.out.1
        len := HLO.out.2
        ro := fun hy => by
          have h4 := K1.out.size
          rcases hy with (h | h | h | h) | h | h
          · simp only at h; omega
          · simp only at h; omega
          · simp only at h; omega
          · simp only at h; omega
          · have := cell_lt hrow'.out; simp only at this h; omega
          · have := (HU.out.2 _ h).2; simp only at this; omega })
      have O3 := Lib.hid hOn
      have hsz3 : W2.heap.size ≤ W3.heap.size := hK3.size
      have own1 := Lib.hid (ownsRow_keeps T1.out (K13.out.alloc (.cells #[.pointer (some ⟨t, 0, none⟩)] 46)) fun _ _ => id)
      have own2 := Lib.hid (ownsRow_keeps U1.out (K13.out.alloc (.cells #[.pointer (some ⟨t, 0, none⟩)] 46)) fun _ _ => id)
      obtain ⟨i0, hi0', hz0, hz1, hz2⟩ := hI1.out
      obtain ⟨i1, hi1', hw0, hw1, hw2⟩ := hI2.out
      have J1 := Lib.hid (And.intro hi0' (And.intro hz0 (And.intro hz1 hz2)))
      have J2 := Lib.hid (And.intro hi1' (And.intro hw0 (And.intro hw1 hw2)))
      clear hO hOn hK3 cn hi0' hz0 hz1 hz2 hi1' hw0 hw1 hw2
      go_wp2_with (first
        | (at_builtin; refine wpList_append_mine _ rfl _ _ 61 rfl 46 i0 (.pointer none) 8 Tryz.underlying61 J1.out.1 J1.out.2.1 J1.out.2.2.1 J1.out.2.2.2 rfl (.slice to i tc) i (ptrT D i) rfl own1.out ⟨W3.heap.size, 0, none⟩ 1 (.pointer (some ⟨t, 0, none⟩)) rfl (cell_one _ _ _) rfl (by unfold maxLen; omega) (by omega) ?_; intro g1 cc1 V1 hO1 hG1 hl1; have A1 := Lib.hid hO1; have A2 := Lib.hid hG1; have A3 := Lib.hid hl1; have own3 := Lib.hid (ownsRow_keeps (ownsRow_keeps own2.out (keeps_row hG1) (fun g hg hs => ne1.out g hs hg)) ((Keeps.refl (fun _ => False) V1).alloc (.cells #[.pointer (some ⟨wr.heap.size, 0, none⟩)] 57)) fun _ _ => id); clear hO1 hG1 hl1)
        | (at_builtin; refine wpList_append_mine _ rfl _ _ 62 rfl 57 i1 (.pointer none) 8 Tryz.underlying62 J2.out.1 J2.out.2.1 J2.out.2.2.1 J2.out.2.2.2 rfl (.slice oo i oc) i (ptrO D i) rfl own3.out ⟨V1.heap.size, 0, none⟩ 1 (.pointer (some ⟨wr.heap.size, 0, none⟩)) rfl (cell_one _ _ _) rfl (by unfold maxLen; omega) (by omega) ?_; intro g2 cc2 V2 hO2 hG2 hl2; have B1 := Lib.hid hO2; have B2 := Lib.hid hG2; have B3 := Lib.hid hl2; clear hO2 hG2 hl2))
      go_roundw
      case rel =>
        refine ⟨i + 1, _, by go_num, by omega, R1.out.add K13.out _ _ O' _ hTI.out ?_ ?_ ?_ (hinv.out _) gl.out A1.out A2.out A3.out B1.out B2.out B3.out, ?_⟩
        · rintro x (hx | rfl)
          · have := O3.out x hx; omega
          · exact Nat.le_refl _
        · intro x hx e
          have := O3.out x hx
          omega
        · intro x hx
          have h4 := K1.out.size
          rcases hx with hx | rfl | hx
          · refine ⟨fun h => h.elim (fun h => by have := O3.out x h; omega) fun e => by omega, .inl (by omega)⟩
          · have hl : x < w.heap.size := cell_lt hrow'.out
            exact ⟨fun h => h.elim (fun h => by have := O3.out x h; omega) fun e => by omega, .inr ⟨hl, hrX'.out⟩⟩
          · have hl := HU.out.2 x hx
            exact ⟨fun h => h.elim (fun h => by have := O3.out x h; omega) fun e => by omega, .inr ⟨hl.2, hl.1⟩⟩
        · exact (((K1.out.trans_ K13.out).alloc _).trans (keeps_row A2.out) fun x hx hs => by have := tfar.out x hs; omega).trans_ ((Keeps.refl _ _).alloc _) |>.trans (keeps_row B2.out) fun x hx hs => by have := ofar.out x hs; omega
      case measure => simp [intOf]; omega
    · obtain rfl : i = n := by omega
      have hK1 := K1.out.size
      go_wp2_with fail
      go_loopw [50] (fun iv w2 => ∃ (k : Nat) (S : PS), iv = .int .i64 (k : Int) ∧ k ≤ a1n ∧ RunS w w2 b a i D S k (m.cnt + k) (.slice to i tc) (.slice oo i oc) X ∧ ∀ I, Stays i I → I (S0of m ls) → I S) (fun iv _ => a1n - (intOf iv).toNat)
      case atStart => exact ⟨0, _, rfl, Nat.zero_le _, R1.out, fun I _ h => h⟩
      case round =>
        obtain ⟨k, S, rfl, hk, hR, hI⟩ := hrel
        have R2 := Lib.hid hR
        have I2 := Lib.hid hI
        clear hR hI
        by_cases hlk : k < a1n
        · obtain ⟨cb, off, zv, ha, hc, z, rfl, _⟩ := hp'.out.at_ k hlk
          subst ha
          obtain ⟨tg, htg⟩ := htS (by omega)
          obtain ⟨Ra, sta, Oa, Ya, Xa, hRq⟩ := R2.out
          have hcz : _ = some (Value.int .i64 z) := (hRq.mv.keeps.cell (p := ⟨cb, off + k, none⟩) (cell_lt hc) (show ¬ X cb from hpX'.out (by omega) ⟨cb, off, none⟩ rfl)).trans hc
          obtain ⟨q, hq, hqe⟩ := pick_q z i h1
          have hqe2 := (pick_e z i h1).trans hqe
          obtain ⟨hb1, hb2⟩ := pick_b z i h1 h4
          subst htg
          have hcq := (hRq.t.cell (ptrT_len D i) q hq).trans (ptrT_at D hq)
          have hst2 := Lib.hid (runS_step R2.out hq (by omega) (by have := hcnt'.out; omega))
          have hqi : (q : Int) < (i : Int) := by omega
          have hlkI : (k : Int) < (a1n : Int) := by omega
          have hkI : (0 : Int) ≤ (k : Int) := by omega
          have hi0 : ¬ ((i : Int) = 0) := by omega
          have hqe' := Lib.hid hqe
          clear hc hRq
          go_wp2_with fail
          refine hst2.out.mono ?_
          rintro e W4 ⟨rfl, hR⟩
          have R4 := Lib.hid hR
          clear hR hst2
          go_wp2_with fail
          go_roundw
          case rel =>
            refine ⟨k + 1, S.step q, by go_num, by omega, R4.out, fun I hI h0 => ?_⟩
            cases hd : S.dn q with
            | true => rw [show S.step q = S by unfold PS.step; rw [if_pos hd]]; exact I2.out I hI h0
            | false => exact hI.step S q (I2.out I hI h0) hq hd
          case measure => simp [intOf]; omega
        · obtain rfl : k = a1n := by omega
          obtain ⟨tg, htg⟩ := htS (by omega)
          obtain ⟨og, hog⟩ := hoS (by omega)
          subst htg hog
          have C3 := Lib.hid (R2.out.toC (N' := 100) (C' := m.cnt + 100) (by omega) (by omega))
          go_wp2_with fail
          go_loopw [20, 71] (fun av iv w3 => ∃ (j N C : Nat) (Sj : PS) (xs : List Value), iv = .int .i64 (j : Int) ∧ j ≤ i ∧ xs.length = j ∧ RunC w w3 b a i D Sj N C (.slice (some ⟨tg, 0, none⟩) i tc) (.slice (some ⟨og, 0, none⟩) i oc) av xs X ∧ N ≤ 100 + 500 * j ∧ C ≤ m.cnt + 100 + 500 * j ∧ ∀ I, Stays i I → I (S0of m ls) → I Sj) (fun _ iv _ => i - (intOf iv).toNat)
          case atStart => exact ⟨0, 100, m.cnt + 100, S, [], rfl, Nat.zero_le _, rfl, C3.out, by omega, by omega, I2.out⟩
          case round =>
            obtain ⟨j, N, C, Sj, xs, rfl, hj, hxl, hR, hN, hC, hI⟩ := hrel
            have C4 := Lib.hid hR
            have I4 := Lib.hid hI
            obtain ⟨Ra, sta, Oa, Ya, Xa, hRq, hav⟩ := hR.ex
            obtain ⟨ao, ac, hvv, _⟩ := hav.shape
            rw [hxl] at hvv
            subst hvv
            have hxl' := Lib.hid hxl
            by_cases hlj : j < i
            · have hcq := (hRq.t.cell (ptrT_len D i) j hlj).trans (ptrT_at D hlj)
              have hrn := Lib.hid (runC_run C4.out hlj hxl (by omega) (by have := hcnt'.out; omega))
              have hljI : (j : Int) < (i : Int) := by omega
              have hj0 : (0 : Int) ≤ (j : Int) := by omega
              clear hRq hav hR hI
              go_wp2_with fail
              refine hrn.out.mono ?_
              rintro e W5 ⟨rfl, hR5, hdn, ⟨uo, un, uc, hu⟩, c1, c7⟩
              have C5 := Lib.hid hR5
              obtain ⟨Rb, stb, Ob, Yb, Xb, hRq5, hav5⟩ := hR5.ex
              have hco := (hRq5.o.cell (ptrO_len D i) j hlj).trans (ptrO_at D hlj)
              have hct := (hRq5.t.cell (ptrT_len D i) j hlj).trans (ptrT_at D hlj)
              have cd := Lib.hid (done_any c1 c7)
              have own := Lib.hid (ownsRow_keeps hav5.row ((Keeps.refl (fun _ => False) W5).alloc (.cells #[.slice uo un uc] 36)) fun _ _ => id)
              rw [hxl] at own
              have hdn' := Lib.hid hdn
              have hu' := Lib.hid hu
              obtain ⟨i0, hi0', hz0, hz1, hz2⟩ := hI3.out
              have J1 := Lib.hid (And.intro hi0' (And.intro hz0 (And.intro hz1 hz2)))
              clear hR5 hRq5 hav5 hrn c1 c7 hcq hdn hi0' hz0 hz1 hz2
              go_wp2_with (first
                | (go_at_call 16; refine (no_nil _).mono ?_; rintro e w' ⟨rfl, rfl⟩)
                | (go_at_call 18; refine cd.out.mono ?_; rintro e w' ⟨rfl, rfl⟩)
                | (at_builtin; refine wpList_append_mine _ rfl _ _ 33 rfl 36 i0 (.slice none 0 0) 24 Tryz.underlying33 J1.out.1 J1.out.2.1 J1.out.2.2.1 J1.out.2.2.2 rfl (.slice ao j ac) j xs rfl own.out ⟨W5.heap.size, 0, none⟩ 1 (.slice uo un uc) rfl (cell_one _ _ _) rfl (by unfold maxLen; omega) (by omega) ?_; intro g2 cc2 V2 hO2 hG2 hl2; have B1 := Lib.hid hO2; have B2 := Lib.hid hG2; have B3 := Lib.hid hl2; clear hO2 hG2 hl2))
              go_roundw
              case rel =>
                refine ⟨j + 1, N + 500, C + 500, Sj.runs j 500, xs ++ [.slice uo un uc], by go_num, by omega, by simp [hxl'.out], C5.out.add hlj hxl'.out hdn'.out hu'.out gl.out B1.out B2.out B3.out, by omega, by omega, fun I hI h0 => hI.runs hlj 500 Sj (I4.out I hI h0)⟩
              case measure => simp [intOf]; omega
            · obtain rfl : j = i := by omega
              have fin := Lib.hid ((C4.out.fin hxl I4.out).le (C' := m.cnt + 3200) (by omega))
              clear hRq hav hR hI
              go_wp2_with fail
              go_ret2
              exact fin.out
end Go.Proofs.YtenhmficiegpiaaGreatDoor
