/-
  queue: what the timers of a queue are in memory ('Line': the struct, the row of timers, the map of their places; X: the memory blocks that it has). Plain lemmas.
-/
import Derived.Test.YtjmkfloaagppdaaDoorQuHeap
import Derived.Test.YtjmkfloaagppdaaDoorWdPlace
import Derived.Test.YtjmkfloaagppdaaDoorWdCell
import Derived.Test.YtjmkfloaagppdaaDoorBkMap
import Derived.Laws.AppendOwn
namespace Go.Proofs.YtjmkfloaagppdaaDoor
open Go.RowKit Go.Maps Go.Extern.Stop Go.Stop Go.Extern

/-! ### the map's elements -/
abbrev Pl := Fin 4611686018427387904
def plVal (v : Pl) : Value := .int .i64 (v.val : Int)
def plDat (v : Pl) : DataW Unit := .lit (.int .i64 (v.val : Int))
def plR : Value → Option (DataW Unit × List MemPlace)
  | .int .i64 n => if h : 0 ≤ n ∧ n.toNat < 4611686018427387904 then some (plDat ⟨n.toNat, h.2⟩, []) else none
  | _ => none
def plE : Enc Pl where
  val := plVal
  dat := plDat
  R := plR
  ok := fun v => by
    obtain ⟨n, hn⟩ := v
    have h1 : 0 ≤ (n : Int) ∧ ((n : Int)).toNat < 4611686018427387904 := ⟨by omega, by simpa using hn⟩
    simp only [plVal, plR]
    rw [dif_pos h1]
    simp [plDat]
  inv := fun x y h => by
    unfold plR at h
    split at h
    · split at h
      · rename_i n h1
        cases h
        refine ⟨⟨n.toNat, h1.2⟩, ?_, rfl⟩
        simp only [plVal]
        congr 1
        omega
      · cases h
    · cases h
  inj := fun u v h => by
    obtain ⟨a, ha⟩ := u
    obtain ⟨b, hb⟩ := v
    simp [plDat] at h
    have : a = b := by omega
    subst this
    rfl

/-! ### rows of timers -/
def tmVal (t : Tm) : Value := .agg #[.int .i64 t.1, .int .i64 t.2]
def tmCells (l : List Tm) : List Value := l.flatMap fun t => [.int .i64 t.1, .int .i64 t.2]

theorem tmCells_len (l : List Tm) : (tmCells l).length = l.length * 2 := by
  induction l with
  | nil => rfl
  | cons t l ih => simp only [tmCells, List.flatMap_cons, List.length_append, List.length_cons, List.length_nil] at ih ⊢; omega
theorem tmCells_app (l m : List Tm) : tmCells (l ++ m) = tmCells l ++ tmCells m := by simp [tmCells]
theorem tmCells_when : ∀ (l : List Tm) (k : Nat), k < l.length → (tmCells l)[k * 2]? = some (.int .i64 (at_ l k).1)
  | t :: l, 0, _ => by simp [tmCells, at_]
  | t :: l, k + 1, h => by
    have := tmCells_when l k (by simpa using h)
    have e : (k + 1) * 2 = k * 2 + 1 + 1 := by omega
    simp only [tmCells, List.flatMap_cons, List.cons_append, List.nil_append] at this ⊢
    rw [e, List.getElem?_cons_succ, List.getElem?_cons_succ, this]
    simp [at_]
theorem tmCells_id : ∀ (l : List Tm) (k : Nat), k < l.length → (tmCells l)[k * 2 + 1]? = some (.int .i64 (at_ l k).2)
  | t :: l, 0, _ => by simp [tmCells, at_]
  | t :: l, k + 1, h => by
    have := tmCells_id l k (by simpa using h)
    have e : (k + 1) * 2 + 1 = k * 2 + 1 + 1 + 1 := by omega
    simp only [tmCells, List.flatMap_cons, List.cons_append, List.nil_append] at this ⊢
    rw [e, List.getElem?_cons_succ, List.getElem?_cons_succ, this]
    simp [at_]
theorem tmCells_one (l : List Tm) : ∀ u ∈ tmCells l, u.oneCell' = true := by
  intro u hu
  simp only [tmCells, List.mem_flatMap] at hu
  obtain ⟨t, _, hu⟩ := hu
  simp at hu
  rcases hu with rfl | rfl <;> rfl

/-- Two cells are stored anew: the list has another timer there. -/
theorem tmCells_set (l : List Tm) (k : Nat) (h : k < l.length) (t : Tm) : ((tmCells l).set (k * 2) (.int .i64 t.1)).set (k * 2 + 1) (.int .i64 t.2) = tmCells (l.set k t) := by
  apply List.ext_getElem? fun j => ?_
  rcases Nat.lt_or_ge j (l.length * 2) with hj | hj
  · have e0 : j = (j / 2) * 2 ∨ j = (j / 2) * 2 + 1 := by omega
    have hq : j / 2 < (l.set k t).length := by simp; omega
    have hq' : j / 2 < l.length := by omega
    have ha : at_ (l.set k t) (j / 2) = if j / 2 = k then t else at_ l (j / 2) := by
      by_cases c : j / 2 = k
      · rw [if_pos c, c]
        exact at_eq (List.getElem?_set_self h)
      · rw [if_neg c]
        refine at_eq ?_
        rw [List.getElem?_set_ne (Ne.symm c)]
        exact at_some hq'
    have hlen : (tmCells l).length = l.length * 2 := tmCells_len l
    generalize hm : j / 2 = m at *
    rcases e0 with e | e
    · rw [e, tmCells_when _ m hq, ha]
      by_cases c : m = k
      · subst c
        rw [if_pos rfl, List.getElem?_set_ne (by omega), List.getElem?_set_self (by omega)]
      · rw [if_neg c, List.getElem?_set_ne (by omega), List.getElem?_set_ne (by omega), tmCells_when _ m hq']
    · rw [e, tmCells_id _ m hq, ha]
      by_cases c : m = k
      · subst c
        rw [if_pos rfl, List.getElem?_set_self (by simp; omega)]
      · rw [if_neg c, List.getElem?_set_ne (by omega), List.getElem?_set_ne (by omega), tmCells_id _ m hq']
  · rw [List.getElem?_eq_none (by simp [tmCells_len]; omega), List.getElem?_eq_none (by rw [tmCells_len]; simp; omega)]

/-- A timer that a Go value can be. -/
def wfT (t : Tm) : Prop := (Lit.int .i64 t.1).wf = true ∧ (Lit.int .i64 t.2).wf = true

/-- A slice of timers of one's own. -/
abbrev TRow (w : World) (v : Value) (l : List Tm) : Prop := w.ownsRow 0 31 2 v l.length (tmCells l)

/-- f tells of each ID the place. -/
def Pos (f : Int → Option Pl) (l : List Tm) : Prop := ∀ id k, f id = some k ↔ (k.val < l.length ∧ (at_ l k.val).2 = id)

/-- The queue's struct is block q; l: its timers, as they lie in its row. -/
structure LineP (w : World) (q mb : Nat) (v : Value) (f : Int → Option Pl) (l : List Tm) (X : Nat → Prop) : Prop where
  blk : Whole w q 59 #[v, .map (some mb)]
  row : TRow w v l
  map : HoldsM Tryd.prog 3 plE w mb f
  pos : Pos f l
  few : l.length ≤ 200
  wf : ∀ t ∈ l, wfT t
  inX : X q ∧ X mb ∧ ∀ g, v.ownBlock = some g → X g
  old : ∀ k, X k → k < w.heap.size

def Line (w : World) (q : Nat) (l : List Tm) (X : Nat → Prop) : Prop := ∃ mb v f, LineP w q mb v f l X

theorem Pos.once {f : Int → Option Pl} {l : List Tm} (h : Pos f l) (hl : l.length ≤ 200) {i j : Nat} (hi : i < l.length) (hj : j < l.length) (e : (at_ l i).2 = (at_ l j).2) : i = j := by
  have h1 := (h (at_ l i).2 ⟨i, by omega⟩).2 ⟨hi, rfl⟩
  have h2 := (h (at_ l i).2 ⟨j, by omega⟩).2 ⟨hj, e.symm⟩
  rw [h1] at h2
  injection h2 with h2
  exact congrArg Fin.val h2

theorem Pos.lacks {f : Int → Option Pl} {l : List Tm} (h : Pos f l) (hl : l.length ≤ 200) (id : Int) : f id = none ↔ ∀ t ∈ l, t.2 ≠ id := by
  constructor
  · intro hn t ht e
    obtain ⟨k, hk, rfl⟩ := List.getElem_of_mem ht
    have := (h id ⟨k, by omega⟩).2 ⟨hk, by rw [at_eq (List.getElem?_eq_getElem hk)]; exact e⟩
    rw [hn] at this
    cases this
  · intro hn
    cases hf : f id with
    | none => rfl
    | some k =>
      obtain ⟨h1, h2⟩ := (h id k).1 hf
      exact absurd h2 (hn _ (at_mem h1))

theorem Pos.keys {f : Int → Option Pl} {l : List Tm} (h : Pos f l) : ∀ k, (f k).isSome = true → k ∈ l.map (·.2) := by
  intro k hk
  obtain ⟨p, hp⟩ := Option.isSome_iff_exists.1 hk
  obtain ⟨h1, h2⟩ := (h k p).1 hp
  exact List.mem_map.2 ⟨_, at_mem h1, h2⟩

theorem HoldsM.keeps {V : Type} {P : Program} {K : TypeId} {E : Enc V} {w w' : World} {b : Nat} {f : Int → Option V} {S : Nat → Prop} (h : HoldsM P K E w b f) (k : Keeps S w w') (hS : ¬ S b) : HoldsM P K E w' b f :=
  h.of_block (k.block b h.lt hS)
theorem ownsRow_keeps {w w' : World} {base : Nat} {e : TypeId} {size : Nat} {v : Value} {n : Nat} {xs : List Value} {S : Nat → Prop} (h : w.ownsRow base e size v n xs) (k : Keeps S w w') (hS : ∀ g, v.ownBlock = some g → ¬ S g) : w'.ownsRow base e size v n xs := by
  refine ⟨h.1, ?_⟩
  rcases h.2 with hn | ⟨g, cap, cur, rfl, hb, hgg, rest⟩
  · exact .inl hn
  · exact .inr ⟨g, cap, cur, rfl, hb, (k.block g (lt_of_block hgg) (hS g rfl)).trans hgg, rest⟩
theorem Whole.ne_map {V : Type} {P : Program} {K : TypeId} {E : Enc V} {w : World} {b g : Nat} {t : TypeId} {cs : Array Value} {f : Int → Option V} (h : Whole w g t cs) (h' : HoldsM P K E w b f) : g ≠ b := by
  rintro rfl
  obtain ⟨D, n, ⟨es, clock, hb, _⟩, _⟩ := h'
  unfold Whole at h
  rw [h] at hb
  cases hb
theorem row_whole {w : World} {base : Nat} {e : TypeId} {size : Nat} {v : Value} {n g : Nat} {xs : List Value} (h : w.ownsRow base e size v n xs) (hg : v.ownBlock = some g) : ∃ cs, Whole w g e cs := by
  rcases h.2 with ⟨rfl, _⟩ | ⟨g', cap, cur, rfl, _, hh, _⟩
  · simp [Value.ownBlock] at hg
  · obtain rfl : g' = g := by simpa [Value.ownBlock] using hg
    exact ⟨cur, hh⟩
theorem row_ne {w : World} {base : Nat} {e : TypeId} {size : Nat} {v : Value} {n : Nat} {xs : List Value} {g : Nat} {t : TypeId} {cs : Array Value} (h : w.ownsRow base e size v n xs) (hg : Whole w g t cs) (hne : e ≠ t) : ¬ v.ownBlock = some g := by
  intro he
  obtain ⟨c, hc⟩ := row_whole h he
  exact Whole.ne_ (t := e) hc hg hne rfl
theorem row_ne_map {V : Type} {P : Program} {K : TypeId} {E : Enc V} {w : World} {base b : Nat} {e : TypeId} {size : Nat} {v : Value} {n : Nat} {xs : List Value} {f : Int → Option V} (h : w.ownsRow base e size v n xs) (h' : HoldsM P K E w b f) : ¬ v.ownBlock = some b := by
  intro he
  obtain ⟨c, hc⟩ := row_whole h he
  exact hc.ne_map h' rfl

theorem LineP.keeps {w w' : World} {q mb : Nat} {v : Value} {f : Int → Option Pl} {l : List Tm} {X S : Nat → Prop} (h : LineP w q mb v f l X) (k : Keeps S w w') (hS : ∀ x, X x → ¬ S x) : LineP w' q mb v f l X where
  blk := h.blk.keeps k (hS _ h.inX.1)
  row := ownsRow_keeps h.row k fun g hg => hS _ (h.inX.2.2 g hg)
  map := h.map.keeps k (hS _ h.inX.2.1)
  pos := h.pos
  few := h.few
  wf := h.wf
  inX := h.inX
  old := fun x hx => Nat.lt_of_lt_of_le (h.old x hx) k.size
theorem Line.keeps {w w' : World} {q : Nat} {l : List Tm} {X S : Nat → Prop} (h : Line w q l X) (k : Keeps S w w') (hS : ∀ x, X x → ¬ S x) : Line w' q l X := by
  obtain ⟨mb, v, f, h⟩ := h; exact ⟨mb, v, f, h.keeps k hS⟩
theorem Line.same {w w' : World} {q : Nat} {l : List Tm} {X : Nat → Prop} (h : Line w q l X) (k : Keeps (fun _ => False) w w') : Line w' q l X := h.keeps k fun _ _ => id
theorem Line.few {w : World} {q : Nat} {l : List Tm} {X : Nat → Prop} (h : Line w q l X) : l.length ≤ 200 := by obtain ⟨mb, v, f, h⟩ := h; exact h.few
theorem Line.old {w : World} {q : Nat} {l : List Tm} {X : Nat → Prop} (h : Line w q l X) : ∀ k, X k → k < w.heap.size := by obtain ⟨mb, v, f, h⟩ := h; exact h.old
theorem Line.wf {w : World} {q : Nat} {l : List Tm} {X : Nat → Prop} (h : Line w q l X) : ∀ t ∈ l, wfT t := by obtain ⟨mb, v, f, h⟩ := h; exact h.wf
theorem Line.once {w : World} {q : Nat} {l : List Tm} {X : Nat → Prop} (h : Line w q l X) {i j : Nat} (hi : i < l.length) (hj : j < l.length) (e : (at_ l i).2 = (at_ l j).2) : i = j := by obtain ⟨mb, v, f, h⟩ := h; exact h.pos.once h.few hi hj e

/-- The row's shape. -/
theorem TRow.shape {w : World} {v : Value} {l : List Tm} (h : TRow w v l) : ∃ o c, v = .slice o l.length c ∧ (0 < l.length → ∃ g, o = some ⟨g, 0, none⟩) := by
  rcases h.2 with ⟨hv, hn⟩ | ⟨g, cap, cur, hv, _⟩
  · exact ⟨_, _, by rw [hn]; exact hv, fun h => by omega⟩
  · exact ⟨_, _, hv, fun _ => ⟨g, rfl⟩⟩
theorem TRow.form {w : World} {v : Value} {l : List Tm} (h : TRow w v l) (h0 : 0 < l.length) : ∃ g cap, v = .slice (some ⟨g, 0, none⟩) l.length cap := by
  obtain ⟨o, c, hv, ho⟩ := h.shape
  obtain ⟨g, rfl⟩ := ho h0
  exact ⟨g, c, hv⟩
theorem TRow.when {w : World} {g cap : Nat} {l : List Tm} (h : TRow w (.slice (some ⟨g, 0, none⟩) l.length cap) l) (k : Nat) (hk : k < l.length) : w.cell? ⟨g, k * 2, none⟩ = some (.int .i64 (at_ l k).1) :=
  (h.cellAt (k * 2) (by omega)).trans (tmCells_when l k hk)
theorem TRow.id {w : World} {g cap : Nat} {l : List Tm} (h : TRow w (.slice (some ⟨g, 0, none⟩) l.length cap) l) (k : Nat) (hk : k < l.length) : w.cell? ⟨g, k * 2 + 1, none⟩ = some (.int .i64 (at_ l k).2) :=
  (h.cellAt (k * 2 + 1) (by omega)).trans (tmCells_id l k hk)
end Go.Proofs.YtjmkfloaagppdaaDoor
