/-
  A queue and the document's queue, apart from one another, with the same timers; what a call of both leaves.
-/
import Derived.Test.YtjmkfloaagppdaaDoorQuRefOps
import Derived.Test.YtjmkfloaagppdaaDoorQuGone
namespace Go.Proofs.YtjmkfloaagppdaaDoor
open Go.RowKit Go.Extern.Stop Go.Stop Go.Extern

/-- What both are behind a call. -/
def Did (w : World) (q r : Nat) (L' : List Tm) (X Y : Nat → Prop) (w' : World) : Prop :=
  ∃ X' Y', Qu w' q L' X' ∧ RQ w' r L' Y' ∧ (∀ x, X' x → X x ∨ w.heap.size ≤ x) ∧ (∀ x, Y' x → Y x ∨ w.heap.size ≤ x) ∧ (∀ x, X' x → ¬ Y' x) ∧ Keeps (fun x => X x ∨ Y x) w w'

theorem RQ.inY {w : World} {r : Nat} {L : List Tm} {Y : Nat → Prop} (h : RQ w r L Y) : Y r := by obtain ⟨v, _, _, h3, _⟩ := h; exact h3

theorem did_qr {w w2 w3 : World} {q r : Nat} {L L' : List Tm} {X Y : Nat → Prop} (hR : RQ w r L Y) (ap : ∀ x, X x → ¬ Y x) (h : Went w q L' X w2) (h' : RWent w2 r L' Y w3) : Did w q r L' X Y w3 := by
  obtain ⟨⟨X', a1, a2⟩, a3⟩ := h
  obtain ⟨⟨Y', b1, b2⟩, b3⟩ := h'
  have rY := hR.inY
  refine ⟨X', Y', a1.keeps b3 fun x hx e => ?_, b1, a2, fun x hx => (b2 x hx).imp id fun g => Nat.le_trans a3.size g, fun x hx hy => ?_, (a3.mono fun _ _ g => .inl g : Keeps (fun x => X x ∨ Y x) w w2).trans b3 fun x _ e => .inr (e ▸ rY)⟩
  · subst e
    rcases a2 x hx with g | g
    · exact ap x g rY
    · exact absurd (hR.old x rY) (Nat.not_lt.2 g)
  · rcases b2 x hy with g | g
    · rcases a2 x hx with f | f
      · exact ap x f g
      · exact absurd (hR.old x g) (Nat.not_lt.2 f)
    · exact absurd (a1.old x hx) (Nat.not_lt.2 g)

theorem did_rq {w w2 w3 : World} {q r : Nat} {L L' : List Tm} {X Y : Nat → Prop} (hQ : Qu w q L X) (hR : RQ w r L Y) (ap : ∀ x, X x → ¬ Y x) (h : RWent w r L' Y w2) (h' : Went w2 q L' X w3) : Did w q r L' X Y w3 := by
  obtain ⟨⟨Y', b1, b2⟩, b3⟩ := h
  obtain ⟨⟨X', a1, a2⟩, a3⟩ := h'
  have rY := hR.inY
  have hap : ∀ x, X x → ¬ Y' x := fun x hx hy => by
    rcases b2 x hy with g | g
    · exact ap x hx g
    · exact absurd (hQ.old x hx) (Nat.not_lt.2 g)
  refine ⟨X', Y', a1, b1.keeps a3 fun x hy hx => hap x hx hy, fun x hx => (a2 x hx).imp id fun g => Nat.le_trans b3.size g, b2, fun x hx hy => ?_, (b3.mono fun _ _ e => .inr (e ▸ rY) : Keeps (fun x => X x ∨ Y x) w w2).trans a3 fun x _ g => .inl g⟩
  rcases a2 x hx with f | f
  · exact hap x f hy
  · exact absurd (b1.old x hy) (Nat.not_lt.2 f)

theorem did_same {w w' : World} {q r : Nat} {L : List Tm} {X Y : Nat → Prop} (hQ : Qu w q L X) (hR : RQ w r L Y) (ap : ∀ x, X x → ¬ Y x) (k : Keeps (fun _ => False) w w') : Did w q r L X Y w' :=
  ⟨X, Y, hQ.same k, hR.same k, fun _ h => .inl h, fun _ h => .inl h, ap, k.mono fun _ _ => False.elim⟩
theorem Did.after {w w1 w2 : World} {q r : Nat} {L : List Tm} {X Y : Nat → Prop} (k : Keeps (fun _ => False) w w1) (h : Did w1 q r L X Y w2) : Did w q r L X Y w2 := by
  obtain ⟨X', Y', a, b, c, d, e, f⟩ := h
  exact ⟨X', Y', a, b, fun x hx => (c x hx).imp id fun g => Nat.le_trans k.size g, fun x hx => (d x hx).imp id fun g => Nat.le_trans k.size g, e, (k.mono fun _ _ => False.elim : Keeps (fun x => X x ∨ Y x) w w1).trans_ f⟩
theorem Did.later {w w1 w2 : World} {q r : Nat} {L : List Tm} {X Y : Nat → Prop} (h : Did w q r L X Y w1) (k : Keeps (fun _ => False) w1 w2) : Did w q r L X Y w2 := by
  obtain ⟨X', Y', a, b, c, d, e, f⟩ := h
  exact ⟨X', Y', a.same k, b.same k, c, d, e, f.trans k fun _ _ => False.elim⟩
theorem Did.keeps {w w1 : World} {q r : Nat} {L : List Tm} {X Y : Nat → Prop} (h : Did w q r L X Y w1) : Keeps (fun x => X x ∨ Y x) w w1 := by
  obtain ⟨X', Y', _, _, _, _, _, f⟩ := h; exact f

/-- The error and the number of a call: none, or a Fault at the ID. -/
def Tells (w : World) (B : Nat) (id : Int) (e : Value) (f : Nat) : Prop := (e = .nilIface ∧ f = 0) ∨ ((f = 6 ∨ f = 7) ∧ IsFault w e id f B)
theorem Tells.keeps {w w' : World} {B f : Nat} {id : Int} {e : Value} {S : Nat → Prop} (h : Tells w B id e f) (k : Keeps S w w') (hS : ∀ x, B ≤ x → ¬ S x) : Tells w' B id e f := by
  rcases h with h | ⟨h1, h2⟩
  · exact .inl h
  · exact .inr ⟨h1, h2.keeps k hS⟩

theorem Tells.less {w : World} {B C f : Nat} {id : Int} {e : Value} (h : Tells w B id e f) (hC : C ≤ B) : Tells w C id e f := by
  rcases h with h | ⟨h1, p, h2, h3⟩
  · exact .inl h
  · exact .inr ⟨h1, p, Nat.le_trans hC h2, h3⟩

/-- Push of the queue, told at one go. -/
theorem q_push {w : World} {q : Nat} {L : List Tm} {X : Nat → Prop} (h : Qu w q L X) (t : Tm) (hw : wfT t) (few : L.length < 200) (L' : List Tm) (f : Nat) (hc : (f = 7 ∧ L' = L ∧ ∃ u ∈ L, u.2 = t.2) ∨ (f = 0 ∧ L' = ins t L ∧ ∀ u ∈ L, u.2 ≠ t.2)) :
    Calls Tryd.prog 17 #[.pointer (some ⟨q, 0, none⟩), .agg #[.int .i64 t.1, .int .i64 t.2]] w fun e w' => ∃ er, e = .returned er ∧ Tells w' w.heap.size t.2 er f ∧ Went w q L' X w' := by
  rcases hc with ⟨rfl, rfl, u, hu, he⟩ | ⟨rfl, rfl, hn⟩
  · refine (push_there h t hw u hu he).mono ?_
    rintro e w' ⟨er, rfl, hF, hK⟩
    exact ⟨er, rfl, .inr ⟨.inr rfl, hF⟩, ⟨X, h.same hK, fun _ h => .inl h⟩, hK.mono fun _ _ => False.elim⟩
  · refine (push_ok h t hw few hn).mono ?_
    rintro e w' ⟨rfl, hW⟩
    exact ⟨_, rfl, .inl ⟨rfl, rfl⟩, hW⟩
theorem finds_of {L : List Tm} {id : Int} (h : ∃ u ∈ L, u.2 = id) : ∃ k : Nat, k < L.length ∧ (at_ L k).2 = id ∧ Finds L id k := by
  obtain ⟨z, hz⟩ := Finds.any L id
  have hz' := hz
  rcases hz' with ⟨k, hk, rfl, he, _⟩ | ⟨_, hn⟩
  · exact ⟨k, hk, he, hz⟩
  · obtain ⟨u, hu, he⟩ := h
    exact absurd he (hn u hu)
theorem finds_none {L : List Tm} {id : Int} (h : ∀ u ∈ L, u.2 ≠ id) : Finds L id (-1) := .inr ⟨rfl, h⟩
theorem RQ.went {w w' : World} {r : Nat} {L : List Tm} {Y : Nat → Prop} (h : RQ w r L Y) (k : Keeps (fun _ => False) w w') : RWent w r L Y w' := ⟨⟨Y, h.same k, fun _ h => .inl h⟩, k.mono fun _ _ => False.elim⟩

theorem r_push {w : World} {r : Nat} {L : List Tm} {Y : Nat → Prop} (h : RQ w r L Y) (t : Tm) (few : L.length < 200) (L' : List Tm) (f : Nat) (hc : (f = 7 ∧ L' = L ∧ ∃ u ∈ L, u.2 = t.2) ∨ (f = 0 ∧ L' = ins t L ∧ ∀ u ∈ L, u.2 ≠ t.2)) :
    Calls Tryd.prog 23 #[.pointer (some ⟨r, 0, none⟩), .agg #[.int .i64 t.1, .int .i64 t.2]] w fun e w' => e = .returned (.int .i64 f) ∧ RWent w r L' Y w' := by
  rcases hc with ⟨rfl, rfl, hu⟩ | ⟨rfl, rfl, hn⟩
  · obtain ⟨k, hk, he, hz⟩ := finds_of hu
    refine (ref_push_there h (by omega) t k hz).mono ?_
    rintro e w' ⟨rfl, hK⟩
    exact ⟨rfl, h.went hK⟩
  · refine (ref_push_ok h few t (finds_none hn)).mono ?_
    rintro e w' ⟨rfl, hW⟩
    exact ⟨rfl, hW⟩

theorem q_cancel {w : World} {q : Nat} {L : List Tm} {X : Nat → Prop} (h : Qu w q L X) (id : Int) (hw : (Lit.int .i64 id).wf = true) (L' : List Tm) (f : Nat) (hc : (f = 6 ∧ L' = L ∧ ∀ u ∈ L, u.2 ≠ id) ∨ (f = 0 ∧ L' = del id L ∧ ∃ u ∈ L, u.2 = id)) :
    Calls Tryd.prog 20 #[.pointer (some ⟨q, 0, none⟩), .int .i64 id] w fun e w' => ∃ er, e = .returned er ∧ Tells w' w.heap.size id er f ∧ Went w q L' X w' := by
  rcases hc with ⟨rfl, rfl, hn⟩ | ⟨rfl, rfl, u, hu, he⟩
  · refine (cancel_miss h id hw hn).mono ?_
    rintro e w' ⟨er, rfl, hF, hK⟩
    exact ⟨er, rfl, .inr ⟨.inl rfl, hF⟩, ⟨X, h.same hK, fun _ h => .inl h⟩, hK.mono fun _ _ => False.elim⟩
  · refine (cancel_ok h id u hu he).mono ?_
    rintro e w' ⟨rfl, hW⟩
    exact ⟨_, rfl, .inl ⟨rfl, rfl⟩, hW.went⟩
theorem r_cancel {w : World} {r : Nat} {L : List Tm} {Y : Nat → Prop} (h : RQ w r L Y) (few : L.length < 200) (ho : Once L) (id : Int) (L' : List Tm) (f : Nat) (hc : (f = 6 ∧ L' = L ∧ ∀ u ∈ L, u.2 ≠ id) ∨ (f = 0 ∧ L' = del id L ∧ ∃ u ∈ L, u.2 = id)) :
    Calls Tryd.prog 25 #[.pointer (some ⟨r, 0, none⟩), .int .i64 id] w fun e w' => e = .returned (.int .i64 f) ∧ RWent w r L' Y w' := by
  rcases hc with ⟨rfl, rfl, hn⟩ | ⟨rfl, rfl, hu⟩
  · refine (ref_cancel_miss h (by omega) id (finds_none hn)).mono ?_
    rintro e w' ⟨rfl, rfl⟩
    exact ⟨rfl, h.went (Keeps.refl _ _)⟩
  · obtain ⟨k, hk, he, hz⟩ := finds_of hu
    exact ref_cancel_ok h (by omega) ho id k hk he hz
theorem q_move {w : World} {q : Nat} {L : List Tm} {X : Nat → Prop} (h : Qu w q L X) (id x : Int) (hx : (Lit.int .i64 x).wf = true) (hw : (Lit.int .i64 id).wf = true) (L' : List Tm) (f : Nat) (hc : (f = 6 ∧ L' = L ∧ ∀ u ∈ L, u.2 ≠ id) ∨ (f = 0 ∧ L' = ins (x, id) (del id L) ∧ ∃ u ∈ L, u.2 = id)) :
    Calls Tryd.prog 21 #[.pointer (some ⟨q, 0, none⟩), .int .i64 id, .int .i64 x] w fun e w' => ∃ er, e = .returned er ∧ Tells w' w.heap.size id er f ∧ Went w q L' X w' := by
  rcases hc with ⟨rfl, rfl, hn⟩ | ⟨rfl, rfl, u, hu, he⟩
  · refine (move_miss h id x hw hn).mono ?_
    rintro e w' ⟨er, rfl, hF, hK⟩
    exact ⟨er, rfl, .inr ⟨.inl rfl, hF⟩, ⟨X, h.same hK, fun _ h => .inl h⟩, hK.mono fun _ _ => False.elim⟩
  · refine (move_ok h id x hx u hu he).mono ?_
    rintro e w' ⟨rfl, hW⟩
    exact ⟨_, rfl, .inl ⟨rfl, rfl⟩, hW.went⟩
theorem r_move {w : World} {r : Nat} {L : List Tm} {Y : Nat → Prop} (h : RQ w r L Y) (few : L.length < 200) (ho : Once L) (id x : Int) (L' : List Tm) (f : Nat) (hc : (f = 6 ∧ L' = L ∧ ∀ u ∈ L, u.2 ≠ id) ∨ (f = 0 ∧ L' = ins (x, id) (del id L) ∧ ∃ u ∈ L, u.2 = id)) :
    Calls Tryd.prog 24 #[.pointer (some ⟨r, 0, none⟩), .int .i64 id, .int .i64 x] w fun e w' => e = .returned (.int .i64 f) ∧ RWent w r L' Y w' := by
  rcases hc with ⟨rfl, rfl, hn⟩ | ⟨rfl, rfl, hu⟩
  · refine (ref_move_miss h (by omega) id x (finds_none hn)).mono ?_
    rintro e w' ⟨rfl, rfl⟩
    exact ⟨rfl, h.went (Keeps.refl _ _)⟩
  · obtain ⟨k, hk, he, hz⟩ := finds_of hu
    exact ref_move_ok h (by omega) ho id x k hk he hz
end Go.Proofs.YtjmkfloaagppdaaDoor
