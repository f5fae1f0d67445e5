/-
  Sets and the document's sets, apart from one another, in the same state; what a call of both leaves; a call, plainly.
-/
import Derived.Test.YtkolkimmhlmlgaaDoorStRefMark
import Derived.Test.YtkolkimmhlmlgaaDoorStPlace
import Derived.Test.YtkolkimmhlmlgaaDoorStArgs
namespace Go.Proofs.YtkolkimmhlmlgaaDoor
open Go.RowKit Go.Maps Go.Extern.Stop Go.Stop Go.Extern

/-- What both are behind a call. -/
def Two (w w' : World) (s r : Nat) (B C : AS) (X Y : Nat → Prop) : Prop :=
  ∃ X' Y', PS w' s B X' ∧ RS w' r C Y' ∧ Mvs w X X' ∧ Mvs w Y Y' ∧ (∀ x, X' x → ¬ Y' x) ∧ Keeps (fun x => X x ∨ Y x) w w'

section
variable {w w1 w2 w3 : World} {s r : Nat} {A A2 B C : AS} {X Y : Nat → Prop}

theorem two_sr (hR : RS w r A2 Y) (ap : ∀ x, X x → ¬ Y x) (h : Did w w2 s B X) (h' : RDid w2 w3 r C Y) : Two w w3 s r B C X Y := by
  obtain ⟨X', a1, a2, a3⟩ := h
  obtain ⟨Y', b1, b2, b3⟩ := h'
  have hXY : ∀ x, X' x → ¬ Y x := fun x hx hy => by
    rcases a2 x hx with g | g
    · exact ap x g hy
    · exact absurd (hR.old x hy) (Nat.not_lt.2 g)
  refine ⟨X', Y', a1.keeps b3 hXY, b1, a2, fun x hx => (b2 x hx).imp id fun g => Nat.le_trans a3.size g, fun x hx hy => ?_, (a3.mono fun _ _ g => .inl g : Keeps (fun x => X x ∨ Y x) w w2).trans b3 fun x _ e => .inr e⟩
  rcases b2 x hy with g | g
  · exact hXY x hx g
  · exact absurd (a1.old x hx) (Nat.not_lt.2 g)
theorem two_rs (hS : PS w s A X) (ap : ∀ x, X x → ¬ Y x) (h : RDid w w2 r C Y) (h' : Did w2 w3 s B X) : Two w w3 s r B C X Y := by
  obtain ⟨Y', b1, b2, b3⟩ := h
  obtain ⟨X', a1, a2, a3⟩ := h'
  have hXY : ∀ x, Y' x → ¬ X x := fun x hy hx => by
    rcases b2 x hy with g | g
    · exact ap x hx g
    · exact absurd (hS.old x hx) (Nat.not_lt.2 g)
  refine ⟨X', Y', a1, b1.keeps a3 hXY, fun x hx => (a2 x hx).imp id fun g => Nat.le_trans b3.size g, b2, fun x hx hy => ?_, (b3.mono fun _ _ e => .inr e : Keeps (fun x => X x ∨ Y x) w w2).trans a3 fun x _ g => .inl g⟩
  rcases a2 x hx with g | g
  · exact hXY x hy g
  · exact absurd (b1.old x hy) (Nat.not_lt.2 g)
theorem Two.same (hS : PS w s A X) (hR : RS w r A2 Y) (ap : ∀ x, X x → ¬ Y x) (k : Keeps (fun _ => False) w w1) : Two w w1 s r A A2 X Y :=
  ⟨X, Y, hS.same k, hR.same k, fun _ h => .inl h, fun _ h => .inl h, ap, k.mono fun _ _ => False.elim⟩
theorem Two.after (k : Keeps (fun _ => False) w w1) (h : Two w1 w2 s r B C X Y) : Two w w2 s r B C X Y := by
  obtain ⟨X', Y', a, b, c, d, e, f⟩ := h
  exact ⟨X', Y', a, b, fun x hx => (c x hx).imp id fun g => Nat.le_trans k.size g, fun x hx => (d x hx).imp id fun g => Nat.le_trans k.size g, e, (k.mono fun _ _ => False.elim : Keeps (fun x => X x ∨ Y x) w w1).trans_ f⟩
theorem Two.later (h : Two w w1 s r B C X Y) (k : Keeps (fun _ => False) w1 w2) : Two w w2 s r B C X Y := by
  obtain ⟨X', Y', a, b, c, d, e, f⟩ := h
  exact ⟨X', Y', a.same k, b.same k, c, d, e, f.trans k fun _ _ => False.elim⟩
theorem Two.keeps (h : Two w w1 s r B C X Y) : Keeps (fun x => X x ∨ Y x) w w1 := by obtain ⟨X', Y', _, _, _, _, _, f⟩ := h; exact f
theorem did_drew (h : Did w.drew w2 s B X) : Did w w2 s B X := by
  obtain ⟨X', h1, h2, h3⟩ := h
  exact ⟨X', h1, h2, ((Keeps.refl X w).drew).trans_ h3⟩
theorem rdid_drew (h : RDid w.drew w2 r B Y) : RDid w w2 r B Y := by
  obtain ⟨X', h1, h2, h3⟩ := h
  exact ⟨X', h1, h2, ((Keeps.refl Y w).drew).trans_ h3⟩
theorem Did.keeps (h : Did w w2 s B X) : Keeps X w w2 := by obtain ⟨X', h1, h2, h3⟩ := h; exact h3
theorem RDid.keeps (h : RDid w w2 r B Y) : Keeps Y w w2 := by obtain ⟨X', h1, h2, h3⟩ := h; exact h3
end

theorem ErrU.keeps {B : Nat} {w w' : World} {v : Value} {k : Nat} {a : Int} {S : Nat → Prop} (h : ErrU B w v k a) (K : Keeps S w w') (hS : ∀ x, B ≤ x → ¬ S x) : ErrU B w' v k a := by
  rcases h with h | h | ⟨h1, h2, p, h3, h4, h5⟩
  · exact .inl h
  · exact .inr (.inl h)
  · exact .inr (.inr ⟨h1, h2, p, h3, h4, h5.keeps K (hS p h3)⟩)
theorem ErrU.less {B C : Nat} {w : World} {v : Value} {k : Nat} {a : Int} (h : ErrU B w v k a) (hC : C ≤ B) : ErrU C w v k a := by
  rcases h with h | h | ⟨h1, h2, p, h3, h4, h5⟩
  · exact .inl h
  · exact .inr (.inl h)
  · exact .inr (.inr ⟨h1, h2, p, Nat.le_trans hC h3, h4, h5⟩)

/-- The place of an error. -/
theorem place_u {B : Nat} {w : World} {v : Value} {k : Nat} {a : Int} (h : ErrU B w v k a) (hg : Glob w) :
    Calls Tryd.prog 22 #[v] w fun e w' => e = .returned (.int .i64 a) ∧ Keeps (fun _ => False) w w' := by
  rcases h with ⟨_, rfl, rfl⟩ | ⟨_, _, rfl, rfl⟩ | ⟨_, _, p, _, rfl, h5⟩
  · exact place_nil w
  · exact place_errno _ w hg
  · exact place_fault p _ _ w hg h5

/-- A call, plainly. -/
def aDo (A : AS) (a : Act7) : AS :=
  if a.k = 0 then (aRead A a.c a.n).1 else if a.k = 1 ∨ a.k = 2 then (aWrite A a.c a.v).1 else if a.k = 3 then (aMark A).1 else if a.k = 4 then (aKeep A a.n).1 else if a.k = 5 then (aBack A a.n).1 else A

theorem aDo_ok {A : AS} (h : A.Ok) (a : Act7) : (aDo A a).Ok := by
  unfold aDo
  split
  · exact aRead_ok h _ _
  · split
    · exact aWrite_ok h _ _
    · split
      · exact aMark_ok h
      · split
        · exact aKeep_ok h _
        · split
          · exact aBack_ok h _
          · exact h

/-! ### the contracts, with their answers named -/
section
variable {w : World} {s r : Nat} {A B : AS} {X Y : Nat → Prop} {f g : Nat}
theorem s_write (h : PS w s A X) (c v : Int) (hc : wfU c) (e : aWrite A c v = (B, f)) :
    Calls Tryd.prog 18 #[.pointer (some ⟨s, 0, none⟩), .int .u64 c, .int .u64 v] w fun e w' => ∃ ev, e = .returned ev ∧ ErrU w.heap.size w' ev f 0 ∧ Did w w' s B X := by
  have := write_any h c v hc
  rw [e] at this
  exact this
theorem r_write (h : RS w r A Y) (ok : A.Ok) (c v : Int) (e : aWrite A c v = (B, f)) :
    Calls Tryd.prog 23 #[.pointer (some ⟨r, 0, none⟩), .int .u64 c, .int .u64 v] w fun e w' => e = .returned (.int .i64 f) ∧ RDid w w' r B Y := by
  have := rwrite_any h ok c v
  rw [e] at this
  exact this
theorem s_read (h : PS w s A X) (c v : Int) (hc : wfU c) (e : aRead A c v = (B, f, g)) :
    Calls Tryd.prog 20 #[.pointer (some ⟨s, 0, none⟩), .int .u64 c, .int .i64 v] w fun e w' => ∃ ev, e = .returned ev ∧ ErrU w.heap.size w' ev f g ∧ Did w w' s B X := by
  have := read_any h c v hc
  rw [e] at this
  exact this
theorem r_read (h : RS w r A Y) (ok : A.Ok) (c v : Int) (e : aRead A c v = (B, f, g)) :
    Calls Tryd.prog 21 #[.pointer (some ⟨r, 0, none⟩), .int .u64 c, .int .i64 v] w fun e w' => e = .returned (.tuple #[.int .i64 f, .int .i64 g]) ∧ RDid w w' r B Y := by
  have := rread_any h ok c v
  rw [e] at this
  exact this
theorem s_mark (h : PS w s A X) (e : aMark A = (B, g, f)) :
    Calls Tryd.prog 12 #[.pointer (some ⟨s, 0, none⟩)] w fun e w' => ∃ ev, e = .returned (.tuple #[.int .i64 g, ev]) ∧ ErrU w.heap.size w' ev f 0 ∧ Did w w' s B X := by
  have := mark_any h
  rw [e] at this
  exact this
theorem r_mark (h : RS w r A Y) (ok : A.Ok) (e : aMark A = (B, g, f)) :
    Calls Tryd.prog 24 #[.pointer (some ⟨r, 0, none⟩)] w fun e w' => e = .returned (.tuple #[.int .i64 g, .int .i64 f]) ∧ RDid w w' r B Y := by
  have := rmark_any h ok
  rw [e] at this
  exact this
theorem s_keep (h : PS w s A X) (m : Int) (e : aKeep A m = (B, f)) :
    Calls Tryd.prog 19 #[.pointer (some ⟨s, 0, none⟩), .int .i64 m] w fun e w' => ∃ ev, e = .returned ev ∧ ErrU w.heap.size w' ev f (atM f m) ∧ Did w w' s B X := by
  have := keep_any h m
  rw [e] at this
  exact this
theorem r_keep (h : RS w r A Y) (ok : A.Ok) (m : Int) (e : aKeep A m = (B, f)) :
    Calls Tryd.prog 25 #[.pointer (some ⟨r, 0, none⟩), .int .i64 m] w fun e w' => e = .returned (.int .i64 f) ∧ RDid w w' r B Y := by
  have := rkeep_any h ok m
  rw [e] at this
  exact this
theorem s_back (h : PS w s A X) (m : Int) (e : aBack A m = (B, f)) :
    Calls Tryd.prog 15 #[.pointer (some ⟨s, 0, none⟩), .int .i64 m] w fun e w' => ∃ ev, e = .returned ev ∧ ErrU w.heap.size w' ev f (atM f m) ∧ Did w w' s B X := by
  have := back_any h m
  rw [e] at this
  exact this
theorem r_back (h : RS w r A Y) (ok : A.Ok) (m : Int) (e : aBack A m = (B, f)) :
    Calls Tryd.prog 26 #[.pointer (some ⟨r, 0, none⟩), .int .i64 m] w fun e w' => e = .returned (.int .i64 f) ∧ RDid w w' r B Y := by
  have := rback_any h ok m
  rw [e] at this
  exact this
theorem keep_num {m : Int} (e : aKeep A m = (B, f)) : f = 0 ∨ f = 6 := by
  unfold aKeep at e
  split at e <;> (injection e with e1 e2; omega)
theorem back_num {m : Int} (e : aBack A m = (B, f)) : f = 0 ∨ f = 6 := by
  unfold aBack at e
  split at e <;> (injection e with e1 e2; omega)
end
end Go.Proofs.YtkolkimmhlmlgaaDoor
