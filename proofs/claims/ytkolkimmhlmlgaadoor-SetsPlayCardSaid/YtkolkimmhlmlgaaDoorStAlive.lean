/-
  concordlaw07.alive by contract; sets that were made behind a world ('On'), call by call.
-/
import Derived.Test.YtkolkimmhlmlgaaDoorStSame
namespace Go.Proofs.YtkolkimmhlmlgaaDoor
open Go.RowKit Go.Maps Go.Extern.Stop Go.Stop Go.Extern

/-- Sets that were made since w0, in the state A; what was there then is as it was. -/
def On (w0 w : World) (s : Nat) (A : AS) : Prop := ∃ X, PS w s A X ∧ (∀ x, X x → w0.heap.size ≤ x) ∧ Keeps (fun _ => False) w0 w

section
variable {w0 w w' : World} {s : Nat} {A B : AS} {X : Nat → Prop}
theorem On.of (h : ∀ x, X x → w0.heap.size ≤ x) (k : Keeps (fun _ => False) w0 w) (d : Did w w' s B X) : On w0 w' s B := by
  obtain ⟨X', h1, h2, h3⟩ := d
  exact ⟨X', h1, fun x hx => (h2 x hx).elim (h x) fun hx => Nat.le_trans k.size hx, k.trans h3 fun x hx hs => by have := h x hs; omega⟩
theorem On.same (h : On w0 w s A) (k : Keeps (fun _ => False) w w') : On w0 w' s A := by
  obtain ⟨X, h1, h2, h3⟩ := h
  exact ⟨X, h1.same k, h2, h3.trans k fun _ _ => id⟩
theorem On.keeps (h : On w0 w s A) : Keeps (fun _ => False) w0 w := by obtain ⟨X, h1, h2, h3⟩ := h; exact h3
theorem On.ok (h : On w0 w s A) : A.Ok := by obtain ⟨X, h1, h2, h3⟩ := h; exact h1.ok

theorem write_on (h : On w0 w s A) (c v : Int) (hc : wfU c) :
    Calls Tryd.prog 18 #[.pointer (some ⟨s, 0, none⟩), .int .u64 c, .int .u64 v] w fun e w' => ∃ ev, e = .returned ev ∧ ErrU w.heap.size w' ev (aWrite A c v).2 0 ∧ On w0 w' s (aWrite A c v).1 := by
  obtain ⟨X, h1, h2, h3⟩ := h
  exact (write_any h1 c v hc).mono fun e w' ⟨ev, e1, e2, e3⟩ => ⟨ev, e1, e2, On.of h2 h3 e3⟩
theorem read_on (h : On w0 w s A) (c v : Int) (hc : wfU c) :
    Calls Tryd.prog 20 #[.pointer (some ⟨s, 0, none⟩), .int .u64 c, .int .i64 v] w fun e w' => ∃ ev, e = .returned ev ∧ ErrU w.heap.size w' ev (aRead A c v).2.1 (aRead A c v).2.2 ∧ On w0 w' s (aRead A c v).1 := by
  obtain ⟨X, h1, h2, h3⟩ := h
  exact (read_any h1 c v hc).mono fun e w' ⟨ev, e1, e2, e3⟩ => ⟨ev, e1, e2, On.of h2 h3 e3⟩
theorem mark_on (h : On w0 w s A) :
    Calls Tryd.prog 12 #[.pointer (some ⟨s, 0, none⟩)] w fun e w' => ∃ ev, e = .returned (.tuple #[.int .i64 ((aMark A).2.1 : Nat), ev]) ∧ ErrU w.heap.size w' ev (aMark A).2.2 0 ∧ On w0 w' s (aMark A).1 := by
  obtain ⟨X, h1, h2, h3⟩ := h
  exact (mark_any h1).mono fun e w' ⟨ev, e1, e2, e3⟩ => ⟨ev, e1, e2, On.of h2 h3 e3⟩
theorem keep_on (h : On w0 w s A) (m : Int) :
    Calls Tryd.prog 19 #[.pointer (some ⟨s, 0, none⟩), .int .i64 m] w fun e w' => ∃ ev, e = .returned ev ∧ ErrU w.heap.size w' ev (aKeep A m).2 (atM (aKeep A m).2 m) ∧ On w0 w' s (aKeep A m).1 := by
  obtain ⟨X, h1, h2, h3⟩ := h
  exact (keep_any h1 m).mono fun e w' ⟨ev, e1, e2, e3⟩ => ⟨ev, e1, e2, On.of h2 h3 e3⟩
theorem back_on (h : On w0 w s A) (m : Int) :
    Calls Tryd.prog 15 #[.pointer (some ⟨s, 0, none⟩), .int .i64 m] w fun e w' => ∃ ev, e = .returned ev ∧ ErrU w.heap.size w' ev (aBack A m).2 (atM (aBack A m).2 m) ∧ On w0 w' s (aBack A m).1 := by
  obtain ⟨X, h1, h2, h3⟩ := h
  exact (back_any h1 m).mono fun e w' ⟨ev, e1, e2, e3⟩ => ⟨ev, e1, e2, On.of h2 h3 e3⟩
theorem writes_on (h : On w0 w s A) :
    Calls Tryd.prog 11 #[.pointer (some ⟨s, 0, none⟩)] w fun e w' => ∃ u, e = .returned u ∧ Row2 .u64 60 w' u A.W ∧ On w0 w' s A ∧ Keeps (fun _ => False) w w' := by
  obtain ⟨X, h1, h2, h3⟩ := h
  exact (writes_any h1).mono fun e w' ⟨u, e1, e2, _, e4⟩ => ⟨u, e1, e2, ⟨X, h1.same e4, h2, h3.trans e4 fun _ _ => id⟩, e4⟩
theorem reads_on (h : On w0 w s A) :
    Calls Tryd.prog 14 #[.pointer (some ⟨s, 0, none⟩)] w fun e w' => ∃ u, e = .returned u ∧ Row2 .i64 50 w' u A.R ∧ On w0 w' s A ∧ Keeps (fun _ => False) w w' := by
  obtain ⟨X, h1, h2, h3⟩ := h
  exact (reads_any h1).mono fun e w' ⟨u, e1, e2, _, e4⟩ => ⟨u, e1, e2, ⟨X, h1.same e4, h2, h3.trans e4 fun _ _ => id⟩, e4⟩
theorem new_on (w : World) :
    Calls Tryd.prog 6 #[] w fun e w' => ∃ s, e = .returned (.pointer (some ⟨s, 0, none⟩)) ∧ On w w' s AS.none :=
  (new_any w).mono fun _ _ ⟨s, X, e1, e2, e3, e4⟩ => ⟨s, e1, X, e2, e3, e4⟩

theorem get_on (h : On w0 w s A) (c : Int) (hc : wfU c) :
    Calls Tryd.prog 27 #[.pointer (some ⟨s, 0, none⟩), .int .u64 c] w fun e w' => e = .returned (.tuple #[.int .u64 ((look A.W c).getD 0), .bool (look A.W c).isSome]) ∧ w = w' := by
  obtain ⟨X, h1, h2, h3⟩ := h
  exact get_any h1 c hc
end

theorem ErrU.nil {B : Nat} {w : World} {v : Value} {a : Int} (h : ErrU B w v 0 a) : v = .nilIface := by
  rcases h with ⟨_, _, h⟩ | ⟨h, _⟩ | ⟨h, _⟩
  · exact h
  · omega
  · omega

set_option maxRecDepth 100000 in
theorem alive_any (w : World) :
    Calls Tryd.prog 7 #[] w fun e w' => e = .returned (.bool true) ∧ Keeps (fun _ => False) w w' := by
  have a1 : aWrite AS.none 8 1 = (⟨[], [(8, 1)], []⟩, 0) := rfl
  have a2 : aMark ⟨[], [(8, 1)], []⟩ = (⟨[], [(8, 1)], [[(8, 1)]]⟩, 1, 0) := rfl
  have a3 : aWrite ⟨[], [(8, 1)], [[(8, 1)]]⟩ 8 2 = (⟨[], [(8, 2)], [[(8, 1)]]⟩, 0) := rfl
  have a4 : aWrite ⟨[], [(8, 2)], [[(8, 1)]]⟩ 9 3 = (⟨[], [(8, 2), (9, 3)], [[(8, 1)]]⟩, 0) := rfl
  have a5 : aBack ⟨[], [(8, 2), (9, 3)], [[(8, 1)]]⟩ 1 = (⟨[], [(8, 1)], []⟩, 0) := rfl
  have a6 : aRead ⟨[], [(8, 1)], []⟩ 8 1 = (⟨[(8, 1)], [(8, 1)], []⟩, 0, 0) := rfl
  have a7 : aRead ⟨[(8, 1)], [(8, 1)], []⟩ 8 2 = (⟨[(8, 1)], [(8, 1)], []⟩, 12, 1) := rfl
  have g1 := Lib.hid a1
  have g2 := Lib.hid a2
  have g3 := Lib.hid a3
  have g4 := Lib.hid a4
  have g5 := Lib.hid a5
  have g6 := Lib.hid a6
  have g7 := Lib.hid a7
  clear a1 a2 a3 a4 a5 a6 a7
  go_enter Tryd.func7, Tryd.ntmps7
  go_wp2_with fail
  refine (new_on _).mono ?_
  rintro e w1 ⟨s, rfl, h1⟩
  have c1 := write_on h1 8 1 (by decide)
  rw [g1.out] at c1
  have C1 := Lib.hid c1
  clear h1 c1
  go_wp2_with fail
  refine C1.out.mono ?_
  rintro e w2 ⟨ev, rfl, he, h2⟩
  obtain rfl := he.nil
  have c2 := mark_on h2
  rw [g2.out] at c2
  have C2 := Lib.hid c2
  clear h2 c2 he
  go_wp2_with (first | (go_at_call 13; refine (no_nil _).mono ?_; rintro e w' ⟨rfl, rfl⟩))
  refine C2.out.mono ?_
  rintro e w3 ⟨ev, rfl, he, h3⟩
  obtain rfl := he.nil
  have c3 := write_on h3 8 2 (by decide)
  rw [g3.out] at c3
  have C3 := Lib.hid c3
  clear h3 c3 he
  go_wp2_with fail
  refine C3.out.mono ?_
  rintro e w4 ⟨ev, rfl, he, h4⟩
  obtain rfl := he.nil
  have c4 := write_on h4 9 3 (by decide)
  rw [g4.out] at c4
  have C4 := Lib.hid c4
  clear h4 c4 he
  go_wp2_with fail
  refine C4.out.mono ?_
  rintro e w5 ⟨ev, rfl, he, h5⟩
  obtain rfl := he.nil
  have c5 := back_on h5 1
  rw [g5.out] at c5
  have C5 := Lib.hid c5
  clear h5 c5 he
  go_wp2_with fail
  refine C5.out.mono ?_
  rintro e w6 ⟨ev, rfl, he, h6⟩
  obtain rfl := he.nil
  have C6 := Lib.hid (writes_on h6)
  clear h6 he
  go_wp2_with (first | (go_at_call 13; refine (no_nil _).mono ?_; rintro e w' ⟨rfl, rfl⟩))
  refine C6.out.mono ?_
  rintro e w7 ⟨u, rfl, hu, h7, _⟩
  have k8 : Keeps (fun _ => False) w7 (w7.alloc (.cells #[.int .u64 8, .int .u64 1] 60)) := (Keeps.refl _ w7).alloc _
  have c7 := sw_any (hu.same k8) (row2_lit (p := (8, 1)) (Whole.made w7 60 #[.int .u64 8, .int .u64 1])) (by decide)
  rw [show decide (([(8, 1)] : Tl) = [(8, 1)]) = true from rfl] at c7
  have C7 := Lib.hid c7
  have O8 := Lib.hid (h7.same k8)
  clear hu h7 c7 k8
  go_wp2_with fail
  refine C7.out.mono ?_
  rintro e w8 ⟨rfl, hk8⟩
  have c8 := read_on (O8.out.same hk8) 8 1 (by decide)
  rw [g6.out] at c8
  have C8 := Lib.hid c8
  clear c8 hk8
  go_wp2_with fail
  refine C8.out.mono ?_
  rintro e w9 ⟨ev, rfl, he, h9⟩
  obtain rfl := he.nil
  have c9 := read_on h9 8 2 (by decide)
  rw [g7.out] at c9
  have C9 := Lib.hid c9
  clear c9 he h9
  go_wp2_with (first | (go_at_call 13; refine (no_nil _).mono ?_; rintro e w' ⟨rfl, rfl⟩))
  refine C9.out.mono ?_
  rintro e w10 ⟨ev, rfl, he, h10⟩
  have CN := Lib.hid (no_u he)
  have K10 := Lib.hid h10.keeps
  clear he h10
  go_wp2_with (first | (go_at_call 13; refine CN.out.mono ?_; rintro e w' ⟨rfl, rfl⟩))
  go_ret
  exact ⟨rfl, K10.out⟩
end Go.Proofs.YtkolkimmhlmlgaaDoor
