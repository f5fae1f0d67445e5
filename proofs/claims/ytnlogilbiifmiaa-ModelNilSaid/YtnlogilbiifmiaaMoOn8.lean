/-
  A state that was made since a world ('On8'); concordlaw08.alive by contract, for any program's states that keep 'Face'.
-/
import Derived.Test.YtnlogilbiifmiaaMoFaceP
namespace Go.Proofs.Ytnlogilbiifmiaa
open Go.RowKit Go.Maps Go.Extern.Stop Go.Stop Go.Extern

/-- A state, made since w0; what was there then is as it was. -/
def On8 (PM : PMem) (w0 w : World) (s : Nat) (A : M8) : Prop := ∃ X, PM w s A X ∧ (∀ x, X x → w0.heap.size ≤ x) ∧ Keeps (fun _ => False) w0 w

section
variable {PM : PMem} {w0 w w' : World} {s r : Nat} {A B : M8}
theorem On8.of {X : Nat → Prop} (h : ∀ x, X x → w0.heap.size ≤ x) (k : Keeps (fun _ => False) w0 w) (d : MDid PM w w' s B X) : On8 PM w0 w' s B := by
  obtain ⟨X', h1, h2, h3⟩ := d
  exact ⟨X', h1, fun x hx => (h2 x hx).elim (h x) fun g => Nat.le_trans k.size g, k.trans h3 fun x hx e => absurd hx (Nat.not_lt.2 (h x e))⟩
theorem On8.same (F : Face PM) (h : On8 PM w0 w s A) (k : Keeps (fun _ => False) w w') : On8 PM w0 w' s A := by
  obtain ⟨X, h1, h2, h3⟩ := h
  exact ⟨X, F.same h1 k, h2, h3.trans k fun _ _ => id⟩
theorem On8.keeps (h : On8 PM w0 w s A) : Keeps (fun _ => False) w0 w := by obtain ⟨X, h1, h2, h3⟩ := h; exact h3
theorem On8.ok (F : Face PM) (h : On8 PM w0 w s A) : A.Ok := by obtain ⟨X, h1, h2, h3⟩ := h; exact F.ok h1

theorem put_on8 (F : Face PM) (h : On8 PM w0 w s A) (c k v : Int) (hk : wfI k) {f : Nat} (e : mPut A c k v = (B, f)) :
    Calls Try.prog 10 #[.pointer (some ⟨s, 0, none⟩), .int .i64 c, .int .i64 k, .int .i64 v] w fun e w' => ∃ ev a, e = .returned ev ∧ ErrU w.heap.size w' ev f a ∧ On8 PM w0 w' s B := by
  obtain ⟨X, h1, h2, h3⟩ := h
  have := F.put h1 c k v hk
  rw [e] at this
  exact this.mono fun e w' ⟨ev, a, e1, e2, e3⟩ => ⟨ev, a, e1, e2, On8.of h2 h3 e3⟩
theorem del_on8 (F : Face PM) (h : On8 PM w0 w s A) (c k : Int) (hk : wfI k) {f : Nat} (e : mDel A c k = (B, f)) :
    Calls Try.prog 11 #[.pointer (some ⟨s, 0, none⟩), .int .i64 c, .int .i64 k] w fun e w' => ∃ ev a, e = .returned ev ∧ ErrU w.heap.size w' ev f a ∧ On8 PM w0 w' s B := by
  obtain ⟨X, h1, h2, h3⟩ := h
  have := F.del_ h1 c k hk
  rw [e] at this
  exact this.mono fun e w' ⟨ev, a, e1, e2, e3⟩ => ⟨ev, a, e1, e2, On8.of h2 h3 e3⟩
theorem ceil_on8 (F : Face PM) (h : On8 PM w0 w s A) (c k : Int) {x : Int} {b : Bool} {f : Nat} (e : mCeil A c k = (x, b, f)) :
    Calls Try.prog 5 #[.pointer (some ⟨s, 0, none⟩), .int .i64 c, .int .i64 k] w fun e w' => ∃ ev a, e = .returned (.tuple #[.int .i64 x, .bool b, ev]) ∧ ErrU w.heap.size w' ev f a ∧ On8 PM w0 w' s A ∧ Keeps (fun _ => False) w w' := by
  have h' := h
  obtain ⟨X, h1, h2, h3⟩ := h
  have := F.ceil_ h1 c k
  rw [e] at this
  exact this.mono fun e w' ⟨ev, a, e1, e2, e3⟩ => ⟨ev, a, e1, e2, h'.same F e3, e3⟩
theorem range_on8 (F : Face PM) (h : On8 PM w0 w s A) (c x y : Int) {n f : Nat} (e : mRange A c x y = (n, f)) :
    Calls Try.prog 7 #[.pointer (some ⟨s, 0, none⟩), .int .i64 c, .int .i64 x, .int .i64 y] w fun e w' => ∃ ev a, e = .returned (.tuple #[.int .i64 (n : Nat), ev]) ∧ ErrU w.heap.size w' ev f a ∧ On8 PM w0 w' s A ∧ Keeps (fun _ => False) w w' := by
  have h' := h
  obtain ⟨X, h1, h2, h3⟩ := h
  have := F.range_ h1 c x y
  rw [e] at this
  exact this.mono fun e w' ⟨ev, a, e1, e2, e3⟩ => ⟨ev, a, e1, e2, h'.same F e3, e3⟩
theorem get_on8 (F : Face PM) (h : On8 PM w0 w s A) (c k : Int) (hk : wfI k) {x : Int} {b : Bool} {f : Nat} (e : mGet A c k = (x, b, f)) :
    Calls Try.prog 4 #[.pointer (some ⟨s, 0, none⟩), .int .i64 c, .int .i64 k] w fun e w' => ∃ ev a, e = .returned (.tuple #[.int .i64 x, .bool b, ev]) ∧ ErrU w.heap.size w' ev f a ∧ On8 PM w0 w' s A ∧ Keeps (fun _ => False) w w' := by
  have h' := h
  obtain ⟨X, h1, h2, h3⟩ := h
  have := F.get h1 c k hk
  rw [e] at this
  exact this.mono fun e w' ⟨ev, e1, e2, e3⟩ => ⟨ev, _, e1, e2, h'.same F e3, e3⟩
theorem new_on8 (F : Face PM) {a : Option Addr} {n cap : Nat} {K : List Int} (h : IntL w a n K) (hk : (mNew K).1 = true) (k0 : Keeps (fun _ => False) w0 w) :
    Calls Try.prog 26 #[.slice a n cap] w fun e w' => ∃ s, e = .returned (.tuple #[.pointer (some ⟨s, 0, none⟩), .nilIface]) ∧ On8 PM w0 w' s (M8.made K) :=
  (F.new_ h hk).mono fun _ _ ⟨s, X, e1, e2, e3, e4⟩ => ⟨s, e1, X, e2, fun x hx => Nat.le_trans k0.size (e3 x hx), k0.trans e4 fun _ _ => id⟩
end

set_option maxRecDepth 100000 in
theorem alive_any8 {PM : PMem} (F : Face PM) (w : World) :
    Calls Try.prog 15 #[] w fun e w' => e = .returned (.bool true) ∧ Keeps (fun _ => False) w w' := by
  have a1 : (mNew [1, 3]).1 = true := rfl
  have a2 : mPut (M8.made [1, 3]) 1 5 7 = (⟨[1, 3], [[], [(5, 7)]]⟩, 0) := rfl
  have a3 : mCeil ⟨[1, 3], [[], [(5, 7)]]⟩ 1 3 = (5, true, 0) := rfl
  have a4 : mRange ⟨[1, 3], [[], [(5, 7)]]⟩ 1 0 9 = (1, 0) := rfl
  have a5 : mCeil ⟨[1, 3], [[], [(5, 7)]]⟩ 0 3 = (0, false, 17) := rfl
  have k1 : Keeps (fun _ => False) w (w.alloc (.cells #[.int .i64 1, .int .i64 3] 3)) := (Keeps.refl _ w).alloc _
  have mB : Whole (w.alloc (.cells #[.int .i64 1, .int .i64 3] 3)) w.heap.size 3 #[.int .i64 1, .int .i64 3] := Whole.made _ _ _
  have il : IntL (w.alloc (.cells #[.int .i64 1, .int .i64 3] 3)) (some ⟨w.heap.size, 0, none⟩) 2 [1, 3] := ⟨rfl, by decide, (fun e => by cases e), fun _ => ⟨_, _, rfl, fun i x hx => by
    match i, hx with
    | 0, hx => simp at hx; subst hx; exact mB.at_ 0
    | 1, hx => simp at hx; subst hx; exact mB.at_ 1
    | i + 2, hx => simp at hx⟩⟩
  have C1 := Lib.hid (new_on8 (w0 := w) (cap := 2) F il a1 k1)
  have a2 := Lib.hid a2
  have a3 := Lib.hid a3
  have a4 := Lib.hid a4
  have a5 := Lib.hid a5
  clear il mB k1 a1
  go_enter Try.func15, Try.ntmps15
  go_wp2_with fail
  refine C1.out.mono ?_
  rintro e w2 ⟨s, rfl, hO⟩
  have O2 := Lib.hid hO
  clear hO
  go_wp2_with (first
    | (go_at_call 9; refine (no_nil _).mono ?_; rintro e w' ⟨rfl, rfl⟩)
    | (go_at_call 10; refine (put_on8 F O2.out 1 5 7 (by rfl) a2.out).mono ?_; rintro e w3 ⟨ev, a, rfl, hT, hO⟩; obtain rfl := hT.nil; have O3 := Lib.hid hO; clear hT hO))
  refine (ceil_on8 F O3.out 1 3 a3.out).mono ?_
  rintro e w4 ⟨ev, a, rfl, hT, hO, _⟩
  obtain rfl := hT.nil
  have O4 := Lib.hid hO
  clear hT hO
  go_wp2_with fail
  refine (range_on8 F O4.out 1 0 9 a4.out).mono ?_
  rintro e w5 ⟨ev, a, rfl, hT, hO, _⟩
  obtain rfl := hT.nil
  have O5 := Lib.hid hO
  clear hT hO
  go_wp2_with fail
  refine (ceil_on8 F O5.out 0 3 a5.out).mono ?_
  rintro e w6 ⟨ev, a, rfl, hT, hO, _⟩
  have T6 := Lib.hid hT
  have K6 := Lib.hid hO.keeps
  clear hT hO
  go_wp2_with fail
  refine (no_nil _).mono ?_
  rintro e w' ⟨rfl, rfl⟩
  go_wp2_with fail
  refine (no_nil _).mono ?_
  rintro e w' ⟨rfl, rfl⟩
  go_wp2_with fail
  refine (no_u T6.out).mono ?_
  rintro e w' ⟨rfl, rfl⟩
  go_wp2_with fail
  go_ret
  exact ⟨rfl, K6.out⟩

/-! ### Play -/
end Go.Proofs.Ytnlogilbiifmiaa
