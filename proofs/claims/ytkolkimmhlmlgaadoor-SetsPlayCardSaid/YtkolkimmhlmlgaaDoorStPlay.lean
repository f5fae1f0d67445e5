/-
  concordlaw07.play by contract; sets and the document's sets that were made since a world ('Both').
-/
import Derived.Test.YtkolkimmhlmlgaaDoorStDo
namespace Go.Proofs.YtkolkimmhlmlgaaDoor
open Go.RowKit Go.Maps Go.Extern.Stop Go.Stop Go.Extern

/-- Both, made since w0, in the state A; what was there then is as it was. -/
def Both (w0 w : World) (s r : Nat) (A : AS) : Prop := ∃ X Y, PS w s A X ∧ RS w r A Y ∧ (∀ x, X x → ¬ Y x) ∧ (∀ x, X x ∨ Y x → w0.heap.size ≤ x) ∧ Keeps (fun _ => False) w0 w

section
variable {w0 w w' : World} {s r : Nat} {A B : AS}
theorem Both.same (h : Both w0 w s r A) (k : Keeps (fun _ => False) w w') : Both w0 w' s r A := by
  obtain ⟨X, Y, h1, h2, h3, h4, h5⟩ := h
  exact ⟨X, Y, h1.same k, h2.same k, h3, h4, h5.trans k fun _ _ => id⟩
theorem Both.keeps (h : Both w0 w s r A) : Keeps (fun _ => False) w0 w := by obtain ⟨X, Y, h1, h2, h3, h4, h5⟩ := h; exact h5
theorem Both.ok (h : Both w0 w s r A) : A.Ok := by obtain ⟨X, Y, h1, h2, h3, h4, h5⟩ := h; exact h1.ok
theorem Both.on (h : Both w0 w s r A) : On w0 w s A := by obtain ⟨X, Y, h1, h2, h3, h4, h5⟩ := h; exact ⟨X, h1, fun x hx => h4 x (.inl hx), h5⟩

theorem do_on (h : Both w0 w s r A) (hg : Glob w0) (a : Act7) (hc : wfU a.c) :
    Calls Tryd.prog 8 #[.pointer (some ⟨s, 0, none⟩), .pointer (some ⟨r, 0, none⟩), .agg #[.int .i64 a.k, .int .u64 a.c, .int .u64 a.v, .int .i64 a.n]] w fun e w' => e = .returned (.bool true) ∧ Both w0 w' s r (aDo A a) := by
  obtain ⟨X, Y, h1, h2, h3, h4, h5⟩ := h
  have hgl := hg.lt
  refine (do_any7 h1 h2 h3 (hg.keeps h5 id) (fun e => by have := h4 _ e; omega) a hc).mono ?_
  rintro e w' ⟨rfl, X', Y', a1, a2, a3, a4, a5, a6⟩
  refine ⟨rfl, X', Y', a1, a2, a5, fun x hx => ?_, h5.trans a6 fun x hx e => by have := h4 x e; omega⟩
  rcases hx with hx | hx
  · rcases a3 x hx with g | g
    · exact h4 x (.inl g)
    · exact Nat.le_trans h5.size g
  · rcases a4 x hx with g | g
    · exact h4 x (.inr g)
    · exact Nat.le_trans h5.size g

/-- The document's sets are made. -/
theorem On.both (h : On w0 w s AS.none) : Both w0 (w.alloc (.cells #[.slice none 0 0, .slice none 0 0, .slice none 0 0] 32)) s w.heap.size AS.none := by
  obtain ⟨X, h1, h2, h3⟩ := h
  have k : Keeps (fun _ => False) w (w.alloc (.cells #[.slice none 0 0, .slice none 0 0, .slice none 0 0] 32)) := (Keeps.refl _ w).alloc _
  refine ⟨X, fun y => y = w.heap.size, h1.same k, ⟨_, _, _, [], {
    blk := Whole.made _ _ _
    reads := World.ownsRow_nil ..
    writes := World.ownsRow_nil ..
    marks := World.ownsRow_nil ..
    len := rfl
    each := fun i v m hv => by simp at hv
    inY := ⟨rfl, fun g hg => by simp [Value.ownBlock] at hg, fun g hg => by simp [Value.ownBlock] at hg, fun g hg => by simp [Value.ownBlock] at hg, fun v hv => by cases hv⟩
    old := fun y hy => by simp; omega }⟩, fun x hx e => by have := h1.old x hx; omega, fun x hx => ?_, h3.trans k fun _ _ => id⟩
  rcases hx with hx | hx
  · exact h2 x hx
  · rw [hx]; exact h3.size
end

/-- The state behind some calls. -/
def aRun (A : AS) (L : List Act7) : AS := L.foldl aDo A

set_option maxRecDepth 100000 in
theorem play_long {w : World} {a : Option Addr} {len cap : Nat} (h : 80 < len) :
    Calls Tryd.prog 10 #[.slice a len cap] w fun e w' => e = .returned (.pointer none) ∧ Keeps (fun _ => False) w w' := by
  have b0 : (80 : Int) < (len : Int) := by omega
  go_enter Tryd.func10, Tryd.ntmps10
  go_wp2_with fail
  refine (new_on _).mono ?_
  rintro e w1 ⟨s, rfl, h1⟩
  have K1 := Lib.hid h1.keeps
  clear h1
  go_wp2_with fail
  go_ret
  exact ⟨rfl, K1.out⟩

set_option maxRecDepth 100000 in
theorem play_any {w : World} {a : Option Addr} {len cap : Nat} {L : List Act7} (hL : ActL w a len cap L) (hn : len ≤ 80) (hg : Glob w) :
    Calls Tryd.prog 10 #[.slice a len cap] w fun e w' => ∃ s A, e = .returned (.pointer (some ⟨s, 0, none⟩)) ∧ On w w' s A := by
  have b0 : ¬ (80 : Int) < (len : Int) := by omega
  have LL := Lib.hid hL
  have HG := Lib.hid hg
  clear hL hg
  go_enter Tryd.func10, Tryd.ntmps10
  go_wp2_with fail
  refine (new_on _).mono ?_
  rintro e w1 ⟨s, rfl, h1⟩
  have B1 := Lib.hid h1.both
  obtain ⟨W1, hW1⟩ : ∃ W, W = w1.alloc (.cells #[.slice none 0 0, .slice none 0 0, .slice none 0 0] 32) := ⟨_, rfl⟩
  rw [← hW1] at B1
  have hW1' := Lib.hid hW1
  obtain ⟨r, hr⟩ : ∃ r, w1.heap.size = r := ⟨_, rfl⟩
  rw [hr] at B1
  clear h1 hW1
  go_wp2_with fail
  rw [← hW1'.out]
  go_loopw [19] (fun iv wr => ∃ (i : Nat) (A : AS), iv = .int .i64 i ∧ i ≤ len ∧ Both w wr s r A) (fun iv _ => len - (intOf iv).toNat)
  case atStart => exact ⟨0, _, rfl, Nat.zero_le _, B1.out⟩
  case round =>
    obtain ⟨i, A, rfl, hi, hB⟩ := hrel
    by_cases hlt : i < len
    · have b1 : (i : Int) < (len : Int) := by omega
      obtain ⟨b, o, rfl, hc⟩ := LL.out.at_ (by omega)
      obtain ⟨x, hx⟩ : ∃ x, L[i]? = some x := ⟨_, List.getElem?_eq_getElem (by rw [LL.out.len]; exact hlt)⟩
      obtain ⟨q0, q1, q2, q3⟩ := hc i x hx
      have K := hB.keeps
      have d0 := (K.cell (cell_lt q0) id).trans q0
      have d1 := (K.cell (cell_lt q1) id).trans q1
      have d2 := (K.cell (cell_lt q2) id).trans q2
      have d3 := (K.cell (cell_lt q3) id).trans q3
      have C1 := Lib.hid (do_on (hB.same ((Keeps.refl (fun _ => False) wr).alloc (.cells #[.int .i64 x.k, .int .u64 x.c, .int .u64 x.v, .int .i64 x.n] 34))) HG.out x (LL.out.wf x (List.mem_of_getElem? hx)))
      clear K q0 q1 q2 q3 hc hB hx
      obtain ⟨xk, xc, xv, xn⟩ := x
      simp only at d0 d1 d2 d3
      go_wp2_with fail
      refine C1.out.mono ?_
      rintro e w2 ⟨rfl, h2⟩
      have B2 := Lib.hid h2
      clear h2
      go_wp2_with fail
      go_roundw
      case rel => exact ⟨i + 1, _, by go_num, by omega, B2.out⟩
      case measure => simp [intOf]; omega
    · obtain rfl : i = len := by omega
      have b1 : ¬ (i : Int) < (i : Int) := by omega
      have O := Lib.hid hB.on
      clear hB
      go_wp2_with fail
      go_ret
      exact ⟨s, rfl, A, O.out⟩
end Go.Proofs.YtkolkimmhlmlgaaDoor
