/-
  A run of the program in memory ('RunM': its block, its state's, what was told); what stays; the cells.
  eval's modulo, value, orNone, arg, key by contract.
-/
import Derived.Test.YthidipigpfcbbaaGreatDoorEvFace
import Derived.Test.YthidipigpfcbbaaGreatDoorEvRight

namespace Go.Proofs.YthidipigpfcbbaaGreatDoor
open Go.RowKit Go.Maps Go.Extern.Stop Go.Stop Go.Extern

def runCells (sb : Nat) (R : List Int) (tv : Value) (n : Nat) : Array Value := (Value.pointer (some ⟨sb, 0, none⟩) :: ((R.drop 1).map (fun x => Value.int .i64 x) ++ [tv, .int .i64 (n : Int)])).toArray
structure RunMt (PM : PMem) (w : World) (rb sb : Nat) (tv : Value) (r : RS) (n : Nat) (Xs X : Nat → Prop) : Prop where
  box : Whole w rb 73 (runCells sb r.R tv n)
  st : PM w sb r.A Xs
  told : IRow w tv r.T
  inX : X rb ∧ (∀ x, Xs x → X x) ∧ ∀ g, tv.ownBlock = some g → X g
  apart : ¬ Xs rb ∧ ∀ g, tv.ownBlock = some g → ¬ Xs g
  old : ∀ x, X x → x < w.heap.size
/-- A run: its registers, collections, what was told, how many statements have begun; X: the blocks that it has. -/
def RunM (PM : PMem) (w : World) (rb : Nat) (r : RS) (n : Nat) (X : Nat → Prop) : Prop := ∃ sb tv Xs, RunMt PM w rb sb tv r n Xs X
/-- What a call leaves. -/
def RDone (PM : PMem) (w w' : World) (rb : Nat) (r : RS) (n : Nat) (X : Nat → Prop) : Prop := ∃ X', RunM PM w' rb r n X' ∧ Mvs w X X' ∧ Keeps X w w'

section
variable {PM : PMem} {w w' w0 : World} {rb sb : Nat} {tv : Value} {r r' : RS} {n n' : Nat} {Xs X : Nat → Prop}
theorem RunMt.rb_told (h : RunMt PM w rb sb tv r n Xs X) : ¬ tv.ownBlock = some rb := row_ne h.told h.box (by decide)
theorem RunMt.keeps (F : Face PM) {S : Nat → Prop} (h : RunMt PM w rb sb tv r n Xs X) (k : Keeps S w w') (hS : ∀ x, X x → ¬ S x) : RunMt PM w' rb sb tv r n Xs X :=
  ⟨h.box.keeps k (hS _ h.inX.1), F.keeps h.st k fun x hx => hS x (h.inX.2.1 x hx), ownsRow_keeps h.told k fun g hg => hS g (h.inX.2.2 g hg), h.inX, h.apart, fun x hx => Nat.lt_of_lt_of_le (h.old x hx) k.size⟩
theorem RunMt.same (F : Face PM) (h : RunMt PM w rb sb tv r n Xs X) (k : Keeps (fun _ => False) w w') : RunMt PM w' rb sb tv r n Xs X := h.keeps F k fun _ _ => id
theorem RunM.same (F : Face PM) (h : RunM PM w rb r n X) (k : Keeps (fun _ => False) w w') : RunM PM w' rb r n X := by
  obtain ⟨sb, tv, Xs, h⟩ := h
  exact ⟨sb, tv, Xs, h.same F k⟩
theorem RunM.lt (h : RunM PM w rb r n X) : ∀ x, X x → x < w.heap.size := by obtain ⟨_, _, _, h⟩ := h; exact h.old
theorem RDone.refl (F : Face PM) (h : RunM PM w rb r n X) (k : Keeps (fun _ => False) w w') : RDone PM w w' rb r n X := ⟨X, h.same F k, fun _ => .inl, k.mono fun _ _ => False.elim⟩
theorem RDone.keeps (h : RDone PM w w' rb r n X) : Keeps X w w' := by obtain ⟨_, _, _, h⟩ := h; exact h
theorem RDone.size (h : RDone PM w w' rb r n X) : w.heap.size ≤ w'.heap.size := h.keeps.size
theorem RDone.after {w1 : World} (k : Keeps (fun _ => False) w w1) (h : RDone PM w1 w' rb r n X) : RDone PM w w' rb r n X := by
  obtain ⟨X', h1, h2, h3⟩ := h
  exact ⟨X', h1, fun x hx => (h2 x hx).imp id fun g => Nat.le_trans k.size g, (k.mono fun _ _ => False.elim : Keeps X w w1).trans_ h3⟩
theorem RDone.later (F : Face PM) {w1 : World} (h : RDone PM w w1 rb r n X) (k : Keeps (fun _ => False) w1 w') : RDone PM w w' rb r n X := by
  obtain ⟨X', h1, h2, h3⟩ := h
  exact ⟨X', h1.same F k, h2, h3.trans k fun _ _ => False.elim⟩
theorem RDone.step {w1 : World} {X1 : Nat → Prop} (h2 : Mvs w X X1) (h3 : Keeps X w w1) (h : RDone PM w1 w' rb r n X1) : RDone PM w w' rb r n X := by
  obtain ⟨X', e1, e2, e3⟩ := h
  refine ⟨X', e1, fun x hx => ?_, h3.trans e3 fun x hx g => ?_⟩
  · rcases e2 x hx with g | g
    · exact h2 x g
    · exact .inr (Nat.le_trans h3.size g)
  · rcases h2 x g with q | q
    · exact q
    · omega
theorem runCells_len (hR : r.R.length = 9) : (runCells sb r.R tv n).size = 11 := by simp [runCells, hR]
theorem RunMt.cell0 (h : RunMt PM w rb sb tv r n Xs X) : w.cell? ⟨rb, 0, none⟩ = some (.pointer (some ⟨sb, 0, none⟩)) := h.box.at_ 0
theorem RunMt.cell9 (h : RunMt PM w rb sb tv r n Xs X) (hR : r.R.length = 9) : w.cell? ⟨rb, 9, none⟩ = some tv := by
  refine (h.box.at_ 9).trans ?_
  simp [runCells, hR]
theorem RunMt.cell10 (h : RunMt PM w rb sb tv r n Xs X) (hR : r.R.length = 9) : w.cell? ⟨rb, 10, none⟩ = some (.int .i64 (n : Int)) := by
  refine (h.box.at_ 10).trans ?_
  simp [runCells, hR]
theorem RunMt.reg (h : RunMt PM w rb sb tv r n Xs X) (hR : r.R.length = 9) {g : Nat} (h1 : g < 8) : w.cell? ⟨rb, g + 1, none⟩ = some (.int .i64 (r.R.getD (g + 1) 0)) := by
  refine (h.box.at_ (g + 1)).trans ?_
  unfold runCells
  rw [List.getElem?_toArray, List.getElem?_cons_succ, List.getElem?_append_left (by simp [hR]; omega), List.getElem?_map, List.getElem?_drop, Nat.add_comm 1 g, List.getElem?_eq_getElem (by omega), List.getD_eq_getElem?_getD, List.getElem?_eq_getElem (by omega)]
  rfl
theorem runCells_reg (hR : r.R.length = 9) {g : Nat} (h1 : g < 8) (x : Int) : (runCells sb r.R tv n).setIfInBounds (g + 1) (.int .i64 x) = runCells sb (r.R.set (g + 1) x) tv n := by
  unfold runCells
  rw [List.setIfInBounds_toArray, List.set_cons_succ, List.set_append_left _ _ (by simp [hR]; omega), ← List.map_set]
  congr 4
  rw [List.drop_set, if_neg (by omega)]
  rfl
theorem runCells_told (hR : r.R.length = 9) (v : Value) : (runCells sb r.R tv n).setIfInBounds 9 v = runCells sb r.R v n := by
  unfold runCells
  rw [List.setIfInBounds_toArray, List.set_cons_succ, List.set_append_right _ _ (by simp [hR])]
  simp [hR]
theorem runCells_steps (hR : r.R.length = 9) (m : Nat) : (runCells sb r.R tv n).setIfInBounds 10 (.int .i64 (m : Int)) = runCells sb r.R tv m := by
  unfold runCells
  rw [List.setIfInBounds_toArray, List.set_cons_succ, List.set_append_right _ _ (by simp [hR])]
  simp [hR]
theorem runCells_st (s2 : Nat) : (runCells sb r.R tv n).setIfInBounds 0 (.pointer (some ⟨s2, 0, none⟩)) = runCells s2 r.R tv n := by
  unfold runCells
  rw [List.setIfInBounds_toArray, List.set_cons_zero]
/-- A cell of the run's block is set. -/
theorem RunMt.setCell (F : Face PM) (h : RunMt PM w rb sb tv r n Xs X) (i : Nat) (v : Value) {R2 : List Int} {n2 : Nat} (e : (runCells sb r.R tv n).setIfInBounds i v = runCells sb R2 tv n2) : RunMt PM (w.setCell ⟨rb, i, none⟩ v) rb sb tv { r with R := R2 } n2 Xs X := by
  have k : Keeps (fun x => x = rb) w (w.setCell ⟨rb, i, none⟩ v) := (Keeps.refl (fun x => x = rb) w).setCell (p := ⟨rb, i, none⟩) (fun _ => rfl) _
  refine ⟨?_, F.keeps h.st k fun x hx e => h.apart.1 (e ▸ hx), ownsRow_keeps h.told k fun g hg e => h.rb_told (e ▸ hg), h.inX, h.apart, fun x hx => Nat.lt_of_lt_of_le (h.old x hx) k.size⟩
  show Whole _ rb _ (runCells sb R2 tv n2)
  rw [← e]
  exact h.box.set_ i v
end
end Go.Proofs.YthidipigpfcbbaaGreatDoor

namespace Go.Proofs.YthidipigpfcbbaaGreatDoor
open Go.RowKit Go.Maps Go.Extern.Stop Go.Stop Go.Extern

theorem tmod_two {n m : Int} (hm : 0 < m) : (n.tmod m < 0 → n % m = n.tmod m + m) ∧ (¬ n.tmod m < 0 → n % m = n.tmod m) := by
  have h1 := Int.emod_nonneg n (show m ≠ 0 by omega)
  have h2 := Int.emod_lt_of_pos n hm
  have e := Int.tmod_eq_emod (a := n) (b := m)
  split at e
  · exact ⟨fun _ => by omega, fun _ => by omega⟩
  · rename_i h
    have : n % m ≠ 0 := fun q => h (.inr (Int.dvd_of_emod_eq_zero q))
    exact ⟨fun _ => by omega, fun _ => by omega⟩
theorem modulo_any (n m : Int) (hm : m = 64 ∨ m = 1000) (w : World) :
    Calls Tryz.prog 95 #[.int .i64 n, .int .i64 m] w fun e w' => e = .returned (.int .i64 (n % m)) ∧ w = w' := by
  have h0 : 0 < m := by omega
  have b0 : ¬ m = 0 := by omega
  by_cases hl : n.tmod m < 0
  · have e := (tmod_two h0).1 hl
    have h1 := Int.emod_nonneg n b0
    have h2 := Int.emod_lt_of_pos n h0
    have ew : wrap64 (n.tmod m + m) = n.tmod m + m := IntWalk.wrap64_in _ ⟨by omega, by omega⟩
    rw [e, ← ew]
    clear e h1 h2
    go_enter Tryz.func95, Tryz.ntmps95
    go_wp2_with fail
    go_ret
    exact ⟨rfl, rfl⟩
  · have e := (tmod_two h0).2 hl
    go_enter Tryz.func95, Tryz.ntmps95
    go_wp2_with fail
    go_ret
    exact ⟨rfl, rfl⟩
theorem value_any (n : Int) (w : World) :
    Calls Tryz.prog 77 #[.int .i64 n] w fun e w' => e = .returned (.int .i64 (n % 1000)) ∧ w = w' := by
  have C := Lib.hid (modulo_any n 1000 (.inr rfl) w)
  go_enter Tryz.func77, Tryz.ntmps77
  go_wp2_with fail
  refine C.out.mono ?_
  rintro e w' ⟨rfl, rfl⟩
  go_wp2_with fail
  go_ret
  exact ⟨rfl, rfl⟩
theorem orNone_any (n : Int) (b : Bool) (w : World) :
    Calls Tryz.prog 108 #[.int .i64 n, .bool b] w fun e w' => e = .returned (.int .i64 (if b = true then n else -1)) ∧ w = w' := by
  cases b
  all_goals
    go_enter Tryz.func108, Tryz.ntmps108
    go_wp2_with fail
    go_ret
    exact ⟨rfl, rfl⟩

theorem wrap64_is (x : Int) : IntKind.i64.wrap x = wrap64 x := by rw [IntKind.wrap_i64]; unfold wrap64; omega

section
variable {PM : PMem} {w : World} {rb n : Nat} {r : RS} {X : Nat → Prop}
set_option maxRecDepth 100000 in
theorem arg_any11 (h : RunM PM w rb r n X) (hR : r.R.length = 9) (a b : Int) (ha : 0 ≤ a ∧ a ≤ 8) :
    Calls Tryz.prog 78 #[.pointer (some ⟨rb, 0, none⟩), .agg #[.int .i64 a, .int .i64 b]] w fun e w' => e = .returned (.int .i64 (argv r.R a b)) ∧ Keeps (fun _ => False) w w' := by
  have k1 : Keeps (fun _ => False) w (w.alloc (.cells #[.int .i64 a, .int .i64 b] 38)) := (Keeps.refl _ w).alloc _
  by_cases h0 : a = 0
  · subst h0
    have e : argv r.R 0 b = b := by simp [argv]
    rw [e]
    clear h e
    go_enter Tryz.func78, Tryz.ntmps78
    go_wp2_with fail
    go_ret
    exact ⟨rfl, k1⟩
  · obtain ⟨g, hg, rfl⟩ : ∃ g : Nat, g < 8 ∧ a = ((g : Int) + 1) := ⟨a.toNat - 1, by omega, by omega⟩
    obtain ⟨sb, tv, Xs, h⟩ := h
    have c1 : (w.alloc (.cells #[.int .i64 ((g : Int) + 1), .int .i64 b] 38)).cell? ⟨rb, 1 + g, none⟩ = some (.int .i64 (r.R.getD (g + 1) 0)) := by
      rw [Nat.add_comm 1 g, k1.cell (h.old rb h.inX.1) id]
      exact h.reg hR hg
    have e : argv r.R ((g : Int) + 1) b = wrap64 (r.R.getD (g + 1) 0 + b) := by
      unfold argv
      rw [if_neg (by omega), show ((g : Int) + 1).toNat = g + 1 by omega]
      exact wrap64_is _
    rw [e]
    generalize r.R.getD (g + 1) 0 = x at *
    have hrb := h.old rb h.inX.1
    clear h e
    have b0 : ¬ ((g : Int) + 1) = 0 := by omega
    have e1 : wrap64 (((g : Int) + 1) - 1) = (g : Int) := by rw [IntWalk.wrap64_in _ ⟨by omega, by omega⟩]; omega
    have b1 : (0 : Int) ≤ (g : Int) := by omega
    have b2 : (g : Int) < 8 := by omega
    go_enter Tryz.func78, Tryz.ntmps78
    go_upto_region 3 with fail
    go_region
    go_wp2_with fail
    go_ret
    exact ⟨rfl, k1.drew⟩
set_option maxRecDepth 100000 in
theorem key_any11 (F : Face PM) (h : RunM PM w rb r n X) (hR : r.R.length = 9) (a b : Int) (ha : 0 ≤ a ∧ a ≤ 8) :
    Calls Tryz.prog 76 #[.pointer (some ⟨rb, 0, none⟩), .agg #[.int .i64 a, .int .i64 b]] w fun e w' => e = .returned (.int .i64 (argv r.R a b % 64)) ∧ Keeps (fun _ => False) w w' := by
  have k1 : Keeps (fun _ => False) w (w.alloc (.cells #[.int .i64 a, .int .i64 b] 38)) := (Keeps.refl _ w).alloc _
  have C1 := Lib.hid (arg_any11 (h.same F k1) hR a b ha)
  have CM := Lib.hid (fun V => modulo_any (argv r.R a b) 64 (.inl rfl) V)
  have K1 := Lib.hid k1
  generalize argv r.R a b = x at *
  clear h hR k1
  go_enter Tryz.func76, Tryz.ntmps76
  go_wp2_with fail
  refine C1.out.mono ?_
  rintro e w2 ⟨rfl, hK⟩
  have K2 := Lib.hid (K1.out.trans hK fun _ _ => id)
  clear hK C1
  go_wp2_with fail
  refine (CM.out _).mono ?_
  rintro e w3 ⟨rfl, rfl⟩
  go_wp2_with fail
  go_ret
  exact ⟨rfl, K2.out⟩
end
end Go.Proofs.YthidipigpfcbbaaGreatDoor
