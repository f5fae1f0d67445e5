/-
  What comes of statements ('EndV': nil, a stop, an error of the call); ended by contract.
-/
import Derived.Test.YthidipigpfcbbaaGreatDoorEvAs
import Derived.Test.YthidipigpfcbbaaGreatDoorEvSmall
namespace Go.Proofs.YthidipigpfcbbaaGreatDoor
open Go.RowKit Go.Maps Go.Extern.Stop Go.Stop Go.Extern

/-- The error's number of an end: 2 abort, 3 retry, 4 capped, 5 a put that is not done. -/
def stopC (k : Nat) : Int := if k = 2 then 14 else if k = 3 then 13 else if k = 4 then 15 else 8
/-- What statements answer that end so. -/
def EndV (B : Nat) (w : World) (v : Value) (k : Nat) : Prop := (k = 0 ∧ v = .nilIface) ∨ (2 ≤ k ∧ k ≤ 4 ∧ v = .iface 114 (.agg #[.int .i64 (stopC k)])) ∨ (k = 5 ∧ ∃ a, ErrU B w v 8 a)
theorem EndV.same {B : Nat} {w w' : World} {v : Value} {k : Nat} {S : Nat → Prop} (h : EndV B w v k) (K : Keeps S w w') (hS : ∀ x, B ≤ x → ¬ S x) : EndV B w' v k := by
  rcases h with h | h | ⟨h1, a, h2⟩
  · exact .inl h
  · exact .inr (.inl h)
  · exact .inr (.inr ⟨h1, a, h2.keeps K hS⟩)
theorem EndV.errS {B : Nat} {w : World} {v : Value} {k : Nat} (h : EndV B w v k) : (k = 0 ∧ v = .nilIface) ∨ (2 ≤ k ∧ k ≤ 5 ∧ ErrS B w v (stopC k)) := by
  rcases h with h | ⟨h1, h2, h3⟩ | ⟨rfl, a, h⟩
  · exact .inl h
  · exact .inr ⟨h1, by omega, .inl h3⟩
  · refine .inr ⟨by omega, by omega, ?_⟩
    rcases h with ⟨h, _⟩ | ⟨_, _, _, h⟩ | ⟨_, _, p, h3, h4, h5⟩
    · omega
    · exact .inr (.inl h)
    · exact .inr (.inr ⟨p, a, h3, h4, h5⟩)
theorem EndV.shape {B : Nat} {w : World} {v : Value} {k : Nat} (h : EndV B w v k) : (k = 0 ∧ v = .nilIface) ∨ (k ≠ 0 ∧ ∃ t x, v = .iface t x) := by
  rcases h.errS with h | ⟨h1, _, h⟩
  · exact .inl h
  · obtain ⟨t, x, e, _⟩ := h.iface
    exact .inr ⟨by omega, t, x, e⟩
/-- errors.Is at what ends a transaction. -/
theorem is_end {B : Nat} {w : World} {v : Value} {k : Nat} (h : EndV B w v k) {j : Nat} (hj : j = 2 ∨ j = 3) :
    Calls Tryz.prog 29 #[v, .iface 65 (.int .i64 (stopC j))] w fun e w' => e = .returned (.bool (k == j)) ∧ Keeps (fun _ => False) w w' := by
  rcases h.errS with ⟨rfl, rfl⟩ | ⟨h1, h2, h3⟩
  · refine (is_nil (stopC j) w).mono ?_
    rintro e w' ⟨rfl, rfl⟩
    refine ⟨?_, Keeps.refl _ _⟩
    rcases hj with rfl | rfl <;> rfl
  · refine (is_s h3 (stopC j)).mono ?_
    rintro e w' ⟨rfl, hK⟩
    refine ⟨?_, hK⟩
    have : k = 2 ∨ k = 3 ∨ k = 4 ∨ k = 5 := by omega
    rcases this with rfl | rfl | rfl | rfl <;> rcases hj with rfl | rfl <;> rfl

/-- What ended answers. -/
def endedV (k : Nat) (v : Value) : Value := if k = 5 then .tuple #[.int .i64 0, v] else .tuple #[.int .i64 (endC k), .nilIface]
set_option maxRecDepth 100000 in
theorem ended_num {B : Nat} {w : World} {v res : Value} {n : Int} (h3 : ErrS B w v n) (hg : Glob w) (hn : n = 14 ∧ res = .tuple #[.int .i64 2, .nilIface] ∨ n = 13 ∧ res = .tuple #[.int .i64 3, .nilIface] ∨ n = 15 ∧ res = .tuple #[.int .i64 4, .nilIface] ∨ n = 8 ∧ res = .tuple #[.int .i64 0, v]) :
    Calls Tryz.prog 27 #[v] w fun e w' => e = .returned res ∧ Keeps (fun _ => False) w w' := by
  have K1 : Keeps (fun _ => False) w (w.alloc (.cells #[.int .i64 0] 65)) := (Keeps.refl _ w).alloc _
  have C := Lib.hid (as_s (b := w.heap.size) (old := .int .i64 0) (h3.same K1 fun _ _ => id) (hg.keeps K1 id) (Whole.made w 65 #[.int .i64 0]))
  have K1' := Lib.hid K1
  obtain ⟨t, x, rfl⟩ : ∃ t x, v = .iface t x := by
    obtain ⟨t, x, e, _⟩ := h3.iface
    exact ⟨t, x, e⟩
  clear h3 K1 hg
  rcases hn with ⟨rfl, rfl⟩ | ⟨rfl, rfl⟩ | ⟨rfl, rfl⟩ | ⟨rfl, rfl⟩
  all_goals
    go_enter Tryz.func27, Tryz.ntmps27
    go_wp2_with fail
    refine C.out.mono ?_
    rintro e w2 ⟨rfl, hW, hK⟩
    have c1 := hW.at_ 0
    have K2 := Lib.hid (K1'.out.trans hK fun x hx e => by omega)
    clear hW hK
    go_wp2_with fail
    refine bodyPost_ret (by simp [results, Tryz.results27, go_sem]) rfl ⟨rfl, K2.out⟩
set_option maxRecDepth 100000 in
theorem ended_nil {w : World} :
    Calls Tryz.prog 27 #[.nilIface] w fun e w' => e = .returned (.tuple #[.int .i64 1, .nilIface]) ∧ Keeps (fun _ => False) w w' := by
  go_enter Tryz.func27, Tryz.ntmps27
  go_wp2_with fail
  refine bodyPost_ret (by simp [results, Tryz.results27, go_sem]) rfl ⟨rfl, Keeps.refl _ _⟩
theorem ended_any11 {B : Nat} {w : World} {v : Value} {k : Nat} (h : EndV B w v k) (hg : Glob w) :
    Calls Tryz.prog 27 #[v] w fun e w' => e = .returned (endedV k v) ∧ Keeps (fun _ => False) w w' := by
  rcases h.errS with ⟨rfl, rfl⟩ | ⟨h1, h2, h3⟩
  · exact ended_nil
  · have : k = 2 ∨ k = 3 ∨ k = 4 ∨ k = 5 := by omega
    rcases this with rfl | rfl | rfl | rfl
    · exact ended_num h3 hg (.inl ⟨rfl, rfl⟩)
    · exact ended_num h3 hg (.inr (.inl ⟨rfl, rfl⟩))
    · exact ended_num h3 hg (.inr (.inr (.inl ⟨rfl, rfl⟩)))
    · exact ended_num h3 hg (.inr (.inr (.inr ⟨rfl, rfl⟩)))
end Go.Proofs.YthidipigpfcbbaaGreatDoor
