/-
  Ctx.Load, Store, CAS, Alloc, Free by contract, as ask says.
-/
import Derived.Test.YtenhmficiegpiaaGreatDoorThDoes
import Derived.Laws.NewBlocks
namespace Go.Proofs.YtenhmficiegpiaaGreatDoor
open Go.RowKit Go.Extern.Stop Go.Stop Go.Extern

theorem made_at (w : World) {n : Nat} (hn : w.heap.size = n) (t : TypeId) (cs : Array Value) : Whole (w.alloc (.cells cs t)) n t cs := hn ▸ Whole.made w t cs

set_option maxRecDepth 100000 in
set_option maxHeartbeats 1000000 in
theorem ctx_load {w : World} {c t b a pl : Nat} {bv : Value} {round steps : Int} {ev : Value} {s : Rn} {Z : Nat → Prop} (h : RunM w c t b a pl bv round steps ev s Z) (few : s.log.length ≤ 4999) (hcnt : s.m.cnt < 10000) (ref : Nat) (i : Int) (hq : ref < 18446744073709551616) :
    Calls Tryz.prog 66 #[.pointer (some ⟨c, 0, none⟩), .int .u64 (ref : Int), .int .i64 i] w fun e w' => ∃ v, e = .returned (.tuple #[.int .u64 ((ask s (.load ref i)).1.word : Int), v]) ∧ Asked w c t b a pl bv round steps ev s Z (.load ref i) v w' := by
  have hmf := makes_func
  obtain ⟨W1, hW1⟩ : ∃ V, V = (w.alloc (.cells #[.int .u64 (ref : Int)] 24)).alloc (.cells #[.int .i64 i] 3) := ⟨_, rfl⟩
  have k1 : Keeps (fun _ => False) w W1 := by rw [hW1]; exact ((Keeps.refl _ w).alloc _).alloc _
  have hold : ∀ x, Z x → x < w.heap.size := by obtain ⟨_, _, h⟩ := h; exact h.old
  have hcz : Z c := by obtain ⟨_, _, h⟩ := h; exact h.cz.1
  have h0 : W1.cell? ⟨w.heap.size, 0, none⟩ = some (.int .u64 (ref : Int)) := by rw [hW1]; exact ((made_at _ (by simp) _ _).alloc _).at_ 0
  have h1 : W1.cell? ⟨w.heap.size + 1, 0, none⟩ = some (.int .i64 i) := by rw [hW1]; exact (made_at _ (by simp) _ _).at_ 0
  have hd := load_does (b := b) (a := a) (c := c) (N := w.heap.size) ref i hq (w.heap.size) (w.heap.size + 1) W1 (hold c hcz) h0 (by omega) h1 (by omega)
  have ca := Lib.hid (access_any (h.same k1) few hcnt (.load ref i) hq 79 #[.pointer (some ⟨w.heap.size, 0, none⟩), .pointer (some ⟨w.heap.size + 1, 0, none⟩)] (Go.Proofs.enters_of Tryz.func79 (by kernel_rfl) rfl) w.heap.size hold hd)
  have k1' := Lib.hid k1
  have hW1' := Lib.hid hW1
  clear h few hcnt hold hcz hd k1 hW1 h0 h1
  go_enter Tryz.func66, Tryz.ntmps66
  go_wp2_with fail
  rw [← hW1'.out]
  refine ca.out.mono ?_
  rintro e W2 ⟨v, rfl, hA⟩
  have A2 := Lib.hid hA
  generalize hE : (ask s (.load ref i)).1 = E
  have hE' := Lib.hid hE
  clear hA hE
  unfold entVal0
  go_wp2_with fail
  go_ret2
  exact ⟨v, by rw [hE'.out]; rfl, A2.out.back k1'.out ((Keeps.refl _ W2).alloc _)⟩

set_option maxRecDepth 100000 in
set_option maxHeartbeats 1000000 in
theorem ctx_store {w : World} {c t b a pl : Nat} {bv : Value} {round steps : Int} {ev : Value} {s : Rn} {Z : Nat → Prop} (h : RunM w c t b a pl bv round steps ev s Z) (few : s.log.length ≤ 4999) (hcnt : s.m.cnt < 10000) (ref : Nat) (i : Int) (x : Nat) (hq : ref < 18446744073709551616 ∧ x < 18446744073709551616) :
    Calls Tryz.prog 26 #[.pointer (some ⟨c, 0, none⟩), .int .u64 (ref : Int), .int .i64 i, .int .u64 (x : Int)] w fun e w' => ∃ v, e = .returned v ∧ Asked w c t b a pl bv round steps ev s Z (.store ref i x) v w' := by
  have hmf := makes_func
  obtain ⟨W1, hW1⟩ : ∃ V, V = ((w.alloc (.cells #[.int .u64 (ref : Int)] 24)).alloc (.cells #[.int .i64 i] 3)).alloc (.cells #[.int .u64 (x : Int)] 24) := ⟨_, rfl⟩
  have k1 : Keeps (fun _ => False) w W1 := by rw [hW1]; exact (((Keeps.refl _ w).alloc _).alloc _).alloc _
  have hold : ∀ x, Z x → x < w.heap.size := by obtain ⟨_, _, h⟩ := h; exact h.old
  have hcz : Z c := by obtain ⟨_, _, h⟩ := h; exact h.cz.1
  have h0 : W1.cell? ⟨w.heap.size, 0, none⟩ = some (.int .u64 (ref : Int)) := by rw [hW1]; exact (((made_at _ (by simp) _ _).alloc _).alloc _).at_ 0
  have h1 : W1.cell? ⟨w.heap.size + 1, 0, none⟩ = some (.int .i64 i) := by rw [hW1]; exact ((made_at _ (by simp) _ _).alloc _).at_ 0
  have h2 : W1.cell? ⟨w.heap.size + 1 + 1, 0, none⟩ = some (.int .u64 (x : Int)) := by rw [hW1]; exact (made_at _ (by simp) _ _).at_ 0
  have hd := store_does (b := b) (a := a) (c := c) (N := w.heap.size) ref i x hq (w.heap.size) (w.heap.size + 1) (w.heap.size + 1 + 1) W1 (hold c hcz) h0 (by omega) h1 (by omega) h2 (by omega)
  have ca := Lib.hid (access_any (h.same k1) few hcnt (.store ref i x) hq 43 #[.pointer (some ⟨w.heap.size, 0, none⟩), .pointer (some ⟨w.heap.size + 1, 0, none⟩), .pointer (some ⟨w.heap.size + 1 + 1, 0, none⟩)] (Go.Proofs.enters_of Tryz.func43 (by kernel_rfl) rfl) w.heap.size hold hd)
  have k1' := Lib.hid k1
  have hW1' := Lib.hid hW1
  clear h few hcnt hold hcz hd k1 hW1 h0 h1 h2
  go_enter Tryz.func26, Tryz.ntmps26
  go_wp2_with fail
  rw [← hW1'.out]
  refine ca.out.mono ?_
  rintro e W2 ⟨v, rfl, hA⟩
  have A2 := Lib.hid hA
  generalize hE : (ask s (.store ref i x)).1 = E
  have hE' := Lib.hid hE
  clear hA hE
  unfold entVal0
  go_wp2_with fail
  go_ret
  exact ⟨v, rfl, A2.out.back k1'.out ((Keeps.refl _ W2).alloc _)⟩

set_option maxRecDepth 100000 in
set_option maxHeartbeats 1000000 in
theorem ctx_cas {w : World} {c t b a pl : Nat} {bv : Value} {round steps : Int} {ev : Value} {s : Rn} {Z : Nat → Prop} (h : RunM w c t b a pl bv round steps ev s Z) (few : s.log.length ≤ 4999) (hcnt : s.m.cnt < 10000) (ref : Nat) (i : Int) (old : Nat) (next : Nat) (hq : ref < 18446744073709551616 ∧ old < 18446744073709551616 ∧ next < 18446744073709551616) :
    Calls Tryz.prog 67 #[.pointer (some ⟨c, 0, none⟩), .int .u64 (ref : Int), .int .i64 i, .int .u64 (old : Int), .int .u64 (next : Int)] w fun e w' => ∃ v, e = .returned (.tuple #[.bool (ask s (.cas ref i old next)).1.done, v]) ∧ Asked w c t b a pl bv round steps ev s Z (.cas ref i old next) v w' := by
  have hmf := makes_func
  obtain ⟨W1, hW1⟩ : ∃ V, V = (((w.alloc (.cells #[.int .u64 (ref : Int)] 24)).alloc (.cells #[.int .i64 i] 3)).alloc (.cells #[.int .u64 (old : Int)] 24)).alloc (.cells #[.int .u64 (next : Int)] 24) := ⟨_, rfl⟩
  have k1 : Keeps (fun _ => False) w W1 := by rw [hW1]; exact ((((Keeps.refl _ w).alloc _).alloc _).alloc _).alloc _
  have hold : ∀ x, Z x → x < w.heap.size := by obtain ⟨_, _, h⟩ := h; exact h.old
  have hcz : Z c := by obtain ⟨_, _, h⟩ := h; exact h.cz.1
  have h0 : W1.cell? ⟨w.heap.size, 0, none⟩ = some (.int .u64 (ref : Int)) := by rw [hW1]; exact ((((made_at _ (by simp) _ _).alloc _).alloc _).alloc _).at_ 0
  have h1 : W1.cell? ⟨w.heap.size + 1, 0, none⟩ = some (.int .i64 i) := by rw [hW1]; exact (((made_at _ (by simp) _ _).alloc _).alloc _).at_ 0
  have h2 : W1.cell? ⟨w.heap.size + 1 + 1, 0, none⟩ = some (.int .u64 (old : Int)) := by rw [hW1]; exact ((made_at _ (by simp) _ _).alloc _).at_ 0
  have h3 : W1.cell? ⟨w.heap.size + 1 + 1 + 1, 0, none⟩ = some (.int .u64 (next : Int)) := by rw [hW1]; exact (made_at _ (by simp) _ _).at_ 0
  have hd := cas_does (b := b) (a := a) (c := c) (N := w.heap.size) ref i old next hq (w.heap.size) (w.heap.size + 1) (w.heap.size + 1 + 1) (w.heap.size + 1 + 1 + 1) W1 (hold c hcz) h0 (by omega) h1 (by omega) h2 (by omega) h3 (by omega)
  have ca := Lib.hid (access_any (h.same k1) few hcnt (.cas ref i old next) hq 81 #[.pointer (some ⟨w.heap.size, 0, none⟩), .pointer (some ⟨w.heap.size + 1, 0, none⟩), .pointer (some ⟨w.heap.size + 1 + 1, 0, none⟩), .pointer (some ⟨w.heap.size + 1 + 1 + 1, 0, none⟩)] (Go.Proofs.enters_of Tryz.func81 (by kernel_rfl) rfl) w.heap.size hold hd)
  have k1' := Lib.hid k1
  have hW1' := Lib.hid hW1
  clear h few hcnt hold hcz hd k1 hW1 h0 h1 h2 h3
  go_enter Tryz.func67, Tryz.ntmps67
  go_wp2_with fail
  rw [← hW1'.out]
  refine ca.out.mono ?_
  rintro e W2 ⟨v, rfl, hA⟩
  have A2 := Lib.hid hA
  generalize hE : (ask s (.cas ref i old next)).1 = E
  have hE' := Lib.hid hE
  clear hA hE
  unfold entVal0
  go_wp2_with fail
  go_ret2
  exact ⟨v, by rw [hE'.out]; rfl, A2.out.back k1'.out ((Keeps.refl _ W2).alloc _)⟩

set_option maxRecDepth 100000 in
set_option maxHeartbeats 1000000 in
theorem ctx_alloc {w : World} {c t b a pl : Nat} {bv : Value} {round steps : Int} {ev : Value} {s : Rn} {Z : Nat → Prop} (h : RunM w c t b a pl bv round steps ev s Z) (few : s.log.length ≤ 4999) (hcnt : s.m.cnt < 10000) (i : Int) :
    Calls Tryz.prog 25 #[.pointer (some ⟨c, 0, none⟩), .int .i64 i] w fun e w' => ∃ v, e = .returned (.tuple #[.int .u64 ((ask s (.alloc i)).1.ref : Int), v]) ∧ Asked w c t b a pl bv round steps ev s Z (.alloc i) v w' := by
  have hmf := makes_func
  obtain ⟨W1, hW1⟩ : ∃ V, V = w.alloc (.cells #[.int .i64 i] 3) := ⟨_, rfl⟩
  have k1 : Keeps (fun _ => False) w W1 := by rw [hW1]; exact (Keeps.refl _ w).alloc _
  have hold : ∀ x, Z x → x < w.heap.size := by obtain ⟨_, _, h⟩ := h; exact h.old
  have hcz : Z c := by obtain ⟨_, _, h⟩ := h; exact h.cz.1
  have h0 : W1.cell? ⟨w.heap.size, 0, none⟩ = some (.int .i64 i) := by rw [hW1]; exact (made_at _ (by simp) _ _).at_ 0
  have hd := alloc_does (b := b) (a := a) (c := c) (N := w.heap.size) i trivial (w.heap.size) W1 (hold c hcz) h0 (by omega)
  have ca := Lib.hid (access_any (h.same k1) few hcnt (.alloc i) trivial 41 #[.pointer (some ⟨w.heap.size, 0, none⟩)] (Go.Proofs.enters_of Tryz.func41 (by kernel_rfl) rfl) w.heap.size hold hd)
  have k1' := Lib.hid k1
  have hW1' := Lib.hid hW1
  clear h few hcnt hold hcz hd k1 hW1 h0
  go_enter Tryz.func25, Tryz.ntmps25
  go_wp2_with fail
  rw [← hW1'.out]
  refine ca.out.mono ?_
  rintro e W2 ⟨v, rfl, hA⟩
  have A2 := Lib.hid hA
  generalize hE : (ask s (.alloc i)).1 = E
  have hE' := Lib.hid hE
  clear hA hE
  unfold entVal0
  go_wp2_with fail
  go_ret2
  exact ⟨v, by rw [hE'.out]; rfl, A2.out.back k1'.out ((Keeps.refl _ W2).alloc _)⟩

end Go.Proofs.YtenhmficiegpiaaGreatDoor
