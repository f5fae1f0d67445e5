/-
  queue: what a queue is in memory ('Qu': its line is a heap of what is in it; L: the timers in order), and New, none, Len, find by contract.
-/
import Derived.Test.YtjmkfloaagppdaaDoorQuFix
import Derived.Test.YtjmkfloaagppdaaDoorQuList
import Derived.Test.YtjmkfloaagppdaaDoorWdNo
import Derived.WalkSpells
namespace Go.Proofs.YtjmkfloaagppdaaDoor
open Go.RowKit Go.Extern.Stop Go.Stop Go.Extern

/-- Block q is a queue that has the timers L, in order; X: the blocks that it has. -/
def Qu (w : World) (q : Nat) (L : List Tm) (X : Nat → Prop) : Prop := ∃ l, Hp w q l X ∧ l.Perm L ∧ Up L

theorem Qu.keeps {w w' : World} {q : Nat} {L : List Tm} {X S : Nat → Prop} (h : Qu w q L X) (k : Keeps S w w') (hS : ∀ x, X x → ¬ S x) : Qu w' q L X := by
  obtain ⟨l, h1, h2, h3⟩ := h
  exact ⟨l, h1.keeps k hS, h2, h3⟩
theorem Qu.same {w w' : World} {q : Nat} {L : List Tm} {X : Nat → Prop} (h : Qu w q L X) (k : Keeps (fun _ => False) w w') : Qu w' q L X := h.keeps k fun _ _ => id
theorem Qu.up {w : World} {q : Nat} {L : List Tm} {X : Nat → Prop} (h : Qu w q L X) : Up L := by obtain ⟨l, _, _, h3⟩ := h; exact h3
theorem Qu.few {w : World} {q : Nat} {L : List Tm} {X : Nat → Prop} (h : Qu w q L X) : L.length ≤ 200 := by
  obtain ⟨l, h1, h2, _⟩ := h; rw [← h2.length_eq]; exact h1.1.few
theorem Qu.wf {w : World} {q : Nat} {L : List Tm} {X : Nat → Prop} (h : Qu w q L X) : ∀ t ∈ L, wfT t := by
  obtain ⟨l, h1, h2, _⟩ := h; exact fun t ht => h1.1.wf t (h2.mem_iff.2 ht)
theorem Qu.old {w : World} {q : Nat} {L : List Tm} {X : Nat → Prop} (h : Qu w q L X) : ∀ k, X k → k < w.heap.size := by
  obtain ⟨l, h1, _⟩ := h; exact h1.1.old
theorem Line.inX {w : World} {q : Nat} {l : List Tm} {X : Nat → Prop} (h : Line w q l X) : X q := by obtain ⟨mb, v, f, h⟩ := h; exact h.inX.1
theorem Qu.inX {w : World} {q : Nat} {L : List Tm} {X : Nat → Prop} (h : Qu w q L X) : X q := by
  obtain ⟨l, h1, _⟩ := h; exact h1.1.inX

theorem Line.nodup {w : World} {q : Nat} {l : List Tm} {X : Nat → Prop} (h : Line w q l X) : Once l := by
  unfold Once
  refine List.pairwise_iff_getElem.2 fun i j hi hj hij e => ?_
  rw [List.length_map] at hi hj
  rw [List.getElem_map, List.getElem_map] at e
  have := h.once (i := i) (j := j) hi hj (by rw [at_eq (List.getElem?_eq_getElem hi), at_eq (List.getElem?_eq_getElem hj)]; exact e)
  omega
theorem Qu.once {w : World} {q : Nat} {L : List Tm} {X : Nat → Prop} (h : Qu w q L X) : Once L := by
  obtain ⟨l, h1, h2, _⟩ := h; exact h1.1.nodup.perm h2

theorem new_any (w : World) :
    Calls Tryd.prog 9 #[] w fun e w' => ∃ q X, e = .returned (.pointer (some ⟨q, 0, none⟩)) ∧ Qu w' q [] X ∧ (∀ x, X x → w.heap.size ≤ x) ∧ Keeps (fun _ => False) w w' := by
  have hmm := @run_makeMap Tryd.prog
  go_enter Tryd.func9, Tryd.ntmps9
  go_wp2
  go_ret
  have hm := HoldsM.made Tryd.prog 3 plE w
  have k1 : Keeps (fun _ => False) (w.alloc (.map #[] 0)) ((w.alloc (.map #[] 0)).alloc (.cells #[.slice none 0 0, .map (some w.heap.size)] 59)) := (Keeps.refl _ _).alloc _
  refine ⟨w.heap.size + 1, fun x => x = w.heap.size + 1 ∨ x = w.heap.size, by simp, ⟨[], ⟨⟨w.heap.size, .slice none 0 0, fun _ => none, ?_⟩, fun k h0 hk => absurd hk (by simp)⟩, List.Perm.refl _, List.Pairwise.nil⟩, ?_, ((Keeps.refl _ w).alloc _).alloc _⟩
  · have hq := Whole.made (w.alloc (.map #[] 0)) 59 #[.slice none 0 0, .map (some w.heap.size)]
    rw [World.size_alloc] at hq
    refine ⟨hq, ⟨rfl, .inl ⟨rfl, rfl⟩⟩, hm.keeps k1 id, fun id k => ⟨fun h => by (cases h), fun h => absurd h.1 (by simp)⟩, by simp, fun t ht => absurd ht (by simp), ⟨.inl rfl, .inr rfl, fun g hg => by simp [Value.ownBlock] at hg⟩, ?_⟩
    rintro x (rfl | rfl)
    · simp
    · simp; omega
  · rintro x (rfl | rfl) <;> omega

set_option maxRecDepth 100000 in
theorem none_line {w : World} {q : Nat} {l : List Tm} {X : Nat → Prop} (h : Line w q l X) :
    Calls Tryd.prog 27 #[.pointer (some ⟨q, 0, none⟩)] w fun e w' => e = .returned (.bool false) ∧ w = w' := by
  obtain ⟨mb, v, f, h⟩ := h
  have c1 : w.cell? ⟨q, 1, none⟩ = some (.map (some mb)) := h.blk.at_ 1
  have hE := fun W => run_eql_map_nil (P := Tryd.prog) W 55 3 3 (some mb) Tryd.underlying55
  clear h
  go_enter Tryd.func27, Tryd.ntmps27
  go_wp2
  go_ret
  exact ⟨rfl, rfl⟩

set_option maxRecDepth 100000 in
theorem none_nil (w : World) :
    Calls Tryd.prog 27 #[.pointer none] w fun e w' => e = .returned (.bool true) ∧ w = w' := by
  go_enter Tryd.func27, Tryd.ntmps27
  go_wp2
  go_ret
  exact ⟨rfl, rfl⟩

theorem len_line {w : World} {q : Nat} {l : List Tm} {X : Nat → Prop} (h : Line w q l X) (n : Nat) (hn : l.length = n) :
    Calls Tryd.prog 13 #[.pointer (some ⟨q, 0, none⟩)] w fun e w' => e = .returned (.int .i64 n) ∧ w = w' := by
  have h1 := Lib.hid (none_line h)
  have h2 := Lib.hid (line_lenN h n hn)
  clear h hn
  go_enter Tryd.func13, Tryd.ntmps13
  go_wp2_with (first
    | (go_at_call 27; refine h1.out.mono ?_; rintro e w' ⟨rfl, rfl⟩)
    | (go_at_call 28; refine h2.out.mono ?_; rintro e w' ⟨rfl, rfl⟩))
  go_ret
  exact ⟨rfl, rfl⟩

theorem len_nil (w : World) :
    Calls Tryd.prog 13 #[.pointer none] w fun e w' => e = .returned (.int .i64 0) ∧ w = w' := by
  go_enter Tryd.func13, Tryd.ntmps13
  go_wp2_with (go_at_call 27; refine (none_nil _).mono ?_; rintro e w' ⟨rfl, rfl⟩)
  go_ret
  exact ⟨rfl, rfl⟩

theorem find_nil (id : Int) (w : World) :
    Calls Tryd.prog 35 #[.pointer none, .int .i64 id] w fun e w' => e = .returned (.tuple #[.int .i64 0, .iface 69 (.int .i64 1)]) ∧ w = w' := by
  go_enter Tryd.func35, Tryd.ntmps35
  go_wp2_with (go_at_call 27; refine (none_nil _).mono ?_; rintro e w' ⟨rfl, rfl⟩)
  exact bodyPost_ret (v := .tuple #[.int .i64 0, .iface 69 (.int .i64 1)]) (by simp [results, Tryd.results35, go_sem]) rfl ⟨rfl, rfl⟩

theorem zero_pl (W : World) : (zeroValue 3).run Tryd.prog W = .ok (plE.val ⟨0, by decide⟩) W := by kernel_rfl

/-- What a look-up by an ID tells. -/
theorem look_place {w : World} {mb : Nat} {f : Int → Option Pl} (h : HoldsM Tryd.prog 3 plE w mb f) (id : Int) (hw : (Lit.int .i64 id).wf = true) (k : Nat) (b : Bool) (hk : (f id).map (·.val) = if b then some k else none) (h0 : b = false → k = 0) :
    (Instr.lookup 55 (.map (some mb)) (.int .i64 id) true).run Tryd.prog w = .ok (.tuple #[.int .i64 k, .bool b]) w := by
  have := h.look_ok Tryd.underlying3 Tryd.underlying55 ⟨0, by decide⟩ (zero_pl _) id hw
  rw [this]
  cases hf : f id with
  | none =>
    rw [hf] at hk
    cases b with
    | true => simp at hk
    | false => rw [h0 rfl]; rfl
  | some p =>
    rw [hf] at hk
    cases b with
    | false => simp at hk
    | true =>
      simp at hk
      subst hk
      rfl

theorem find_hit {w : World} {q : Nat} {l : List Tm} {X : Nat → Prop} (h : Line w q l X) (i : Nat) (hi : i < l.length) (id : Int) (hid : (at_ l i).2 = id) :
    Calls Tryd.prog 35 #[.pointer (some ⟨q, 0, none⟩), .int .i64 id] w fun e w' => e = .returned (.tuple #[.int .i64 i, .nilIface]) ∧ w = w' := by
  have h1 := Lib.hid (none_line h)
  have few := h.few
  have hw : (Lit.int .i64 id).wf = true := by rw [← hid]; exact (h.wf _ (at_mem hi)).2
  obtain ⟨mb, v, f, h⟩ := h
  have c1 : w.cell? ⟨q, 1, none⟩ = some (.map (some mb)) := h.blk.at_ 1
  have hf : f id = some ⟨i, by omega⟩ := (h.pos id ⟨i, by omega⟩).2 ⟨hi, hid⟩
  have hlk := look_place h.map id hw i true (by rw [hf]; rfl) (by intro e; cases e)
  clear h hid hf hi
  go_enter Tryd.func35, Tryd.ntmps35
  go_wp2_with (go_at_call 27; refine h1.out.mono ?_; rintro e w' ⟨rfl, rfl⟩)
  exact bodyPost_ret (v := .tuple #[.int .i64 i, .nilIface]) (by simp [results, Tryd.results35, go_sem]) rfl ⟨rfl, rfl⟩

/-- An error that is a Fault at a place. -/
def IsFault (w : World) (e : Value) (at_ k : Int) (B : Nat) : Prop := ∃ p, B ≤ p ∧ e = .iface 71 (.pointer (some ⟨p, 0, none⟩)) ∧ Whole w p 73 #[.int .i64 at_, .int .i64 k]

theorem find_miss {w : World} {q : Nat} {l : List Tm} {X : Nat → Prop} (h : Line w q l X) (id : Int) (hw : (Lit.int .i64 id).wf = true) (hn : ∀ u ∈ l, u.2 ≠ id) :
    Calls Tryd.prog 35 #[.pointer (some ⟨q, 0, none⟩), .int .i64 id] w fun e w' => ∃ er, e = .returned (.tuple #[.int .i64 0, er]) ∧ IsFault w' er id 6 w.heap.size ∧ Keeps (fun _ => False) w w' := by
  have h1 := Lib.hid (none_line h)
  obtain ⟨mb, v, f, h⟩ := h
  have c1 : w.cell? ⟨q, 1, none⟩ = some (.map (some mb)) := h.blk.at_ 1
  have hf := (h.pos.lacks h.few id).2 hn
  have hlk := look_place h.map id hw 0 false (by rw [hf]; rfl) (fun _ => rfl)
  clear h hf hn
  go_enter Tryd.func35, Tryd.ntmps35
  go_wp2_with (go_at_call 27; refine h1.out.mono ?_; rintro e w' ⟨rfl, rfl⟩)
  exact bodyPost_ret (v := .tuple #[.int .i64 0, .iface 71 (.pointer (some ⟨w.heap.size, 0, none⟩))]) (by simp [results, Tryd.results35, go_sem]) rfl ⟨_, rfl, ⟨_, Nat.le_refl _, rfl, Whole.made _ _ _⟩, (Keeps.refl _ w).alloc _⟩
end Go.Proofs.YtjmkfloaagppdaaDoor
