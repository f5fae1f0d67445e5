/-
  queue: Push, Cancel, Move, Next by contract.
-/
import Derived.Test.YtjmkfloaagppdaaDoorQuQueue
namespace Go.Proofs.YtjmkfloaagppdaaDoor
open Go.RowKit Go.Extern.Stop Go.Stop Go.Extern

/-- What a queue that changed is. -/
def Went (w : World) (q : Nat) (L' : List Tm) (X : Nat → Prop) (w' : World) : Prop := (∃ X', Qu w' q L' X' ∧ ∀ x, X' x → X x ∨ w.heap.size ≤ x) ∧ Keeps X w w'

/-- The same, in the blocks that it had. -/
def Stayed (w : World) (q : Nat) (L' : List Tm) (X : Nat → Prop) (w' : World) : Prop := Qu w' q L' X ∧ Keeps X w w'
theorem Stayed.went {w w' : World} {q : Nat} {L' : List Tm} {X : Nat → Prop} (h : Stayed w q L' X w') : Went w q L' X w' := ⟨⟨X, h.1, fun _ h => .inl h⟩, h.2⟩

theorem Qu.lacks {w : World} {q : Nat} {l L : List Tm} {X : Nat → Prop} (_h : Line w q l X) (hp : l.Perm L) {id : Int} (hn : ∀ u ∈ L, u.2 ≠ id) : ∀ u ∈ l, u.2 ≠ id := fun u hu => hn u (hp.mem_iff.1 hu)

theorem Up.put {l l' L : List Tm} {t : Tm} (hp : l.Perm L) (hU : Up L) (hn : ∀ u ∈ L, u.2 ≠ t.2) (h : l'.Perm (t :: l)) : l'.Perm (ins t L) ∧ Up (ins t L) :=
  ⟨h.trans ((hp.cons t).trans (ins_perm t L).symm), ins_up hU hn⟩

/-- The place of an ID, or none, behind a look-up. -/
def placed (l : List Tm) (id : Int) (k : Nat) (b : Bool) : Prop := if b then k < l.length ∧ (at_ l k).2 = id else k = 0 ∧ ∀ u ∈ l, u.2 ≠ id

theorem Line.look {w : World} {q : Nat} {l : List Tm} {X : Nat → Prop} (h : Line w q l X) {id : Int} {k : Nat} {b : Bool} (hb : placed l id k b) (hw : (Lit.int .i64 id).wf = true) :
    ∃ mb, w.cell? ⟨q, 1, none⟩ = some (.map (some mb)) ∧ ∀ w', Keeps (fun _ => False) w w' → (Instr.lookup 55 (.map (some mb)) (.int .i64 id) true).run Tryd.prog w' = .ok (.tuple #[.int .i64 k, .bool b]) w' := by
  obtain ⟨mb, v, f, h⟩ := h
  refine ⟨mb, h.blk.at_ 1, fun w' k' => look_place (h.map.keeps k' fun h => h) id hw k b ?_ ?_⟩
  · cases b with
    | true =>
      obtain ⟨h1, h2⟩ := hb
      rw [(h.pos id ⟨k, by have := h.few; omega⟩).2 ⟨h1, h2⟩]
      rfl
    | false =>
      obtain ⟨_, h2⟩ := hb
      rw [(h.pos.lacks h.few id).2 h2]
      rfl
  · rintro rfl
    exact hb.1

set_option maxRecDepth 100000 in
theorem push_ok {w : World} {q : Nat} {L : List Tm} {X : Nat → Prop} (h : Qu w q L X) (t : Tm) (hw : wfT t) (few : L.length < 200) (hn : ∀ u ∈ L, u.2 ≠ t.2) :
    Calls Tryd.prog 17 #[.pointer (some ⟨q, 0, none⟩), tmVal t] w fun e w' => e = .returned .nilIface ∧ Went w q (ins t L) X w' := by
  obtain ⟨l, hp, hperm, hU⟩ := h
  have hlen : l.length = L.length := hperm.length_eq
  have hn' : ∀ u ∈ l, u.2 ≠ t.2 := fun u hu => hn u (hperm.mem_iff.1 hu)
  obtain ⟨W1, hW1⟩ : ∃ W, W = w.alloc (.cells #[.int .i64 t.1, .int .i64 t.2] 31) := ⟨_, rfl⟩
  have k1 : Keeps (fun _ => False) w W1 := by rw [hW1]; exact (Keeps.refl _ w).alloc _
  have mT : Whole W1 w.heap.size 31 #[.int .i64 t.1, .int .i64 t.2] := by rw [hW1]; exact Whole.made _ _ _
  have h1 := hp.keeps k1 fun _ _ => id
  have kd : Keeps (fun _ => False) W1 W1.drew := (Keeps.refl _ W1).drew
  have kdd : Keeps (fun _ => False) W1 W1.drew.drew := kd.drew
  have cn := Lib.hid (none_line h1.1)
  have cl := Lib.hid (len_line (h1.1.same kd) L.length hlen)
  have cp := Lib.hid (heap_push (h1.keeps kdd fun _ _ => id) t hw (by rw [hlen]; exact few) hn')
  obtain ⟨mb, d1, hlk⟩ := h1.1.look (id := t.2) (k := 0) (b := false) ⟨rfl, hn'⟩ hw.2
  have hlk2 := hlk W1.drew kd
  have f1 : W1.cell? ⟨w.heap.size, 0, none⟩ = some (.int .i64 t.1) := mT.at_ 0
  have f2 : W1.cell? ⟨w.heap.size, 1, none⟩ = some (.int .i64 t.2) := mT.at_ 1
  have hW1' := Lib.hid hW1
  have k1' := Lib.hid k1
  have P' := Lib.hid hperm
  have U' := Lib.hid hU
  have N' := Lib.hid hn
  have lt : (L.length : Int) < 200 := by omega
  generalize L.length = n at cl lt
  clear h1 hlk hp hperm hU hn hn' hlen k1 mT kd kdd few hw
  have e0 : tmVal t = .agg #[.int .i64 t.1, .int .i64 t.2] := rfl
  rw [e0] at cp ⊢
  go_enter Tryd.func17, Tryd.ntmps17
  go_wp2_with fail
  rw [← hW1]
  clear hW1
  go_wp2_with (first
    | (go_at_call 27; refine cn.out.mono ?_; rintro e w' ⟨rfl, rfl⟩))
  go_region
  go_wp2_with (first
    | (go_at_call 13; refine cl.out.mono ?_; rintro e w' ⟨rfl, rfl⟩))
  refine still_tail_at 6 (by kernel_rfl) (by kernel_rfl) _ rfl ?_
  simp only [List.take_succ_cons, List.take_zero, List.drop_succ_cons, List.drop_zero]
  repeat still_step
  refine wpStill_nil ?_
  clear d1 hlk2 f1 f2
  go_wp2_with (first
    | (go_at_call 33; refine cp.out.mono ?_; rintro e w2 ⟨rfl, ⟨l2, X2, hL, hpm, hX⟩, hK⟩; have L2 := Lib.hid hL; have P2 := Lib.hid hpm; have X2' := Lib.hid hX; have K2 := Lib.hid hK; clear hL hpm hX hK))
  go_ret
  have hu := Up.put P'.out U'.out N'.out P2.out
  exact ⟨rfl, ⟨X2, ⟨l2, L2.out, hu⟩, fun x hx => (X2'.out x hx).imp id fun h => Nat.le_trans k1'.out.size h⟩, ((k1'.out.drew.drew).mono fun _ _ => False.elim).trans_ K2.out⟩

theorem at_of_mem {l : List Tm} {t : Tm} (h : t ∈ l) : ∃ k, k < l.length ∧ at_ l k = t := by
  obtain ⟨k, hk, e⟩ := List.getElem_of_mem h
  exact ⟨k, hk, at_eq (by rw [List.getElem?_eq_getElem hk, e])⟩

set_option maxRecDepth 100000 in
theorem push_there {w : World} {q : Nat} {L : List Tm} {X : Nat → Prop} (h : Qu w q L X) (t : Tm) (hw : wfT t) (u : Tm) (hu : u ∈ L) (he : u.2 = t.2) :
    Calls Tryd.prog 17 #[.pointer (some ⟨q, 0, none⟩), tmVal t] w fun e w' => ∃ er, e = .returned er ∧ IsFault w' er t.2 7 w.heap.size ∧ Keeps (fun _ => False) w w' := by
  obtain ⟨l, hp, hperm, _⟩ := h
  obtain ⟨k, hk, hku⟩ := at_of_mem (hperm.mem_iff.2 hu)
  obtain ⟨W1, hW1⟩ : ∃ W, W = w.alloc (.cells #[.int .i64 t.1, .int .i64 t.2] 31) := ⟨_, rfl⟩
  have k1 : Keeps (fun _ => False) w W1 := by rw [hW1]; exact (Keeps.refl _ w).alloc _
  have mT : Whole W1 w.heap.size 31 #[.int .i64 t.1, .int .i64 t.2] := by rw [hW1]; exact Whole.made _ _ _
  have h1 := hp.keeps k1 fun _ _ => id
  have kd : Keeps (fun _ => False) W1 W1.drew := (Keeps.refl _ W1).drew
  have cn := Lib.hid (none_line h1.1)
  obtain ⟨mb, d1, hlk⟩ := h1.1.look (id := t.2) (k := k) (b := true) ⟨hk, by rw [hku]; exact he⟩ hw.2
  have hlk2 := hlk W1.drew kd
  have f2 : W1.cell? ⟨w.heap.size, 1, none⟩ = some (.int .i64 t.2) := mT.at_ 1
  have k1' := Lib.hid k1
  clear h1 hlk hp hperm hu he hku hk k1 mT kd hw
  unfold tmVal
  go_enter Tryd.func17, Tryd.ntmps17
  go_wp2_with fail
  rw [← hW1]
  clear hW1
  go_wp2_with (first
    | (go_at_call 27; refine cn.out.mono ?_; rintro e w' ⟨rfl, rfl⟩))
  go_region
  go_wp2_with fail
  go_ret
  exact ⟨_, rfl, ⟨_, by show w.heap.size ≤ W1.heap.size; exact k1'.out.size, rfl, Whole.made _ _ _⟩, k1'.out.drew.alloc _⟩

set_option maxRecDepth 100000 in
theorem push_full {w : World} {q : Nat} {L : List Tm} {X : Nat → Prop} (h : Qu w q L X) (t : Tm) (hw : wfT t) (full : L.length = 200) (hn : ∀ u ∈ L, u.2 ≠ t.2) :
    Calls Tryd.prog 17 #[.pointer (some ⟨q, 0, none⟩), tmVal t] w fun e w' => e = .returned (.iface 69 (.int .i64 8)) ∧ Keeps (fun _ => False) w w' := by
  obtain ⟨l, hp, hperm, _⟩ := h
  have hlen : l.length = L.length := hperm.length_eq
  have hn' : ∀ u ∈ l, u.2 ≠ t.2 := fun u hu => hn u (hperm.mem_iff.1 hu)
  obtain ⟨W1, hW1⟩ : ∃ W, W = w.alloc (.cells #[.int .i64 t.1, .int .i64 t.2] 31) := ⟨_, rfl⟩
  have k1 : Keeps (fun _ => False) w W1 := by rw [hW1]; exact (Keeps.refl _ w).alloc _
  have mT : Whole W1 w.heap.size 31 #[.int .i64 t.1, .int .i64 t.2] := by rw [hW1]; exact Whole.made _ _ _
  have h1 := hp.keeps k1 fun _ _ => id
  have kd : Keeps (fun _ => False) W1 W1.drew := (Keeps.refl _ W1).drew
  have cn := Lib.hid (none_line h1.1)
  have cl := Lib.hid (len_line (h1.1.same kd) 200 (hlen.trans full))
  obtain ⟨mb, d1, hlk⟩ := h1.1.look (id := t.2) (k := 0) (b := false) ⟨rfl, hn'⟩ hw.2
  have hlk2 := hlk W1.drew kd
  have f2 : W1.cell? ⟨w.heap.size, 1, none⟩ = some (.int .i64 t.2) := mT.at_ 1
  have k1' := Lib.hid k1
  clear h1 hlk hp hperm hn hn' hlen k1 mT kd hw full
  unfold tmVal
  go_enter Tryd.func17, Tryd.ntmps17
  go_wp2_with fail
  rw [← hW1]
  clear hW1
  go_wp2_with (first
    | (go_at_call 27; refine cn.out.mono ?_; rintro e w' ⟨rfl, rfl⟩))
  go_region
  go_wp2_with (first
    | (go_at_call 13; refine cl.out.mono ?_; rintro e w' ⟨rfl, rfl⟩))
  go_ret
  exact ⟨rfl, k1'.out.drew⟩

theorem push_nil (t : Tm) (w : World) :
    Calls Tryd.prog 17 #[.pointer none, tmVal t] w fun e w' => e = .returned (.iface 69 (.int .i64 1)) ∧ Keeps (fun _ => False) w w' := by
  unfold tmVal
  go_enter Tryd.func17, Tryd.ntmps17
  go_wp2_with (go_at_call 27; refine (none_nil _).mono ?_; rintro e w' ⟨rfl, rfl⟩)
  go_ret
  exact ⟨rfl, (Keeps.refl _ w).alloc _⟩

/-! ### Cancel -/
theorem Qu.after_gone {w w' : World} {q : Nat} {l L : List Tm} {X : Nat → Prop} {t : Tm} {e : Ending} (h : Gone w q l X t e w') (hp : l.Perm L) (hU : Up L) (ho : Once l) : Stayed w q (del t.2 L) X w' := by
  obtain ⟨_, ⟨l', hH, hpm⟩, hK⟩ := h
  refine ⟨⟨l', hH, ?_, del_up hU⟩, hK⟩
  exact del_of_perm ((ho.perm hpm.symm)) (hpm.trans hp)

set_option maxRecDepth 100000 in
theorem cancel_ok {w : World} {q : Nat} {L : List Tm} {X : Nat → Prop} (h : Qu w q L X) (id : Int) (u : Tm) (hu : u ∈ L) (he : u.2 = id) :
    Calls Tryd.prog 20 #[.pointer (some ⟨q, 0, none⟩), .int .i64 id] w fun e w' => e = .returned .nilIface ∧ Stayed w q (del id L) X w' := by
  obtain ⟨l, hp, hperm, hU⟩ := h
  obtain ⟨k, hk, hku⟩ := at_of_mem (hperm.mem_iff.2 hu)
  have cf := Lib.hid (find_hit hp.1 k hk id (by rw [hku]; exact he))
  have cr := Lib.hid (heap_remove hp k hk)
  rw [hku] at cr
  have P' := Lib.hid hperm
  have U' := Lib.hid hU
  have O' := Lib.hid hp.1.nodup
  have hE := Lib.hid he
  clear hp hperm hU hu hk hku he
  go_enter Tryd.func20, Tryd.ntmps20
  go_wp2_with (first
    | (go_at_call 35; refine cf.out.mono ?_; rintro e w' ⟨rfl, rfl⟩)
    | (go_at_call 36; refine cr.out.mono ?_; rintro e w2 hG; have G2 := Lib.hid hG; obtain ⟨rfl, _⟩ := hG))
  go_ret
  have := Qu.after_gone G2.out P'.out U'.out O'.out
  rw [hE.out] at this
  exact ⟨rfl, this⟩

set_option maxRecDepth 100000 in
theorem cancel_miss {w : World} {q : Nat} {L : List Tm} {X : Nat → Prop} (h : Qu w q L X) (id : Int) (hw : (Lit.int .i64 id).wf = true) (hn : ∀ u ∈ L, u.2 ≠ id) :
    Calls Tryd.prog 20 #[.pointer (some ⟨q, 0, none⟩), .int .i64 id] w fun e w' => ∃ er, e = .returned er ∧ IsFault w' er id 6 w.heap.size ∧ Keeps (fun _ => False) w w' := by
  obtain ⟨l, hp, hperm, hU⟩ := h
  have cf := Lib.hid (find_miss hp.1 id hw (Qu.lacks hp.1 hperm hn))
  have hE := fun p W => run_eql_held_nil (P := Tryd.prog) W 44 71 (.pointer (some ⟨p, 0, none⟩)) Tryd.underlying44
  clear hp hperm hU hn
  go_enter Tryd.func20, Tryd.ntmps20
  go_wp2_with (first
    | (go_at_call 35; refine cf.out.mono ?_; rintro e w2 ⟨er, rfl, hF, hK⟩; have F2 := Lib.hid hF; have K2 := Lib.hid hK; obtain ⟨p, _, rfl, _⟩ := hF; clear hK))
  go_ret
  exact ⟨_, rfl, F2.out, K2.out⟩

theorem cancel_nil (id : Int) (w : World) :
    Calls Tryd.prog 20 #[.pointer none, .int .i64 id] w fun e w' => e = .returned (.iface 69 (.int .i64 1)) ∧ w = w' := by
  go_enter Tryd.func20, Tryd.ntmps20
  go_wp2_with (go_at_call 35; refine (find_nil _ _).mono ?_; rintro e w' ⟨rfl, rfl⟩)
  go_ret
  exact ⟨rfl, rfl⟩
end Go.Proofs.YtjmkfloaagppdaaDoor
