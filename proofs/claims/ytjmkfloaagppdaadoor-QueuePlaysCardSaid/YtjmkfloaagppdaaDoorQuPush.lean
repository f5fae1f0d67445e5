/-
  queue: (*line).Push and Pop by contract.
-/
import Derived.Test.YtjmkfloaagppdaaDoorQuSelf
import Derived.Test.YtjmkfloaagppdaaDoorQuApp
import Derived.Test.YtjmkfloaagppdaaDoorQuDel
import Derived.Deep.RegionLaw
namespace Go.Proofs.YtjmkfloaagppdaaDoor
open Go.RowKit Go.Extern.Stop Go.Stop Go.Extern

theorem assert_timer (v : Value) (w : World) : (Instr.typeAssert (.iface 31 v) 20 31 true).run Tryd.prog w = .ok (.tuple #[v, .bool true]) w := by kernel_rfl

theorem Pos.snoc {f : Int → Option Pl} {l : List Tm} (h : Pos f l) (few : l.length < 200) (t : Tm) (hf : f t.2 = .none) : Pos (upd f t.2 ⟨l.length, by omega⟩) (l ++ [t]) := by
  have hn := (h.lacks (by omega) t.2).1 hf
  have e : ∀ k, k < l.length → at_ (l ++ [t]) k = at_ l k := fun k hk => at_eq (by rw [List.getElem?_append_left hk]; exact at_some hk)
  have e0 : at_ (l ++ [t]) l.length = t := at_eq (by simp)
  intro id k
  by_cases c : id = t.2
  · subst c
    simp only [upd, if_true]
    constructor
    · intro hk
      injection hk with hk
      subst hk
      exact ⟨by simp, by rw [e0]⟩
    · rintro ⟨h1, h2⟩
      rcases Nat.lt_or_ge k.val l.length with h3 | h3
      · rw [e _ h3] at h2
        exact absurd h2 (hn _ (at_mem h3))
      · congr 1
        apply Fin.ext
        simp at h1
        show l.length = k.val
        omega
  · simp only [upd, if_neg c]
    rw [h id k]
    constructor
    · rintro ⟨h1, h2⟩
      exact ⟨by simp; omega, by rw [e _ h1]; exact h2⟩
    · rintro ⟨h1, h2⟩
      rcases Nat.lt_or_ge k.val l.length with h3 | h3
      · exact ⟨h3, by rw [← e _ h3]; exact h2⟩
      · have h4 : k.val = l.length := by simp at h1; omega
        rw [h4, e0] at h2
        exact absurd h2.symm c

theorem blk_grown {w w' : World} {q : Nat} {ty : TypeId} {cs : Array Value} {row : Option Nat} (h : Whole w q ty cs) (hG : w.grownBy w' row) (hne : ¬ row = some q) : Whole w' q ty cs :=
  (hG.block q h.lt fun e => hne e.symm).trans h

/-- Behind the map's update, the append and the store of the row. -/
theorem push_line {w W2 V : World} {q mb n c cap : Nat} {o ao : Option Addr} {f : Int → Option Pl} {l : List Tm} {X : Nat → Prop} {t : Tm} (ob : Obj) (h : LineP w q mb (.slice o n c) f l X) (hn : l.length = n) (few : n < 200) (hw : wfT t) (hf : f t.2 = .none) (h62 : n < 4611686018427387904)
    (K2 : Keeps (fun x => x = mb) w W2) (M2 : HoldsM Tryd.prog 3 plE W2 mb (upd f t.2 ⟨n, h62⟩)) (hO : TRow V (.slice ao (n + 1) cap) (l ++ [t])) (hG : (W2.alloc ob).drew.grownBy V (Value.slice o n c).ownBlock) (hloc : (Value.slice ao (n + 1) cap).ownBlock = (Value.slice o n c).ownBlock ∨ (Value.slice ao (n + 1) cap).ownBlock = some (W2.alloc ob).drew.heap.size) :
    Whole V q 59 #[.slice o n c, .map (some mb)] ∧ (∃ X', Line (V.setCell ⟨q, 0, none⟩ (.slice ao (n + 1) cap)) q (l ++ [t]) X' ∧ ∀ x, X' x → X x ∨ w.heap.size ≤ x) ∧ Keeps X w (V.setCell ⟨q, 0, none⟩ (.slice ao (n + 1) cap)) := by
  have b2 := h.blk.keeps K2 (h.blk.ne_map h.map)
  have hqm : ¬ q = mb := h.blk.ne_map h.map
  have hrq : ¬ (Value.slice o n c).ownBlock = some q := row_ne h.row h.blk (by decide)
  have hrm : ¬ (Value.slice o n c).ownBlock = some mb := row_ne_map h.row h.map
  have KG : Keeps (fun x => (Value.slice o n c).ownBlock = some x) (W2.alloc ob).drew V := (Keeps.refl _ _).grown hG fun k hk _ => hk
  have KA : Keeps (fun _ => False) W2 (W2.alloc ob).drew := ((Keeps.refl _ W2).alloc ob).drew
  have vb := (b2.keeps KA id).keeps KG hrq
  have vm := (M2.keeps KA id).keeps KG hrm
  have kV : Keeps X w V := ((K2.mono fun x _ e => by subst e; exact h.inX.2.1 : Keeps X w W2).trans KA fun _ _ => False.elim).trans KG fun x _ e => h.inX.2.2 x e
  have nq : ¬ (Value.slice ao (n + 1) cap).ownBlock = some q := row_ne hO vb (by decide)
  have kS : Keeps (fun x => x = q) V (V.setCell ⟨q, 0, none⟩ (.slice ao (n + 1) cap)) := (Keeps.refl (fun x => x = q) V).setCell (p := ⟨q, 0, none⟩) (fun _ => rfl) _
  have hX : ∀ x, (X x ∨ (Value.slice ao (n + 1) cap).ownBlock = some x) → X x ∨ w.heap.size ≤ x := by
    rintro x (hx | hx)
    · exact .inl hx
    · rcases hloc with e | e
      · exact .inl (h.inX.2.2 x (by rw [← e]; exact hx))
      · right
        rw [e] at hx
        injection hx with hx
        have := K2.size
        have := KA.size
        omega
  refine ⟨vb, ⟨fun x => X x ∨ (Value.slice ao (n + 1) cap).ownBlock = some x, ⟨mb, .slice ao (n + 1) cap, upd f t.2 ⟨n, h62⟩, ?_⟩, hX⟩, kV.setCell (p := ⟨q, 0, none⟩) (fun _ => h.inX.1) _⟩
  refine { blk := ?_, row := ownsRow_keeps hO kS fun g hg e => nq (by rw [hg, e]), map := vm.keeps kS fun e => hqm e.symm, pos := ?_, few := by rw [List.length_append, List.length_singleton]; omega, wf := ?_, inX := ⟨.inl h.inX.1, .inl h.inX.2.1, fun g hg => .inr hg⟩, old := ?_ }
  · have := vb.set_ 0 (.slice ao (n + 1) cap)
    simpa using this
  · subst hn
    exact h.pos.snoc few t hf
  · intro x hx
    rcases List.mem_append.1 hx with hx | hx
    · exact h.wf x hx
    · rw [List.mem_singleton.1 hx]; exact hw
  · rintro x (hx | hx)
    · exact Nat.lt_of_lt_of_le (h.old x hx) (Nat.le_trans kV.size kS.size)
    · exact Nat.lt_of_lt_of_le (hO.lt x hx).2 kS.size

set_option maxRecDepth 100000 in
theorem line_push {w : World} {q : Nat} {l : List Tm} {X : Nat → Prop} (h : Line w q l X) (t : Tm) (hw : wfT t) (few : l.length < 200) (hn : ∀ u ∈ l, u.2 ≠ t.2) :
    Calls Tryd.prog 99 #[.pointer (some ⟨q, 0, none⟩), .iface 31 (tmVal t)] w fun e w' => e = .returned (.tuple #[]) ∧ (∃ X', Line w' q (l ++ [t]) X' ∧ ∀ x, X' x → X x ∨ w.heap.size ≤ x) ∧ Keeps X w w' := by
  obtain ⟨mb, v, f, h⟩ := h
  obtain ⟨o, c, rfl, _⟩ := TRow.shape h.row
  have c0 : w.cell? ⟨q, 0, none⟩ = some (.slice o l.length c) := h.blk.at_ 0
  have c1 : w.cell? ⟨q, 1, none⟩ = some (.map (some mb)) := h.blk.at_ 1
  have hf := (h.pos.lacks h.few t.2).2 hn
  have hA := assert_timer
  have lt' := few
  obtain ⟨n, hnn⟩ : ∃ n, l.length = n := ⟨_, rfl⟩
  have h62 : n < 4611686018427387904 := by omega
  have hkeys := Lib.hid h.pos.keys
  have hlen : (l.map (·.2)).length ≤ 200 := by rw [List.length_map]; omega
  obtain ⟨W1, hW1⟩ : ∃ W, W = (w.alloc (.cells #[.int .i64 t.1, .int .i64 t.2] 31)).drew := ⟨_, rfl⟩
  have k1 : Keeps (fun _ => False) w W1 := by rw [hW1]; exact ((Keeps.refl _ w).alloc _).drew
  have mT : Whole W1 w.heap.size 31 #[.int .i64 t.1, .int .i64 t.2] := by rw [hW1]; exact (Whole.made _ _ _).drew
  have h1 := h.keeps k1 fun _ _ => id
  have d0 : W1.cell? ⟨q, 0, none⟩ = some (.slice o n c) := by rw [← hnn]; exact h1.blk.at_ 0
  have d1 : W1.cell? ⟨q, 1, none⟩ = some (.map (some mb)) := h1.blk.at_ 1
  have d2 : W1.cell? ⟨w.heap.size, 1, none⟩ = some (.int .i64 t.2) := mT.at_ 1
  have wt := hw.2
  have h' := Lib.hid h
  have h1' := Lib.hid h1
  have h1n := Lib.hid (show LineP W1 q mb (.slice o n c) f l X by rw [← hnn]; exact h1)
  have hW1' := Lib.hid hW1
  have mT' := Lib.hid mT
  have k1' := Lib.hid k1
  rw [hnn] at few
  have hnn' := Lib.hid hnn
  clear h h1 hW1 mT k1 c0 c1 lt' hnn
  unfold tmVal
  go_enter Tryd.func99, Tryd.ntmps99
  go_wp2_with fail
  refine still_tail_at 11 (by kernel_rfl) (by kernel_rfl) W1 hW1'.out ?_
  simp only [List.take_succ_cons, List.take_zero, List.drop_succ_cons, List.drop_zero]
  repeat still_step
  refine wpStill_nil ?_
  clear d0 d1 d2
  go_wp2_with (first | (at_mapUpdate; refine wpList_upd _ rfl _ _ _ 55 rfl 3 3 plE Tryd.underlying3 Tryd.underlying55 mb f rfl h1'.out.map _ hkeys.out (by unfold maxLen; omega) t.2 rfl wt ⟨n, h62⟩ rfl ?_; intro W2 hM2 hG2; have M2 := Lib.hid hM2; have K2 := Lib.hid (Keeps.of_grown hG2); clear hM2 hG2))
  have mT2 := mT'.out.keeps K2.out (fun e => by have := h'.out.map.lt; omega)
  have b2 := (h1'.out.blk.keeps K2.out (h1'.out.blk.ne_map h1'.out.map))
  have row2 := Lib.hid (ownsRow_keeps h1'.out.row K2.out fun g hg e => row_ne_map h1'.out.row h1'.out.map (by rw [hg, e]))
  have hqb : ¬ q = w.heap.size := by have := h'.out.blk.lt; omega
  have e0 : W2.cell? ⟨q, 0, none⟩ = some (.slice o n c) := by rw [← hnn'.out]; exact b2.at_ 0
  have e1 : W2.cell? ⟨w.heap.size, 0, none⟩ = some (.int .i64 t.1) := mT2.at_ 0
  have e2 : W2.cell? ⟨w.heap.size, 1, none⟩ = some (.int .i64 t.2) := mT2.at_ 1
  have eA : (W2.alloc (.cells #[.int .i64 t.1, .int .i64 t.2] 31)).cell? ⟨q, 0, none⟩ = some (.slice o n c) := by rw [← hnn'.out]; exact (b2.alloc _).at_ 0
  have fq : W2.frozen? ⟨q, 0, none⟩ = false := b2.free 0
  have b2' := Lib.hid b2
  clear mT2 b2
  go_region_law (first
    | (refine step_append_tms rfl _ _ rfl (.slice o l.length c) l [t] (by rw [hnn'.out]; rfl) ((row2.out.alloc (.cells #[.int .i64 t.1, .int .i64 t.2] 31)).drew) ⟨W2.heap.size, 0, none⟩ 1 _ rfl rfl (one_timer ((Whole.made W2 31 #[.int .i64 t.1, .int .i64 t.2]).drew)) (n + 1) (by rw [hnn'.out]) (by omega) ?_
       intro ao cap V hO hG hloc
       have hPL := Lib.hid (push_line _ h1n.out hnn'.out few hw hf h62 K2.out M2.out hO (by rw [hnn'.out] at hG; exact hG) (by rw [hnn'.out] at hloc; exact hloc))
       have v0 : V.cell? ⟨q, 0, none⟩ = some (.slice o n c) := hPL.out.1.at_ 0
       have vf : V.frozen? ⟨q, 0, none⟩ = false := hPL.out.1.free 0
       clear hO hG hloc))
  all_goals
    go_wp2_with fail
    go_end0
    obtain ⟨X', hL, hX⟩ := hPL.out.2.1
    exact ⟨rfl, ⟨X', hL, fun x hx => (hX x hx).imp id fun h => Nat.le_trans k1'.out.size h⟩, (k1'.out.mono fun _ _ => False.elim : Keeps X w W1).trans_ hPL.out.2.2⟩
end Go.Proofs.YtjmkfloaagppdaaDoor
