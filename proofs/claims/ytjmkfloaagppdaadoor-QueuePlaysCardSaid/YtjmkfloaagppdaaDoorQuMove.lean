/-
  queue: Move and Next by contract.
-/
import Derived.Test.YtjmkfloaagppdaaDoorQuOps
namespace Go.Proofs.YtjmkfloaagppdaaDoor
open Go.RowKit Go.Extern.Stop Go.Stop Go.Extern

theorem set_same {α : Type} {l : List α} {k : Nat} {v : α} (h : l[k]? = some v) : l.set k v = l := by
  apply List.ext_getElem? fun j => ?_
  rw [List.getElem?_set]
  by_cases c : k = j
  · subst c
    rw [if_pos rfl]
    by_cases hk : k < l.length
    · rw [if_pos hk, h]
    · rw [List.getElem?_eq_none (by omega)] at h; cases h
  · rw [if_neg c]

theorem tmCells_setWhen (l : List Tm) (k : Nat) (h : k < l.length) (x : Int) : (tmCells l).set (k * 2) (.int .i64 x) = tmCells (l.set k (x, (at_ l k).2)) := by
  rw [← tmCells_set l k h (x, (at_ l k).2)]
  refine (set_same ?_).symm
  rw [List.getElem?_set_ne (by omega)]
  exact tmCells_id l k h

theorem at_set {l : List Tm} {i : Nat} (hi : i < l.length) (t : Tm) (k : Nat) : at_ (l.set i t) k = if k = i then t else at_ l k := by
  by_cases c : k = i
  · subst c; rw [if_pos rfl]; exact at_eq (List.getElem?_set_self hi)
  · rw [if_neg c]
    unfold at_
    simp only [List.getD]
    rw [List.getElem?_set_ne (Ne.symm c)]

/-- A timer's time is stored anew. -/
theorem LineP.setWhen {w : World} {q mb g c i : Nat} {f : Int → Option Pl} {l : List Tm} {X : Nat → Prop} (h : LineP w q mb (.slice (some ⟨g, 0, none⟩) l.length c) f l X) (hi : i < l.length) (x : Int) (hx : (Lit.int .i64 x).wf = true) :
    Line (w.setCell ⟨g, i * 2, none⟩ (.int .i64 x)) q (l.set i (x, (at_ l i).2)) X ∧ Keeps X w (w.setCell ⟨g, i * 2, none⟩ (.int .i64 x)) := by
  have k : Keeps (fun y => y = g) w (w.setCell ⟨g, i * 2, none⟩ (.int .i64 x)) := (Keeps.refl (fun y => y = g) w).setCell (p := ⟨g, i * 2, none⟩) (fun _ => rfl) _
  have hgq : ¬ q = g := fun e => row_ne h.row h.blk (by decide) (by rw [e]; rfl)
  have hgm : ¬ mb = g := fun e => row_ne_map h.row h.map (by rw [e]; rfl)
  have r1 := (h.row.stored (i * 2) (.int .i64 x)).1
  rw [tmCells_setWhen l i hi x] at r1
  refine ⟨⟨mb, _, f, { blk := h.blk.keeps k hgq, row := ?_, map := h.map.keeps k hgm, pos := ?_, few := by rw [List.length_set]; exact h.few, wf := ?_, inX := h.inX, old := fun y hy => Nat.lt_of_lt_of_le (h.old y hy) k.size }⟩, k.mono fun y _ e => by subst e; exact h.inX.2.2 _ rfl⟩
  · show World.ownsRow _ _ _ _ _ (l.set i (x, (at_ l i).2)).length _
    rw [List.length_set]
    exact r1
  · intro id p
    rw [h.pos id p, List.length_set, at_set hi]
    by_cases c : p.val = i
    · rw [if_pos c, c]
    · rw [if_neg c]
  · intro t ht
    obtain ⟨j, hj, rfl⟩ := at_of_mem ht
    rw [List.length_set] at hj
    rw [at_set hi]
    by_cases c : j = i
    · rw [if_pos c]; exact ⟨hx, (h.wf _ (at_mem hi)).2⟩
    · rw [if_neg c]; exact h.wf _ (at_mem hj)

theorem set_perm {l : List Tm} {i : Nat} (hi : i < l.length) (ho : Once l) (t : Tm) (ht : t.2 = (at_ l i).2) : (l.set i t).Perm (t :: del t.2 l) := by
  have e1 : l.set i t = l.take i ++ t :: l.drop (i + 1) := by
    rw [List.set_eq_take_append_cons_drop, if_pos hi]
  have e2 : l = l.take i ++ at_ l i :: l.drop (i + 1) := by
    conv => lhs; rw [← List.take_append_drop i l, List.drop_eq_getElem_cons hi]
    rw [at_eq (List.getElem?_eq_getElem hi)]
  have p : (at_ l i :: (l.take i ++ l.drop (i + 1))).Perm l := by
    conv => rhs; rw [e2]
    exact List.perm_middle.symm
  have d := del_of_perm (ho.perm p.symm) p
  rw [e1, ht]
  exact List.perm_middle.trans (d.cons t)

set_option maxRecDepth 100000 in
theorem move_ok {w : World} {q : Nat} {L : List Tm} {X : Nat → Prop} (h : Qu w q L X) (id x : Int) (hx : (Lit.int .i64 x).wf = true) (u : Tm) (hu : u ∈ L) (he : u.2 = id) :
    Calls Tryd.prog 21 #[.pointer (some ⟨q, 0, none⟩), .int .i64 id, .int .i64 x] w fun e w' => e = .returned .nilIface ∧ Stayed w q (ins (x, id) (del id L)) X w' := by
  obtain ⟨l, hp, hperm, hU⟩ := h
  obtain ⟨k, hk, hku⟩ := at_of_mem (hperm.mem_iff.2 hu)
  have cf := Lib.hid (find_hit hp.1 k hk id (by rw [hku]; exact he))
  have ho := hp.1.nodup
  obtain ⟨⟨mb, v, f, hP⟩, hH⟩ := hp
  obtain ⟨g, c, rfl⟩ := TRow.form hP.row (by omega)
  have few := hP.few
  have c0 : w.cell? ⟨q, 0, none⟩ = some (.slice (some ⟨g, 0, none⟩) l.length c) := hP.blk.at_ 0
  have cw := TRow.when hP.row k hk
  have fr : w.frozen? ⟨g, k * 2, none⟩ = false := hP.row.frozenAt _
  obtain ⟨hL, hK⟩ := hP.setWhen hk x hx
  rw [hku, he] at hL
  have hlen : (l.set k (x, id)).length = l.length := List.length_set ..
  have hPt : Part (l.set k (x, id)) (l.set k (x, id)).length k := by
    rw [hlen]
    exact hH.set fun j hj hne => by rw [at_set hk, if_neg hne]
  have cx := Lib.hid (heap_fix hL k (by rw [hlen]; exact hk) hPt)
  have hs := Lib.hid ((set_perm hk ho (x, id) (by rw [hku]; exact he.symm)).trans ((hperm.filter _).cons _))
  have hN : ∀ y ∈ del id L, y.2 ≠ (x, id).2 := del_lacks
  have hU' := Lib.hid (del_up (id := id) hU)
  have hK' := Lib.hid hK
  have hkl : (k : Int) < (l.length : Int) := by omega
  have hk0 : ¬ (k : Int) < 0 := by omega
  generalize l.length = n at c0 few hkl
  clear hP hL hK hPt hlen hH hperm hU ho hku hu he hk
  go_enter Tryd.func21, Tryd.ntmps21
  go_wp2_with (first
    | (go_at_call 35; refine cf.out.mono ?_; rintro e w' ⟨rfl, rfl⟩)
    | (go_at_call 37; refine cx.out.mono ?_; rintro e w2 ⟨rfl, ⟨l2, hL, hp2⟩, hK⟩; have L2 := Lib.hid hL; have P2 := Lib.hid hp2; have K2 := Lib.hid (hK'.out.trans_ hK); clear hL hp2 hK))
  go_ret
  have hu := Up.put (List.Perm.refl _) hU'.out hN (P2.out.trans hs.out)
  exact ⟨rfl, ⟨l2, L2.out, hu⟩, K2.out⟩

set_option maxRecDepth 100000 in
theorem move_miss {w : World} {q : Nat} {L : List Tm} {X : Nat → Prop} (h : Qu w q L X) (id x : Int) (hw : (Lit.int .i64 id).wf = true) (hn : ∀ u ∈ L, u.2 ≠ id) :
    Calls Tryd.prog 21 #[.pointer (some ⟨q, 0, none⟩), .int .i64 id, .int .i64 x] w fun e w' => ∃ er, e = .returned er ∧ IsFault w' er id 6 w.heap.size ∧ Keeps (fun _ => False) w w' := by
  obtain ⟨l, hp, hperm, hU⟩ := h
  have cf := Lib.hid (find_miss hp.1 id hw (Qu.lacks hp.1 hperm hn))
  clear hp hperm hU hn
  go_enter Tryd.func21, Tryd.ntmps21
  go_wp2_with (first
    | (go_at_call 35; refine cf.out.mono ?_; rintro e w2 ⟨er, rfl, hF, hK⟩; have F2 := Lib.hid hF; have K2 := Lib.hid hK; obtain ⟨p, _, rfl, _⟩ := hF; clear hK))
  go_ret
  exact ⟨_, rfl, F2.out, K2.out⟩

theorem move_nil (id x : Int) (w : World) :
    Calls Tryd.prog 21 #[.pointer none, .int .i64 id, .int .i64 x] w fun e w' => e = .returned (.iface 69 (.int .i64 1)) ∧ w = w' := by
  go_enter Tryd.func21, Tryd.ntmps21
  go_wp2_with (go_at_call 35; refine (find_nil _ _).mono ?_; rintro e w' ⟨rfl, rfl⟩)
  go_ret
  exact ⟨rfl, rfl⟩

/-! ### Next -/
theorem next_nil (w : World) :
    Calls Tryd.prog 12 #[.pointer none] w fun e w' => e = .returned (.tuple #[tmVal (0, 0), .bool false]) ∧ Keeps (fun _ => False) w w' := by
  unfold tmVal
  go_enter Tryd.func12, Tryd.ntmps12
  go_wp2_with (go_at_call 13; refine (len_nil _).mono ?_; rintro e w' ⟨rfl, rfl⟩)
  exact bodyPost_ret (v := .tuple #[.agg #[.int .i64 0, .int .i64 0], .bool false]) (by simp [results, Tryd.results12, go_sem]) rfl ⟨rfl, (Keeps.refl _ w).alloc _⟩

theorem next_none {w : World} {q : Nat} {X : Nat → Prop} (h : Qu w q [] X) :
    Calls Tryd.prog 12 #[.pointer (some ⟨q, 0, none⟩)] w fun e w' => e = .returned (.tuple #[tmVal (0, 0), .bool false]) ∧ Keeps (fun _ => False) w w' := by
  obtain ⟨l, hp, hperm, _⟩ := h
  have cl := Lib.hid (len_line (hp.1.same ((Keeps.refl _ w).alloc (.cells #[.int .i64 0, .int .i64 0] 31))) 0 (by rw [hperm.length_eq]; rfl))
  clear hp hperm
  unfold tmVal
  go_enter Tryd.func12, Tryd.ntmps12
  go_wp2_with (go_at_call 13; refine cl.out.mono ?_; rintro e w' ⟨rfl, rfl⟩)
  exact bodyPost_ret (v := .tuple #[.agg #[.int .i64 0, .int .i64 0], .bool false]) (by simp [results, Tryd.results12, go_sem]) rfl ⟨rfl, (Keeps.refl _ w).alloc _⟩

theorem next_some {w : World} {q : Nat} {u : Tm} {L : List Tm} {X : Nat → Prop} (h : Qu w q (u :: L) X) :
    Calls Tryd.prog 12 #[.pointer (some ⟨q, 0, none⟩)] w fun e w' => e = .returned (.tuple #[tmVal u, .bool true]) ∧ Keeps (fun _ => False) w w' := by
  obtain ⟨l, hp, hperm, hU⟩ := h
  have hu := Heap.head hp.2 hperm hU rfl
  have hlen : l.length = L.length + 1 := by rw [hperm.length_eq]; rfl
  obtain ⟨W1, hW1⟩ : ∃ W, W = w.alloc (.cells #[.int .i64 0, .int .i64 0] 31) := ⟨_, rfl⟩
  have k1 : Keeps (fun _ => False) w W1 := by rw [hW1]; exact (Keeps.refl _ w).alloc _
  have mT : Whole W1 w.heap.size 31 #[.int .i64 0, .int .i64 0] := by rw [hW1]; exact Whole.made _ _ _
  have h1 := hp.1.same k1
  have few := h1.few
  have cl := Lib.hid (len_line h1 (L.length + 1) hlen)
  obtain ⟨mb, v, f, hP⟩ := h1
  obtain ⟨g, c, rfl⟩ := TRow.form hP.row (by omega)
  have c0 : W1.cell? ⟨q, 0, none⟩ = some (.slice (some ⟨g, 0, none⟩) l.length c) := hP.blk.at_ 0
  have c1 := TRow.when hP.row 0 (by omega)
  have c2 := TRow.id hP.row 0 (by omega)
  rw [hu] at c1 c2
  rw [hlen] at c0 few
  have m0 : W1.cell? ⟨w.heap.size, 0, none⟩ = some (.int .i64 0) := mT.at_ 0
  have m1 : W1.cell? ⟨w.heap.size, 1, none⟩ = some (.int .i64 0) := mT.at_ 1
  have f0 : W1.frozen? ⟨w.heap.size, 0, none⟩ = false := mT.free 0
  have f1 : W1.frozen? ⟨w.heap.size, 1, none⟩ = false := mT.free 1
  have k1' := Lib.hid k1
  have mT' := Lib.hid mT
  have hW1' := Lib.hid hW1
  clear hP hp hperm hU mT hu hlen k1 hW1
  generalize L.length = n at *
  unfold tmVal
  go_enter Tryd.func12, Tryd.ntmps12
  go_wp2_with fail
  rw [← hW1'.out]
  go_wp2_with (go_at_call 13; refine cl.out.mono ?_; rintro e w' ⟨rfl, rfl⟩)
  have mV : Whole ((W1.setCell ⟨w.heap.size, 0, none⟩ (.int .i64 u.1)).setCell ⟨w.heap.size, 1, none⟩ (.int .i64 u.2)) w.heap.size 31 #[.int .i64 u.1, .int .i64 u.2] := by
    have := (mT'.out.set_ 0 (.int .i64 u.1)).set_ 1 (.int .i64 u.2)
    simpa using this
  have v0 := mV.at_ 0
  have v1 := mV.at_ 1
  simp only [List.getElem?_toArray, List.getElem?_cons_zero, List.getElem?_cons_succ] at v0 v1
  exact bodyPost_ret (v := .tuple #[.agg #[.int .i64 u.1, .int .i64 u.2], .bool true]) (by simp [results, Tryd.results12, go_sem, v0, v1]) rfl ⟨rfl, (k1'.out.setCell (p := ⟨w.heap.size, 0, none⟩) (fun h => absurd h (Nat.lt_irrefl _)) _).setCell (p := ⟨w.heap.size, 1, none⟩) (fun h => absurd h (Nat.lt_irrefl _)) _⟩
end Go.Proofs.YtjmkfloaagppdaaDoor
