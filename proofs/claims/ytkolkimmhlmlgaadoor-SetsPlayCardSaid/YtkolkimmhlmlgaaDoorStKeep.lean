/-
  sets: Keep by contract.
-/
import Derived.Test.YtkolkimmhlmlgaaDoorStBack
namespace Go.Proofs.YtkolkimmhlmlgaaDoor
open Go.RowKit Go.Maps Go.Extern.Stop Go.Stop Go.Extern

/-- The struct, the marks' row, the map of what is written, and logs are other ones. -/
theorem PSt.after {w w' : World} {s pb wb : Nat} {vr vm vm' : Value} {lb l1 : List Nat} {lg g1 : List Lg} {A A' : AS} {X S : Nat → Prop} (h : PSt w s pb wb vr vm lb lg A X) (k : Keeps S w w') (hS : ∀ x, S x → x = s ∨ x = wb ∨ x ∈ lb ∨ vm.ownBlock = some x)
    (blk : Whole w' s 58 #[vr, .map (some pb), .map (some wb), vm']) (marks : undoK.Row w' vm' l1) (own : ∀ g, vm'.ownBlock = some g → vm.ownBlock = some g) (sub : l1.Sublist lb)
    (writes : HoldsM Tryd.prog 23 uE w' wb (look A'.W)) (len : l1.length = g1.length) (logs : ∀ (i b : Nat) (u : Lg), l1[i]? = some b → g1[i]? = some u → HoldsM Tryd.prog 23 bE w' b u) (back : Backs (look A'.W) g1 A'.M)
    (ok : A'.Ok) (hR : A'.R = A.R) : PSt w' s pb wb vr vm' l1 g1 A' X := by
  have hmap : ∀ x, x ∈ lb → ∃ f : Int → Option Bef, HoldsM Tryd.prog 23 bE w x f := fun x hx => by
    obtain ⟨i, hi, rfl⟩ := List.getElem_of_mem hx
    have := h.len
    exact ⟨_, h.logs i lb[i] (lg[i]'(by omega)) (List.getElem?_eq_getElem hi) (List.getElem?_eq_getElem (by omega))⟩
  exact {
    blk := blk
    reads := by
      rw [hR]
      exact ownsRow_keeps h.reads k fun g hg hs => by
        rcases hS _ hs with e | e | e | e
        · exact row_ne h.reads h.blk (by decide) (by rw [hg, e])
        · exact row_ne_map h.reads h.writes (by rw [hg, e])
        · obtain ⟨f, hf⟩ := hmap _ e
          exact row_ne_map h.reads hf hg
        · exact row_ne_row h.reads h.marks (by decide) hg e
    places := by
      rw [hR]
      refine h.places.keeps k fun hs => ?_
      have := h.once
      rcases hS _ hs with e | e | e | e
      · exact h.blk.ne_map h.places e.symm
      · rw [e] at this; simp at this
      · simp [e] at this
      · exact row_ne_map h.marks h.places e
    writes := writes
    marks := marks
    len := len
    logs := logs
    once := ((sub.cons_cons wb).cons_cons pb).nodup h.once
    back := back
    ok := ok
    inX := ⟨h.inX.1, h.inX.2.1, h.inX.2.2.1, fun b hb => h.inX.2.2.2.1 b (sub.subset hb), h.inX.2.2.2.2.1, fun g hg => h.inX.2.2.2.2.2 g (own g hg)⟩
    old := fun x hx => Nat.lt_of_lt_of_le (h.old x hx) k.size }

theorem keep_nil (m : Int) (w : World) :
    Calls Tryd.prog 19 #[.pointer none, .int .i64 m] w fun e w' => e = .returned (.iface 77 (.int .i64 1)) ∧ w = w' := by
  go_enter Tryd.func19, Tryd.ntmps19
  go_wp2_with (go_at_call 35; refine (check_nil _ _).mono ?_; rintro e w' ⟨rfl, rfl⟩)
  go_ret
  exact ⟨rfl, rfl⟩

theorem back_nil (m : Int) (w : World) :
    Calls Tryd.prog 15 #[.pointer none, .int .i64 m] w fun e w' => e = .returned (.iface 77 (.int .i64 1)) ∧ w = w' := by
  go_enter Tryd.func15, Tryd.ntmps15
  go_wp2_with (go_at_call 35; refine (check_nil _ _).mono ?_; rintro e w' ⟨rfl, rfl⟩)
  go_ret
  exact ⟨rfl, rfl⟩

/-- The place that an error of Keep or Back names. -/
def atM (k : Nat) (m : Int) : Int := if k = 0 then 0 else m

theorem keep_none {w : World} {s : Nat} {A : AS} {X : Nat → Prop} (h : PS w s A X) (m : Int) (hm : m < 1 ∨ (A.M.length : Int) < m) :
    Calls Tryd.prog 19 #[.pointer (some ⟨s, 0, none⟩), .int .i64 m] w fun e w' => ∃ ev, e = .returned ev ∧ ErrU w.heap.size w' ev 6 m ∧ Did w w' s A X := by
  have cn := Lib.hid (check_none h m hm)
  have h' := Lib.hid h
  clear h hm
  go_enter Tryd.func19, Tryd.ntmps19
  go_wp2_with (go_at_call 35; refine cn.out.mono ?_; rintro e w' ⟨rfl, rfl⟩)
  go_ret
  exact ⟨_, rfl, .inr (.inr ⟨(by decide : 1 ≤ 6), (by decide : 6 ≤ 17), _, Nat.le_refl _, rfl, Whole.made _ _ _⟩), Did.same h'.out ((Keeps.refl _ _).alloc _)⟩

theorem back_none {w : World} {s : Nat} {A : AS} {X : Nat → Prop} (h : PS w s A X) (m : Int) (hm : m < 1 ∨ (A.M.length : Int) < m) :
    Calls Tryd.prog 15 #[.pointer (some ⟨s, 0, none⟩), .int .i64 m] w fun e w' => ∃ ev, e = .returned ev ∧ ErrU w.heap.size w' ev 6 m ∧ Did w w' s A X := by
  have cn := Lib.hid (check_none h m hm)
  have h' := Lib.hid h
  clear h hm
  go_enter Tryd.func15, Tryd.ntmps15
  go_wp2_with (go_at_call 35; refine cn.out.mono ?_; rintro e w' ⟨rfl, rfl⟩)
  go_ret
  exact ⟨_, rfl, .inr (.inr ⟨(by decide : 1 ≤ 6), (by decide : 6 ≤ 17), _, Nat.le_refl _, rfl, Whole.made _ _ _⟩), Did.same h'.out ((Keeps.refl _ _).alloc _)⟩

/-- The k-th mark's log, parted from those ahead and behind. -/
theorem PSt.part {w : World} {s pb wb : Nat} {vr vm : Value} {lb : List Nat} {lg : List Lg} {A : AS} {X : Nat → Prop} (h : PSt w s pb wb vr vm lb lg A X) {k : Nat} (hk : k < A.M.length) :
    ∃ l1 bl l2 g1 u g2, lb = l1 ++ bl :: l2 ∧ lg = g1 ++ u :: g2 ∧ l1.length = k ∧ g1.length = k := by
  have h1 := h.mlen
  have h2 := h.len
  have k1 : k < lb.length := by omega
  have k2 : k < lg.length := by omega
  refine ⟨lb.take k, lb[k], lb.drop (k + 1), lg.take k, lg[k], lg.drop (k + 1), ?_, ?_, by simp; omega, by simp; omega⟩
  · rw [List.getElem_cons_drop k1, List.take_append_drop]
  · rw [List.getElem_cons_drop k2, List.take_append_drop]

set_option maxRecDepth 100000 in
set_option maxHeartbeats 1000000 in
theorem keep_any {w : World} {s : Nat} {A : AS} {X : Nat → Prop} (h : PS w s A X) (m : Int) :
    Calls Tryd.prog 19 #[.pointer (some ⟨s, 0, none⟩), .int .i64 m] w fun e w' => ∃ ev, e = .returned ev ∧ ErrU w.heap.size w' ev (aKeep A m).2 (atM (aKeep A m).2 m) ∧ Did w w' s (aKeep A m).1 X := by
  by_cases hm : m < 1 ∨ (A.M.length : Int) < m
  · have ea : aKeep A m = (A, 6) := by unfold aKeep; rw [if_pos hm]
    rw [ea]
    exact keep_none h m hm
  have hok := Lib.hid (aKeep_ok h.ok m)
  have ea : aKeep A m = ({ A with M := A.M.take (m.toNat - 1) }, 0) := by unfold aKeep; rw [if_neg hm]
  have cn := Lib.hid (check_there h m (by omega) (by omega))
  obtain ⟨k, hk⟩ : ∃ k, m.toNat - 1 = k := ⟨_, rfl⟩
  rw [ea, hk] at hok
  rw [ea, hk]
  have em : m = ((k + 1 : Nat) : Int) := by omega
  have hkl : k < A.M.length := by omega
  clear ea hk hm
  subst em
  obtain ⟨pb, wb, vr, vm, lb, lg, h⟩ := h
  have hmf := h.ok.mfew
  obtain ⟨l1, bl, l2, g1, u, g2, rfl, rfl, hl1, hg1⟩ := h.part hkl
  have ct := Lib.hid (take_any h (by omega) (k + 1) (by omega))
  have hP := Lib.hid h
  have hlog : HoldsM Tryd.prog 23 bE w bl u := h.logs k bl u (by rw [List.getElem?_append_right (by omega)]; simp [hl1]) (by rw [List.getElem?_append_right (by omega)]; simp [hg1])
  have tS : ∀ (x : Nat), (x = s ∨ x = bl ∨ vm.ownBlock = some x) → x = s ∨ x = wb ∨ x ∈ (l1 ++ bl :: l2) ∨ vm.ownBlock = some x := fun x hx => by
    rcases hx with hx | hx | hx
    · exact .inl hx
    · exact .inr (.inr (.inl (by simp [hx])))
    · exact .inr (.inr (.inr hx))
  have inXS : ∀ (x : Nat), (x = s ∨ x = bl ∨ vm.ownBlock = some x) → X x := fun x hx => by
    rcases hx with hx | hx | hx
    · rw [hx]; exact h.inX.1
    · rw [hx]; exact h.inX.2.2.2.1 bl (by simp)
    · exact h.inX.2.2.2.2.2 x hx
  have nwb : ¬ (wb = s ∨ wb = bl ∨ vm.ownBlock = some wb) := fun e => by
    rcases e with e | e | e
    · exact h.blk.ne_map h.writes e.symm
    · have := h.once; rw [e] at this; simp at this
    · exact row_ne_map h.marks h.writes e
  have nlog : ∀ (i b : Nat) (v : Lg), l1[i]? = some b → g1[i]? = some v → HoldsM Tryd.prog 23 bE w b v ∧ ¬ (b = s ∨ b = bl ∨ vm.ownBlock = some b) := fun i b v hb hv => by
    have hi : i < l1.length := (List.getElem?_eq_some_iff.1 hb).1
    have hH := h.logs i b v (by rw [List.getElem?_append_left hi]; exact hb) (by rw [List.getElem?_append_left (by omega)]; exact hv)
    refine ⟨hH, fun e => ?_⟩
    rcases e with e | e | e
    · exact h.blk.ne_map hH e.symm
    · have h1 := (List.nodup_cons.1 (List.nodup_cons.1 h.once).2).2
      have h2 := (List.nodup_append.1 h1).2.2 b (List.mem_of_getElem? hb) bl (by simp)
      exact h2 e
    · exact row_ne_map h.marks hH e
  have hfews := Lib.hid (Backs.few h.ok.wfew h.back h.ok.ups)
  have hg2 : g2.length ≤ 20 := by have := h.back.len; simp at this; omega
  have hU : Few (500 + 500 * g2.length) (mrg u g2) := mrg_few (hfews.out u (by simp)) fun x hx => hfews.out x (by simp [hx])
  have hU' := Lib.hid hU
  have tS' := Lib.hid tS
  have inXS' := Lib.hid inXS
  have nlog' := Lib.hid nlog
  have hl1' := Lib.hid hl1
  have hg1' := Lib.hid hg1
  rcases Nat.eq_zero_or_pos k with h0 | h0
  · -- the first mark
    obtain rfl : l1 = [] := List.eq_nil_of_length_eq_zero (by omega)
    obtain rfl : g1 = [] := List.eq_nil_of_length_eq_zero (by omega)
    subst h0
    have b1 : ¬ (1 : Int) < ((0 + 1 : Nat) : Int) := by decide
    clear h hlog hU tS inXS nlog hl1 hg1
    go_enter Tryd.func19, Tryd.ntmps19
    go_wp2_with (first
      | (go_at_call 35; refine cn.out.mono ?_; rintro e w' ⟨rfl, rfl⟩)
      | (go_at_call 36; refine ct.out.mono ?_; rintro e w2 ⟨rfl, vm2, hT⟩; have T2 := Lib.hid hT; clear hT))
    go_ret
    refine ⟨_, rfl, .inl ⟨rfl, rfl, rfl⟩, X, ⟨pb, wb, vr, vm2, [], [], hP.out.after T2.out.keeps tS'.out T2.out.blk T2.out.marks T2.out.own (List.nil_sublist _) (hP.out.writes.keeps T2.out.keeps nwb) rfl (fun i b u hb => by simp at hb) ?_ hok.out rfl⟩, fun x hx => .inl hx, T2.out.keeps.mono fun x _ hx => inXS'.out x hx⟩
    exact trivial
  · -- its log goes into the one ahead
    obtain ⟨j, rfl⟩ : ∃ j, k = j + 1 := ⟨k - 1, by omega⟩
    obtain ⟨l0, b0, rfl⟩ : ∃ l0 b0, l1 = l0 ++ [b0] := by
      rcases List.eq_nil_or_concat l1 with e | ⟨l, a, e⟩
      · rw [e] at hl1; simp at hl1
      · exact ⟨l, a, by rw [e, List.concat_eq_append]⟩
    obtain ⟨g0, u0, rfl⟩ : ∃ g0 u0, g1 = g0 ++ [u0] := by
      rcases List.eq_nil_or_concat g1 with e | ⟨l, a, e⟩
      · rw [e] at hg1; simp at hg1
      · exact ⟨l, a, by rw [e, List.concat_eq_append]⟩
    have hl0 : l0.length = j := by simpa using hl1
    have hg0 : g0.length = j := by simpa using hg1
    have hn0 := nlog j b0 u0 (by rw [← hl0]; simp) (by rw [← hg0]; simp)
    have few0 := hfews.out u0 (by simp)
    have nb0 : ¬ bl = b0 := fun e => hn0.2 (.inr (.inl e.symm))
    have hn0' := Lib.hid hn0
    have few0' := Lib.hid few0
    have hl0' := Lib.hid hl0
    have hg0' := Lib.hid hg0
    obtain ⟨n, hn⟩ : ∃ n, j + 1 + 1 = n := ⟨_, rfl⟩
    rw [hn] at cn ct ⊢
    have b1 : (1 : Int) < (n : Int) := by omega
    have wm : IntKind.i64.wrap ((n : Int) - 2) = (j : Int) := by rw [show (n : Int) - 2 = (j : Int) by omega]; exact IntWalk.i64_in _ (by omega)
    have b2 : (j : Int) < ((j + 1 : Nat) : Int) := by omega
    obtain ⟨j1, hj1⟩ : ∃ j1, j + 1 = j1 := ⟨_, rfl⟩
    rw [hj1] at b2
    have hj1' := Lib.hid hj1
    clear h hlog hU tS inXS nlog hl1 hg1 few0 hn0 hn hl0 hg0
    go_enter Tryd.func19, Tryd.ntmps19
    go_wp2_with (first | (go_at_call 35; refine cn.out.mono ?_; rintro e w' ⟨rfl, rfl⟩))
    refine ct.out.mono ?_
    rintro e w2 ⟨rfl, vm2, hT⟩
    have T2 := Lib.hid hT
    obtain ⟨o, cap, rfl, ho⟩ := row_shape hT.marks
    obtain ⟨g, rfl⟩ := ho (by simp)
    have c3 : w2.cell? ⟨s, 3, none⟩ = some (.slice (some ⟨g, 0, none⟩) (l0 ++ [b0]).length cap) := hT.blk.at_ 3
    have cj : w2.cell? ⟨g, j, none⟩ = some (.map (some b0)) := by
      have hmk : w2.ownsRow 0 79 1 (.slice (some ⟨g, 0, none⟩) (l0 ++ [b0]).length cap) (l0 ++ [b0]).length ((l0 ++ [b0]).map fun b => .map (some b)) := hT.marks
      rw [hmk.cellAt j (by have := hl1'.out; omega), List.getElem?_map, List.getElem?_append_right (by rw [hl0'.out]; omega), hl0'.out]
      simp
    have ca := Lib.hid (add_any (hn0'.out.1.keeps hT.keeps hn0'.out.2) hT.log nb0 few0'.out hU'.out (by omega))
    rw [hl1'.out, hj1'.out] at c3
    clear hT ho
    go_wp2_with (first | (go_at_call 38; refine ca.out.mono ?_; rintro e w3 ⟨rfl, hB, hK⟩; have B3 := Lib.hid hB; have K3 := Lib.hid hK; clear hB hK))
    go_ret
    have kk : Keeps (fun x => (x = s ∨ x = bl ∨ vm.ownBlock = some x) ∨ x = b0) w w3 := (T2.out.keeps.mono fun _ _ h => .inl h).trans K3.out fun _ _ h => .inr h
    have hin0 : b0 ∈ ((l0 ++ [b0]) ++ bl :: l2) := by simp
    have hon := hP.out.once
    have nb_wb : ¬ wb = b0 := fun e => by rw [e] at hon; simp at hon
    refine ⟨_, rfl, .inl ⟨rfl, rfl, rfl⟩, X, ⟨pb, wb, vr, _, l0 ++ [b0], g0 ++ [merge u0 (mrg u g2)], hP.out.after kk (fun x hx => ?_) (T2.out.blk.keeps K3.out fun e => hn0'.out.2 (.inl e.symm)) (ownsRow_keeps T2.out.marks K3.out fun g' hg' e => row_ne_map hP.out.marks hn0'.out.1 (T2.out.own _ (by rw [hg', e]))) T2.out.own (List.sublist_append_left _ _) (hP.out.writes.keeps kk fun e => e.elim nwb nb_wb) (by simp [hl0'.out, hg0'.out]) (fun i b v hb hv => ?_) ?_ hok.out rfl⟩, fun x hx => .inl hx, kk.mono fun x _ hx => ?_⟩
    · rcases hx with hx | hx
      · exact tS'.out x hx
      · exact .inr (.inr (.inl (by rw [hx]; exact hin0)))
    · rcases Nat.lt_trichotomy i j with hi | hi | hi
      · have e1 : (g0 ++ [u0])[i]? = some v := by
          rw [List.getElem?_append_left (by rw [hg0'.out]; exact hi)] at hv ⊢
          exact hv
        obtain ⟨q1, q2⟩ := nlog'.out i b v hb e1
        refine q1.keeps kk fun e => e.elim q2 fun e => ?_
        have h1 := (List.nodup_cons.1 (List.nodup_cons.1 hon).2).2
        have h2 := (List.nodup_append.1 h1).1
        have h3 := (List.nodup_append.1 h2).2.2 b (by rw [List.getElem?_append_left (by rw [hl0'.out]; exact hi)] at hb; exact List.mem_of_getElem? hb) b0 (by simp)
        exact h3 e
      · subst hi
        rw [List.getElem?_append_right (by rw [hl0'.out]; omega), hl0'.out] at hb
        rw [List.getElem?_append_right (by rw [hg0'.out]; omega), hg0'.out] at hv
        simp at hb hv
        rw [← hb, ← hv]
        exact B3.out
      · rw [List.getElem?_eq_none (by rw [hl1'.out]; omega)] at hb
        cases hb
    · have hb := hP.out.back
      rw [show (g0 ++ [u0]) ++ u :: g2 = g0 ++ u0 :: u :: g2 by simp] at hb
      have := hb.keep
      rw [hg0'.out] at this
      exact this
    · rcases hx with hx | hx
      · exact inXS'.out x hx
      · rw [hx]; exact hP.out.inX.2.2.2.1 b0 hin0
end Go.Proofs.YtkolkimmhlmlgaaDoor
