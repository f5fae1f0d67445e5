/-
  Put of the program's states by contract.
-/
import Derived.Test.YtnlogilbiifmiaaMdOps
namespace Go.Proofs.Ytnlogilbiifmiaa
open Go.RowKit Go.Maps Go.Extern.Stop Go.Stop Go.Extern

section
variable {w : World} {s : Nat} {A : M8} {X : Nat → Prop}

/-- Put of a key that may be there now: what is left of it, by what the collection's kind is. -/
theorem put_kind {vK : Value} {gC cap : Nat} {bs : List Nat} (h : PMt w s vK gC cap bs A X) {c : Int} (hc : A.there c) {k v : Int} (hk : wfI k) (hn : ¬ (look (A.col c) k = none ∧ 100 ≤ (A.col c).length)) :
    Calls Try.prog 10 #[.pointer (some ⟨s, 0, none⟩), .int .i64 c, .int .i64 k, .int .i64 v] w fun e w' => e = .returned .nilIface ∧ PMt w' s vK gC cap bs (A.setC c (put (A.col c) k (mVal A c v))) X ∧ Keeps X w w' := by
  obtain ⟨b, hb, -, hM, hlt⟩ := h.there hc
  have hkc := h.kind hc
  have kin := h.kinds_in (A.kind c) (List.mem_of_getElem? (M8.kind_at h.ok hc))
  obtain ⟨g, ck, rfl, hkc⟩ := hkc
  have c0 : w.cell? ⟨s, 0, none⟩ = some (.slice (some ⟨g, 0, none⟩) bs.length ck) := h.blk.at_ 0
  have cf := Lib.hid (h.found hc hb)
  have hl := hM.len (h.ok.col hc).1
  have hU := (h.ok.col hc).1
  have h100 := (h.ok.col hc).2
  have hX := h.inX.2.2.2 b (List.mem_of_getElem? hb)
  have fin := Lib.hid (fun V (h1 : MH V b (upd (look (A.col c)) k (mVal A c v))) (h2 : Keeps (fun x => x = b) w V) => h.becomes hc hb ⟨up_put hU k (mVal A c v), by
    by_cases hc' : look (A.col c) k = none
    · rw [len_put_new hU hc']
      have : ¬ 100 ≤ (A.col c).length := fun h' => hn ⟨hc', h'⟩
      omega
    · rw [len_put_there hU hc']; exact h100⟩ (by rw [look_put_upd]; exact h1) h2)
  obtain ⟨i, rfl⟩ : ∃ i : Nat, c = (i : Int) := ⟨c.toNat, by have := hc.1; omega⟩
  simp only [Int.toNat_natCast] at hkc hlt
  have hi : (i : Int) < (bs.length : Int) := by omega
  have HM := Lib.hid hM
  have HU := Lib.hid hU
  obtain ⟨W, hW⟩ : ∃ W, A.col (i : Int) = W := ⟨_, rfl⟩
  obtain ⟨kd, hkd⟩ : ∃ kd, A.kind (i : Int) = kd := ⟨_, rfl⟩
  obtain ⟨n, hbn⟩ : ∃ n, bs.length = n := ⟨_, rfl⟩
  have hv : mVal A (i : Int) v = if kd = 2 then 1 else v := by unfold mVal; rw [hkd]
  have hv' := Lib.hid hv
  obtain ⟨u, hu⟩ : ∃ u, mVal A (i : Int) v = u := ⟨_, rfl⟩
  rw [hu] at fin hv' ⊢
  rw [hW] at hl hn fin HM HU h100 ⊢
  rw [hkd] at hkc kin
  rw [hbn] at c0 hi
  have few := Lib.hid (show (W.map (·.1)).length < maxLen by rw [List.length_map]; unfold maxLen; omega)
  have lens := Lib.hid (look_keys HU.out).2
  have hn' := Lib.hid hn
  obtain ⟨x, hx⟩ : ∃ x, (look W k).getD 0 = x := ⟨_, rfl⟩
  have hx' := Lib.hid hx
  have fin' := Lib.hid (fun V (M2 : MH V b (upd (look W) k u)) (K2 : Keeps (fun x => x = b) w V) => (⟨rfl, fin.out V M2 K2, K2.mono fun y _ e => (by rw [e]; exact hX : X y)⟩ : Ending.returned Value.nilIface = Ending.returned Value.nilIface ∧ _ ∧ Keeps X w V))
  clear h hU hM hb hc hW hkd hbn hv hu hn hx hX fin
  obtain ⟨m, hm⟩ : ∃ m, W.length = m := ⟨_, rfl⟩
  rw [hm] at hl h100
  have hm' := Lib.hid hm
  clear hm
  obtain ⟨y, hy⟩ : ∃ y, (look W k).isSome = y := ⟨_, rfl⟩
  have hy' := Lib.hid hy
  have small : Hid (y = false → (m : Int) < 100) := Lib.hid fun e => by
    subst e
    have h1 : look W k = none := by cases hl : look W k <;> simp_all
    have h2 : ¬ 100 ≤ W.length := fun h => hn'.out ⟨h1, h⟩
    have := hm'.out
    omega
  clear hy
  have done : ∀ kv : Int, (if kd = 2 then 1 else v) = kv → u = kv := fun kv e => hv'.out.trans e
  have done' := Lib.hid done
  clear done
  by_cases k2 : kd = 2
  · subst k2
    obtain rfl : u = 1 := done'.out 1 rfl
    cases y with
    | true =>
      go_enter Try.func10, Try.ntmps10
      go_wp2_with (first
        | (go_at_call 16; refine cf.out.mono ?_; rintro e w' ⟨rfl, rfl⟩)
        | (at_lookup; refine wpList_look_ok _ rfl _ _ _ rfl 3 3 iE Try.underlying3 Try.underlying42 0 (zero_i _) b (look W) rfl HM.out k rfl hk (.int .i64 x) true (by rw [hx'.out]; rfl) hy'.out ?_)
        | (at_mapUpdate; refine wpList_upd _ rfl _ _ _ _ rfl 3 3 iE Try.underlying3 Try.underlying42 b (look W) rfl HM.out (W.map (·.1)) (fun j hj => (lens.out j).2 hj) few.out k rfl hk 1 rfl ?_; intro w2 hM2 hg2; have M2 := Lib.hid hM2; have K2 := Lib.hid (Keeps.of_grown hg2); clear hM2 hg2))
      go_ret
      exact ⟨rfl, (fin'.out _ M2.out K2.out).2⟩
    | false =>
      have sm := small.out rfl
      go_enter Try.func10, Try.ntmps10
      go_wp2_with (first
        | (go_at_call 16; refine cf.out.mono ?_; rintro e w' ⟨rfl, rfl⟩)
        | (at_lookup; refine wpList_look_ok _ rfl _ _ _ rfl 3 3 iE Try.underlying3 Try.underlying42 0 (zero_i _) b (look W) rfl HM.out k rfl hk (.int .i64 x) false (by rw [hx'.out]; rfl) hy'.out ?_)
        | (at_mapUpdate; refine wpList_upd _ rfl _ _ _ _ rfl 3 3 iE Try.underlying3 Try.underlying42 b (look W) rfl HM.out (W.map (·.1)) (fun j hj => (lens.out j).2 hj) few.out k rfl hk 1 rfl ?_; intro w2 hM2 hg2; have M2 := Lib.hid hM2; have K2 := Lib.hid (Keeps.of_grown hg2); clear hM2 hg2))
      go_ret
      exact ⟨rfl, (fin'.out _ M2.out K2.out).2⟩
  · obtain rfl : u = v := done'.out v (if_neg k2)
    have kk : kd = 1 ∨ kd = 3 := by omega
    clear kin
    rcases kk with rfl | rfl
    · cases y with
      | true =>
        go_enter Try.func10, Try.ntmps10
        go_wp2_with (first
          | (go_at_call 16; refine cf.out.mono ?_; rintro e w' ⟨rfl, rfl⟩)
          | (at_lookup; refine wpList_look_ok _ rfl _ _ _ rfl 3 3 iE Try.underlying3 Try.underlying42 0 (zero_i _) b (look W) rfl HM.out k rfl hk (.int .i64 x) true (by rw [hx'.out]; rfl) hy'.out ?_)
          | (at_mapUpdate; refine wpList_upd _ rfl _ _ _ _ rfl 3 3 iE Try.underlying3 Try.underlying42 b (look W) rfl HM.out (W.map (·.1)) (fun j hj => (lens.out j).2 hj) few.out k rfl hk u rfl ?_; intro w2 hM2 hg2; have M2 := Lib.hid hM2; have K2 := Lib.hid (Keeps.of_grown hg2); clear hM2 hg2))
        go_ret
        exact ⟨rfl, (fin'.out _ M2.out K2.out).2⟩
      | false =>
        have sm := small.out rfl
        go_enter Try.func10, Try.ntmps10
        go_wp2_with (first
          | (go_at_call 16; refine cf.out.mono ?_; rintro e w' ⟨rfl, rfl⟩)
          | (at_lookup; refine wpList_look_ok _ rfl _ _ _ rfl 3 3 iE Try.underlying3 Try.underlying42 0 (zero_i _) b (look W) rfl HM.out k rfl hk (.int .i64 x) false (by rw [hx'.out]; rfl) hy'.out ?_)
          | (at_mapUpdate; refine wpList_upd _ rfl _ _ _ _ rfl 3 3 iE Try.underlying3 Try.underlying42 b (look W) rfl HM.out (W.map (·.1)) (fun j hj => (lens.out j).2 hj) few.out k rfl hk u rfl ?_; intro w2 hM2 hg2; have M2 := Lib.hid hM2; have K2 := Lib.hid (Keeps.of_grown hg2); clear hM2 hg2))
        go_ret
        exact ⟨rfl, (fin'.out _ M2.out K2.out).2⟩
    · cases y with
      | true =>
        go_enter Try.func10, Try.ntmps10
        go_wp2_with (first
          | (go_at_call 16; refine cf.out.mono ?_; rintro e w' ⟨rfl, rfl⟩)
          | (at_lookup; refine wpList_look_ok _ rfl _ _ _ rfl 3 3 iE Try.underlying3 Try.underlying42 0 (zero_i _) b (look W) rfl HM.out k rfl hk (.int .i64 x) true (by rw [hx'.out]; rfl) hy'.out ?_)
          | (at_mapUpdate; refine wpList_upd _ rfl _ _ _ _ rfl 3 3 iE Try.underlying3 Try.underlying42 b (look W) rfl HM.out (W.map (·.1)) (fun j hj => (lens.out j).2 hj) few.out k rfl hk u rfl ?_; intro w2 hM2 hg2; have M2 := Lib.hid hM2; have K2 := Lib.hid (Keeps.of_grown hg2); clear hM2 hg2))
        go_ret
        exact ⟨rfl, (fin'.out _ M2.out K2.out).2⟩
      | false =>
        have sm := small.out rfl
        go_enter Try.func10, Try.ntmps10
        go_wp2_with (first
          | (go_at_call 16; refine cf.out.mono ?_; rintro e w' ⟨rfl, rfl⟩)
          | (at_lookup; refine wpList_look_ok _ rfl _ _ _ rfl 3 3 iE Try.underlying3 Try.underlying42 0 (zero_i _) b (look W) rfl HM.out k rfl hk (.int .i64 x) false (by rw [hx'.out]; rfl) hy'.out ?_)
          | (at_mapUpdate; refine wpList_upd _ rfl _ _ _ _ rfl 3 3 iE Try.underlying3 Try.underlying42 b (look W) rfl HM.out (W.map (·.1)) (fun j hj => (lens.out j).2 hj) few.out k rfl hk u rfl ?_; intro w2 hM2 hg2; have M2 := Lib.hid hM2; have K2 := Lib.hid (Keeps.of_grown hg2); clear hM2 hg2))
        go_ret
        exact ⟨rfl, (fin'.out _ M2.out K2.out).2⟩

theorem put_m (h : PM w s A X) (c k v : Int) (hk : wfI k) :
    Calls Try.prog 10 #[.pointer (some ⟨s, 0, none⟩), .int .i64 c, .int .i64 k, .int .i64 v] w fun e w' => ∃ ev a, e = .returned ev ∧ ErrU w.heap.size w' ev (mPut A c k v).2 a ∧ MDid PM w w' s (mPut A c k v).1 X := by
  by_cases hc : A.there c
  · by_cases hn : look (A.col c) k = none ∧ 100 ≤ (A.col c).length
    · have e1 : mPut A c k v = (A, 8) := by unfold mPut; rw [if_pos hc, if_pos hn]
      rw [e1]
      have P := Lib.hid h
      have ok := h.ok
      obtain ⟨vK, gC, cap, bs, h⟩ := h
      obtain ⟨b, hb, -, hM, -⟩ := h.there hc
      have cf := Lib.hid (h.found hc hb)
      have hl := hM.len (ok.col hc).1
      have hM := Lib.hid hM
      obtain ⟨n1, n2⟩ := hn
      have hx' := Lib.hid n1
      generalize A.col c = W at *
      have h100 : (100 : Int) ≤ (W.length : Int) := by omega
      generalize W.length = m at *
      clear h hb hc e1 ok n2 n1
      go_enter Try.func10, Try.ntmps10
      go_wp2_with (first
        | (go_at_call 16; refine cf.out.mono ?_; rintro e w' ⟨rfl, rfl⟩)
        | (at_lookup; refine wpList_look_ok _ rfl _ _ _ rfl 3 3 iE Try.underlying3 Try.underlying42 0 (zero_i _) b (look W) rfl hM.out k rfl hk (.int .i64 0) false (by rw [hx'.out]; rfl) (by rw [hx'.out]; rfl) ?_))
      go_ret
      exact ⟨_, 0, rfl, .inr (.inl ⟨by decide, by decide, rfl, rfl⟩), X, P.out, fun _ => .inl, Keeps.refl _ _⟩
    · have e1 : mPut A c k v = (A.setC c (put (A.col c) k (mVal A c v)), 0) := by unfold mPut; rw [if_pos hc, if_neg hn]
      rw [e1]
      obtain ⟨vK, gC, cap, bs, h⟩ := h
      exact (put_kind h hc hk hn).mono fun e w' ⟨h1, h2, h3⟩ => ⟨_, 0, h1, .inl ⟨rfl, rfl, rfl⟩, X, ⟨_, _, _, _, h2⟩, fun _ => .inl, h3⟩
  · have e1 : mPut A c k v = (A, 3) := by unfold mPut; rw [if_neg hc]
    rw [e1]
    have cf := Lib.hid (h.not_there hc)
    have P := Lib.hid h
    clear h e1 hc
    go_enter Try.func10, Try.ntmps10
    go_wp2_with (go_at_call 16; refine cf.out.mono ?_; rintro e w2 ⟨p, rfl, hE, hK⟩; have E2 := Lib.hid hE; have K2 := Lib.hid hK; clear hE hK)
    go_ret
    exact ⟨_, _, rfl, E2.out, X, P.out.same K2.out, fun _ => .inl, K2.out.mono fun _ _ => False.elim⟩
end
end Go.Proofs.Ytnlogilbiifmiaa
