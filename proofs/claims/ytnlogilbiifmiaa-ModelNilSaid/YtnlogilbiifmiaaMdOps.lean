/-
  Get, Put, Del, Size of the program's states by contract.
-/
import Derived.Test.YtnlogilbiifmiaaMdMem
import Derived.Maps.RangeWalk
namespace Go.Proofs.Ytnlogilbiifmiaa
open Go.RowKit Go.Maps Go.Extern.Stop Go.Stop Go.Extern

theorem zero_i (w : World) : (zeroValue 3).run Try.prog w = .ok (iE.val 0) w := by kernel_rfl

/-- len of a map. -/
theorem MH.len {w : World} {b : Nat} {W : Tl} (h : MH w b (look W)) (hW : UpW W) (ty : TypeId) : (Builtin.len_ #[42] ty #[.map (some b)]).run Try.prog w = .ok (.int .i64 (W.length : Nat)) w := by
  obtain ⟨D, n, h1, h2, h3⟩ := h
  have e := h1.len (t := 42) Try.underlying42 ty
  have hk := look_keys hW
  have e2 := HoldsM.size_eq (K := 3) (E := iE) Try.underlying3 h1 h3 (W.map (·.1)) hk.1 hk.2
  rw [e2] at e
  simpa using e

section
variable {w : World} {s : Nat} {A : M8} {X : Nat → Prop}

theorem PM.not_there {w : World} {s : Nat} {A : M8} {X : Nat → Prop} (h : PM w s A X) {c : Int} (hc : ¬ A.there c) :
    Calls Try.prog 16 #[.pointer (some ⟨s, 0, none⟩), .int .i64 c] w fun e w' => ∃ p, e = .returned (.tuple #[.map none, .iface 63 (.pointer (some ⟨p, 0, none⟩))]) ∧ ErrU w.heap.size w' (.iface 63 (.pointer (some ⟨p, 0, none⟩))) 3 c ∧ Keeps (fun _ => False) w w' := by
  obtain ⟨vK, gC, cap, bs, h⟩ := h
  refine find_not (h.blk.at_ 1) fun h2 => hc ⟨h2.1, ?_⟩
  rw [← h.len]; exact h2.2
theorem PMt.found {w : World} {s : Nat} {vK : Value} {gC cap : Nat} {bs : List Nat} {A : M8} {X : Nat → Prop} (h : PMt w s vK gC cap bs A X) {c : Int} (hc : A.there c) {b : Nat} (hb : bs[c.toNat]? = some b) :
    Calls Try.prog 16 #[.pointer (some ⟨s, 0, none⟩), .int .i64 c] w fun e w' => e = .returned (.tuple #[.map (some b), .nilIface]) ∧ w = w' :=
  find_there (h.blk.at_ 1) hc.1 (by rw [h.len]; exact hc.2) (h.coll hb)

theorem get_m (h : PM w s A X) (c k : Int) (hk : wfI k) :
    Calls Try.prog 4 #[.pointer (some ⟨s, 0, none⟩), .int .i64 c, .int .i64 k] w fun e w' => ∃ ev, e = .returned (.tuple #[.int .i64 (mGet A c k).1, .bool (mGet A c k).2.1, ev]) ∧ ErrU w.heap.size w' ev (mGet A c k).2.2 (atC A c) ∧ Keeps (fun _ => False) w w' := by
  by_cases hc : A.there c
  · have e1 : mGet A c k = ((look (A.col c) k).getD 0, (look (A.col c) k).isSome, 0) := by unfold mGet; rw [if_pos hc]
    have e2 : atC A c = 0 := by unfold atC; rw [if_pos hc]
    rw [e1, e2]
    obtain ⟨vK, gC, cap, bs, h⟩ := h
    obtain ⟨b, hb, -, hM, -⟩ := h.there hc
    have cf := Lib.hid (h.found hc hb)
    have hM := Lib.hid hM
    obtain ⟨x, hx⟩ : ∃ x, (look (A.col c) k).getD 0 = x := ⟨_, rfl⟩
    obtain ⟨y, hy⟩ : ∃ y, (look (A.col c) k).isSome = y := ⟨_, rfl⟩
    simp only [hx, hy]
    have hx' := Lib.hid hx
    have hy' := Lib.hid hy
    clear h hx hy e1 e2 hb hc
    go_enter Try.func4, Try.ntmps4
    go_wp2_with (first
      | (go_at_call 16; refine cf.out.mono ?_; rintro e w' ⟨rfl, rfl⟩)
      | (at_lookup; refine wpList_look_ok _ rfl _ _ _ rfl 3 3 iE Try.underlying3 Try.underlying42 0 (zero_i _) b (look (A.col c)) rfl hM.out k rfl hk (.int .i64 x) y (by rw [hx'.out]; rfl) hy'.out ?_))
    go_ret3
    exact ⟨_, rfl, .inl ⟨rfl, rfl, rfl⟩, Keeps.refl _ _⟩
  · have e1 : mGet A c k = (0, false, 3) := by unfold mGet; rw [if_neg hc]
    have e2 : atC A c = c := by unfold atC; rw [if_neg hc]
    rw [e1, e2]
    have cf := Lib.hid (h.not_there hc)
    clear h e1 e2 hc
    go_enter Try.func4, Try.ntmps4
    go_wp2_with (go_at_call 16; refine cf.out.mono ?_; rintro e w2 ⟨p, rfl, hE, hK⟩; have E2 := Lib.hid hE; have K2 := Lib.hid hK; clear hE hK)
    go_ret3
    exact ⟨_, rfl, E2.out, K2.out⟩

theorem size_m (h : PM w s A X) (c : Int) (hc : A.there c) :
    Calls Try.prog 6 #[.pointer (some ⟨s, 0, none⟩), .int .i64 c] w fun e w' => e = .returned (.tuple #[.int .i64 ((A.col c).length : Nat), .nilIface]) ∧ Keeps (fun _ => False) w w' := by
  have ok := h.ok
  obtain ⟨vK, gC, cap, bs, h⟩ := h
  obtain ⟨b, hb, -, hM, -⟩ := h.there hc
  have cf := Lib.hid (h.found hc hb)
  have hl := hM.len (ok.col hc).1
  obtain ⟨n, hn⟩ : ∃ n, (A.col c).length = n := ⟨_, rfl⟩
  rw [hn] at hl ⊢
  clear h hM hb hn ok
  go_enter Try.func6, Try.ntmps6
  go_wp2_with (go_at_call 16; refine cf.out.mono ?_; rintro e w' ⟨rfl, rfl⟩)
  go_ret2
  exact ⟨rfl, Keeps.refl _ _⟩

/-- A state whose collection c has become W. -/
theorem PMt.becomes {w w' : World} {s : Nat} {vK : Value} {gC cap : Nat} {bs : List Nat} {A : M8} {X : Nat → Prop} (h : PMt w s vK gC cap bs A X) {c : Int} (hc : A.there c) {b : Nat} (hb : bs[c.toNat]? = some b) {W : Tl} (hW : UpW W ∧ W.length ≤ 100) (hM : MH w' b (look W)) (hK : Keeps (fun x => x = b) w w') :
    PMt w' s vK gC cap bs (A.setC c W) X where
  blk := h.blk.keeps hK fun e => h.blk.ne_map (h.each _ _ _ hb (M8.col_at hc)) e
  kinds := ownsRow_keeps h.kinds hK fun g hg e => row_ne_map h.kinds (h.each _ _ _ hb (M8.col_at hc)) (by rw [hg, e])
  colls := ownsRow_keeps h.colls hK fun g hg e => row_ne_map h.colls (h.each _ _ _ hb (M8.col_at hc)) (by rw [hg, e])
  len := by simpa [M8.setC] using h.len
  each := fun i b' V hb' hV => by
    by_cases e : i = c.toNat
    · subst e
      rw [hb] at hb'
      injection hb' with hb'
      subst hb'
      have hlt : c.toNat < A.L.length := by have := hc.1; have := hc.2; omega
      have : (A.L.set c.toNat W)[c.toNat]? = some W := by rw [List.getElem?_set_self hlt]
      rw [show (A.setC c W).L = A.L.set c.toNat W from rfl, this] at hV
      injection hV with hV
      subst hV
      exact hM
    · have : (A.L.set c.toNat W)[i]? = A.L[i]? := List.getElem?_set_ne (fun h => e h.symm)
      rw [show (A.setC c W).L = A.L.set c.toNat W from rfl, this] at hV
      refine (h.each i b' V hb' hV).keeps hK fun e2 => e ?_
      have h1 := (List.getElem?_eq_some_iff.1 hb').1
      exact (List.getElem?_inj h1 h.once).1 (by rw [hb', hb, e2])
  once := h.once
  inX := h.inX
  old := fun x hx => Nat.lt_of_lt_of_le (h.old x hx) hK.size
  ok := h.ok.setC c hW
  kinds_in := h.kinds_in

theorem look_del_clr (W : Tl) (k : Int) : look (del W k) = clr (look W) k := funext fun j => look_del W k j

theorem del_m (h : PM w s A X) (c k : Int) (hk : wfI k) :
    Calls Try.prog 11 #[.pointer (some ⟨s, 0, none⟩), .int .i64 c, .int .i64 k] w fun e w' => ∃ ev a, e = .returned ev ∧ ErrU w.heap.size w' ev (mDel A c k).2 a ∧ MDid PM w w' s (mDel A c k).1 X := by
  by_cases hc : A.there c
  · have e1 : mDel A c k = (A.setC c (del (A.col c) k), 0) := by unfold mDel; rw [if_pos hc]
    rw [e1]
    have ok := h.ok
    obtain ⟨vK, gC, cap, bs, h⟩ := h
    obtain ⟨b, hb, -, hM, -⟩ := h.there hc
    have cf := Lib.hid (h.found hc hb)
    have hM := Lib.hid hM
    have fin := Lib.hid (fun V (h1 : MH V b (clr (look (A.col c)) k)) (h2 : Keeps (fun x => x = b) w V) => h.becomes hc hb ⟨up_del (ok.col hc).1 k, Nat.le_trans (del_len _ _) (ok.col hc).2⟩ (by rw [look_del_clr]; exact h1) h2)
    have hX := h.inX.2.2.2 b (List.mem_of_getElem? hb)
    clear h hb hc e1 ok
    go_enter Try.func11, Try.ntmps11
    go_wp2_with (first
      | (go_at_call 16; refine cf.out.mono ?_; rintro e w' ⟨rfl, rfl⟩)
      | (at_delete; refine wpList_drop _ rfl _ _ 42 3 rfl 3 iE Try.underlying3 Try.underlying42 b (look (A.col c)) rfl hM.out k rfl hk ?_; intro w2 hM2 hg2; have M2 := Lib.hid hM2; have K2 := Lib.hid (Keeps.of_grown hg2); clear hM2 hg2))
    go_ret
    exact ⟨_, 0, rfl, .inl ⟨rfl, rfl, rfl⟩, X, ⟨_, _, _, _, fin.out _ M2.out K2.out⟩, fun _ => .inl, K2.out.mono fun x _ e => e ▸ hX⟩
  · have e1 : mDel A c k = (A, 3) := by unfold mDel; rw [if_neg hc]
    rw [e1]
    have cf := Lib.hid (h.not_there hc)
    have P := Lib.hid h
    clear h e1 hc
    go_enter Try.func11, Try.ntmps11
    go_wp2_with (go_at_call 16; refine cf.out.mono ?_; rintro e w2 ⟨p, rfl, hE, hK⟩; have E2 := Lib.hid hE; have K2 := Lib.hid hK; clear hE hK)
    go_ret
    exact ⟨_, _, rfl, E2.out, X, P.out.same K2.out, fun _ => .inl, K2.out.mono fun _ _ => False.elim⟩
end
end Go.Proofs.Ytnlogilbiifmiaa
