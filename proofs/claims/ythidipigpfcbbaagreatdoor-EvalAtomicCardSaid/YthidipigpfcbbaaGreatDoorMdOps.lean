/-
  What a state of the program is in memory ('PM': the struct, its kinds, its maps; X: the blocks that it has), and that it stays while other blocks change; none, find, ordered by contract.
  Get, Put, Del, Size of the program's states by contract.
-/
import Derived.Test.YthidipigpfcbbaaGreatDoorMoOn8
import Derived.Test.YthidipigpfcbbaaGreatDoorBkArgs
import Derived.Maps.OwnSet
import Derived.Maps.RangeWalk

namespace Go.Proofs.YthidipigpfcbbaaGreatDoor
open Go.RowKit Go.Maps Go.Extern.Stop Go.Stop Go.Extern

/-- The elements of a map that are ints. -/
def iE : Enc Int where
  val := fun v => .int .i64 v
  dat := fun v => .lit (.int .i64 v)
  R := fun x => match x with
    | .int .i64 n => some (.lit (.int .i64 n), [])
    | _ => none
  ok := fun v => rfl
  inv := fun x y h => by
    split at h
    · cases h; exact ⟨_, rfl, rfl⟩
    · cases h
  inj := fun u v h => by simpa using h

/-- Rows of maps. -/
def collK : RK Nat where
  T := 79
  e := 83
  size := 1
  bytes := 8
  z := .map none
  cs := fun l => l.map fun b => .map (some b)
  app := fun l m => by simp
  len := fun l => by simp
  one := fun l u hu => by obtain ⟨b, _, rfl⟩ := List.mem_map.1 hu; rfl
  hu := Tryz.underlying79
  info := by kernel_rfl
  zs := rfl
  pos := by decide
  few := by decide

abbrev MH (w : World) (b : Nat) (f : Int → Option Int) : Prop := HoldsM Tryz.prog 3 iE w b f
theorem MH.keeps {w w' : World} {b : Nat} {f : Int → Option Int} {S : Nat → Prop} (h : MH w b f) (k : Keeps S w w') (hS : ¬ S b) : MH w' b f :=
  h.of_block (k.block b h.lt hS)

structure PMt (w : World) (s : Nat) (vK : Value) (gC cap : Nat) (bs : List Nat) (A : M8) (X : Nat → Prop) : Prop where
  blk : Whole w s 81 #[vK, .slice (some ⟨gC, 0, none⟩) bs.length cap]
  kinds : IRow w vK A.K
  colls : collK.Row w (.slice (some ⟨gC, 0, none⟩) bs.length cap) bs
  len : bs.length = A.L.length
  each : ∀ (i b : Nat) (W : Tl), bs[i]? = some b → A.L[i]? = some W → MH w b (look W)
  once : bs.Nodup
  inX : X s ∧ (∀ g, vK.ownBlock = some g → X g) ∧ X gC ∧ ∀ b ∈ bs, X b
  old : ∀ x, X x → x < w.heap.size
  ok : A.Ok
  kinds_in : ∀ k ∈ A.K, 1 ≤ k ∧ k ≤ 3

/-- The program's state. -/
def PM (w : World) (s : Nat) (A : M8) (X : Nat → Prop) : Prop := ∃ vK gC cap bs, PMt w s vK gC cap bs A X

section
variable {w w' : World} {s : Nat} {vK : Value} {gC cap : Nat} {bs : List Nat} {A : M8} {X S : Nat → Prop}

theorem PMt.keeps (h : PMt w s vK gC cap bs A X) (k : Keeps S w w') (hS : ∀ x, X x → ¬ S x) : PMt w' s vK gC cap bs A X where
  blk := h.blk.keeps k (hS _ h.inX.1)
  kinds := ownsRow_keeps h.kinds k fun g hg => hS g (h.inX.2.1 g hg)
  colls := ownsRow_keeps h.colls k fun g hg => hS g (by simp [Value.ownBlock] at hg; exact hg ▸ h.inX.2.2.1)
  len := h.len
  each := fun i b W hb hW => (h.each i b W hb hW).keeps k (hS b (h.inX.2.2.2 b (List.mem_of_getElem? hb)))
  once := h.once
  inX := h.inX
  old := fun x hx => Nat.lt_of_lt_of_le (h.old x hx) k.size
  ok := h.ok
  kinds_in := h.kinds_in
theorem PM.keeps (h : PM w s A X) (k : Keeps S w w') (hS : ∀ x, X x → ¬ S x) : PM w' s A X := by
  obtain ⟨vK, gC, cap, bs, h⟩ := h; exact ⟨vK, gC, cap, bs, h.keeps k hS⟩
theorem PM.same (h : PM w s A X) (k : Keeps (fun _ => False) w w') : PM w' s A X := h.keeps k fun _ _ => id
theorem PM.old (h : PM w s A X) : ∀ x, X x → x < w.heap.size := by obtain ⟨vK, gC, cap, bs, h⟩ := h; exact h.old
theorem PM.ok (h : PM w s A X) : A.Ok := by obtain ⟨vK, gC, cap, bs, h⟩ := h; exact h.ok

theorem PMt.coll (h : PMt w s vK gC cap bs A X) {i b : Nat} (hb : bs[i]? = some b) : w.cell? ⟨gC, i, none⟩ = some (.map (some b)) := by
  have hi := (List.getElem?_eq_some_iff.1 hb).1
  refine (World.ownsRow.cellAt h.colls i (by show i < bs.length * 1; omega)).trans ?_
  show (bs.map fun x => Value.map (some x))[i]? = _
  rw [List.getElem?_map, hb]; rfl
/-- A collection: its map. -/
theorem PMt.there (h : PMt w s vK gC cap bs A X) {c : Int} (hc : A.there c) : ∃ b, bs[c.toNat]? = some b ∧ w.cell? ⟨gC, c.toNat, none⟩ = some (.map (some b)) ∧ MH w b (look (A.col c)) ∧ c.toNat < bs.length := by
  have hlt : c.toNat < bs.length := by rw [h.len]; have := hc.1; have := hc.2; omega
  obtain ⟨b, hb⟩ : ∃ b, bs[c.toNat]? = some b := ⟨_, List.getElem?_eq_getElem hlt⟩
  exact ⟨b, hb, h.coll hb, h.each _ b _ hb (M8.col_at hc), hlt⟩
theorem PMt.kind (h : PMt w s vK gC cap bs A X) {c : Int} (hc : A.there c) : ∃ g ck, vK = .slice (some ⟨g, 0, none⟩) bs.length ck ∧ w.cell? ⟨g, c.toNat, none⟩ = some (.int .i64 (A.kind c)) := by
  have hlt : c.toNat < A.K.length := by rw [h.ok.len]; have := hc.1; have := hc.2; omega
  obtain ⟨o, ck, rfl, ho⟩ := irow_cells h.kinds (by rw [h.ok.len, ← h.len])
  obtain ⟨g, rfl, hcs⟩ := ho (by rw [h.len, ← h.ok.len]; omega)
  exact ⟨g, ck, rfl, hcs _ _ (M8.kind_at h.ok hc)⟩

theorem run_equalIn_nilMap (a : Addr) (n c : Nat) (w : World) (d : Nat) : (Op.equalIn (d + 1) 79 (.slice (some a) n c) (.slice none 0 0)).run Tryz.prog w = .ok false w := by
  simp [Op.equalIn, run_underlying Tryz.underlying79]
theorem run_eql_nilMaps (a : Addr) (n c : Nat) (w : World) : (binOp .eql 79 (.slice (some a) n c) (.slice none 0 0)).run Tryz.prog w = .ok (.bool false) w := by
  simp only [binOp]
  simp [Op.equal, Op.maxDepth, run_equalIn_nilMap a n c w 9999]

theorem mnone_nil (w : World) :
    Calls Tryz.prog 31 #[.pointer none] w fun e w' => e = .returned (.bool true) ∧ w = w' := by
  go_enter Tryz.func31, Tryz.ntmps31
  go_wp2
  go_ret
  exact ⟨rfl, rfl⟩

set_option maxRecDepth 100000 in
theorem mnone_there {s g n cap : Nat} (w : World) (hc : w.cell? ⟨s, 1, none⟩ = some (.slice (some ⟨g, 0, none⟩) n cap)) :
    Calls Tryz.prog 31 #[.pointer (some ⟨s, 0, none⟩)] w fun e w' => e = .returned (.bool false) ∧ w = w' := by
  have he := run_eql_nilMaps ⟨g, 0, none⟩ n cap w
  go_enter Tryz.func31, Tryz.ntmps31
  go_wp2
  go_ret
  exact ⟨rfl, rfl⟩

/-- find: a collection's map. -/
theorem find_there {w : World} {s g n cap b : Nat} {c : Int} (h1 : w.cell? ⟨s, 1, none⟩ = some (.slice (some ⟨g, 0, none⟩) n cap)) (hc0 : 0 ≤ c) (hcn : c < (n : Int)) (hb : w.cell? ⟨g, c.toNat, none⟩ = some (.map (some b))) :
    Calls Tryz.prog 37 #[.pointer (some ⟨s, 0, none⟩), .int .i64 c] w fun e w' => e = .returned (.tuple #[.map (some b), .nilIface]) ∧ w = w' := by
  obtain ⟨i, rfl⟩ : ∃ i : Nat, c = (i : Int) := ⟨c.toNat, by omega⟩
  simp only [Int.toNat_natCast] at hb
  have hn := Lib.hid (mnone_there w h1)
  go_enter Tryz.func37, Tryz.ntmps37
  go_wp2_with (go_at_call 31; refine hn.out.mono ?_; rintro e w' ⟨rfl, rfl⟩)
  go_ret2
  exact ⟨rfl, rfl⟩

theorem find_nil (c : Int) (w : World) :
    Calls Tryz.prog 37 #[.pointer none, .int .i64 c] w fun e w' => e = .returned (.tuple #[.map none, .iface 65 (.int .i64 1)]) ∧ w = w' := by
  go_enter Tryz.func37, Tryz.ntmps37
  go_wp2_with (go_at_call 31; refine (mnone_nil _).mono ?_; rintro e w' ⟨rfl, rfl⟩)
  go_ret2
  exact ⟨rfl, rfl⟩

/-- find: there is none such. -/
theorem find_not {w : World} {s g n cap : Nat} {c : Int} (h1 : w.cell? ⟨s, 1, none⟩ = some (.slice (some ⟨g, 0, none⟩) n cap)) (hc : ¬ (0 ≤ c ∧ c < (n : Int))) :
    Calls Tryz.prog 37 #[.pointer (some ⟨s, 0, none⟩), .int .i64 c] w fun e w' => ∃ p, e = .returned (.tuple #[.map none, .iface 103 (.pointer (some ⟨p, 0, none⟩))]) ∧ ErrU w.heap.size w' (.iface 103 (.pointer (some ⟨p, 0, none⟩))) 3 c ∧ Keeps (fun _ => False) w w' := by
  have hn := Lib.hid (mnone_there w h1)
  have hW := Lib.hid (show ErrU w.heap.size (w.alloc (.cells #[.int .i64 c, .int .i64 3] 105)) (.iface 103 (.pointer (some ⟨w.heap.size, 0, none⟩))) 3 c from .inr (.inr ⟨by decide, by decide, w.heap.size, Nat.le_refl _, rfl, Whole.made _ _ _⟩))
  have hK : Hid (Keeps (fun _ => False) w (w.alloc (.cells #[.int .i64 c, .int .i64 3] 105))) := Lib.hid ((Keeps.refl _ w).alloc _)
  by_cases h0 : c < 0
  · clear hc
    go_enter Tryz.func37, Tryz.ntmps37
    go_wp2_with (go_at_call 31; refine hn.out.mono ?_; rintro e w' ⟨rfl, rfl⟩)
    go_ret2
    exact ⟨_, rfl, hW.out, hK.out⟩
  · have hcn : (n : Int) ≤ c := by omega
    clear hc
    go_enter Tryz.func37, Tryz.ntmps37
    go_wp2_with (go_at_call 31; refine hn.out.mono ?_; rintro e w' ⟨rfl, rfl⟩)
    go_ret2
    exact ⟨_, rfl, hW.out, hK.out⟩
end
end Go.Proofs.YthidipigpfcbbaaGreatDoor

namespace Go.Proofs.YthidipigpfcbbaaGreatDoor
open Go.RowKit Go.Maps Go.Extern.Stop Go.Stop Go.Extern

theorem zero_i (w : World) : (zeroValue 3).run Tryz.prog w = .ok (iE.val 0) w := by kernel_rfl

/-- len of a map. -/
theorem MH.len {w : World} {b : Nat} {W : Tl} (h : MH w b (look W)) (hW : UpW W) (ty : TypeId) : (Builtin.len_ #[83] ty #[.map (some b)]).run Tryz.prog w = .ok (.int .i64 (W.length : Nat)) w := by
  obtain ⟨D, n, h1, h2, h3⟩ := h
  have e := h1.len (t := 83) Tryz.underlying83 ty
  have hk := look_keys hW
  have e2 := HoldsM.size_eq (K := 3) (E := iE) Tryz.underlying3 h1 h3 (W.map (·.1)) hk.1 hk.2
  rw [e2] at e
  simpa using e

section
variable {w : World} {s : Nat} {A : M8} {X : Nat → Prop}

theorem PM.not_there {w : World} {s : Nat} {A : M8} {X : Nat → Prop} (h : PM w s A X) {c : Int} (hc : ¬ A.there c) :
    Calls Tryz.prog 37 #[.pointer (some ⟨s, 0, none⟩), .int .i64 c] w fun e w' => ∃ p, e = .returned (.tuple #[.map none, .iface 103 (.pointer (some ⟨p, 0, none⟩))]) ∧ ErrU w.heap.size w' (.iface 103 (.pointer (some ⟨p, 0, none⟩))) 3 c ∧ Keeps (fun _ => False) w w' := by
  obtain ⟨vK, gC, cap, bs, h⟩ := h
  refine find_not (h.blk.at_ 1) fun h2 => hc ⟨h2.1, ?_⟩
  rw [← h.len]; exact h2.2
theorem PMt.found {w : World} {s : Nat} {vK : Value} {gC cap : Nat} {bs : List Nat} {A : M8} {X : Nat → Prop} (h : PMt w s vK gC cap bs A X) {c : Int} (hc : A.there c) {b : Nat} (hb : bs[c.toNat]? = some b) :
    Calls Tryz.prog 37 #[.pointer (some ⟨s, 0, none⟩), .int .i64 c] w fun e w' => e = .returned (.tuple #[.map (some b), .nilIface]) ∧ w = w' :=
  find_there (h.blk.at_ 1) hc.1 (by rw [h.len]; exact hc.2) (h.coll hb)

theorem get_m (h : PM w s A X) (c k : Int) (hk : wfI k) :
    Calls Tryz.prog 54 #[.pointer (some ⟨s, 0, none⟩), .int .i64 c, .int .i64 k] w fun e w' => ∃ ev, e = .returned (.tuple #[.int .i64 (mGet A c k).1, .bool (mGet A c k).2.1, ev]) ∧ ErrU w.heap.size w' ev (mGet A c k).2.2 (atC A c) ∧ Keeps (fun _ => False) w w' := by
  by_cases hc : A.there c
  · have e1 : mGet A c k = ((look (A.col c) k).getD 0, (look (A.col c) k).isSome, 0) := by unfold mGet; rw [if_pos hc]
    have e2 : atC A c = 0 := by unfold atC; rw [if_pos hc]
    rw [e1, e2]
    obtain ⟨vK, gC, cap, bs, h⟩ := h
    obtain ⟨b, hb, -, hM, -⟩ := h.there hc
    have cf := Lib.hid (h.found hc hb)
    have hM := Lib.hid hM
    obtain ⟨x, hx⟩ : ∃ x, (look (A.col c) k).getD 0 = x := ⟨_, rfl⟩
    obtain ⟨y, hy⟩ : ∃ y, (look (A.col c) k).isSome = y := ⟨_, rfl⟩
    simp only [hx, hy]
    have hx' := Lib.hid hx
    have hy' := Lib.hid hy
    clear h hx hy e1 e2 hb hc
    go_enter Tryz.func54, Tryz.ntmps54
    go_wp2_with (first
      | (go_at_call 37; refine cf.out.mono ?_; rintro e w' ⟨rfl, rfl⟩)
      | (at_lookup; refine wpList_look_ok _ rfl _ _ _ rfl 3 3 iE Tryz.underlying3 Tryz.underlying83 0 (zero_i _) b (look (A.col c)) rfl hM.out k rfl hk (.int .i64 x) y (by rw [hx'.out]; rfl) hy'.out ?_))
    go_ret3
    exact ⟨_, rfl, .inl ⟨rfl, rfl, rfl⟩, Keeps.refl _ _⟩
  · have e1 : mGet A c k = (0, false, 3) := by unfold mGet; rw [if_neg hc]
    have e2 : atC A c = c := by unfold atC; rw [if_neg hc]
    rw [e1, e2]
    have cf := Lib.hid (h.not_there hc)
    clear h e1 e2 hc
    go_enter Tryz.func54, Tryz.ntmps54
    go_wp2_with (go_at_call 37; refine cf.out.mono ?_; rintro e w2 ⟨p, rfl, hE, hK⟩; have E2 := Lib.hid hE; have K2 := Lib.hid hK; clear hE hK)
    go_ret3
    exact ⟨_, rfl, E2.out, K2.out⟩

theorem size_m (h : PM w s A X) (c : Int) (hc : A.there c) :
    Calls Tryz.prog 43 #[.pointer (some ⟨s, 0, none⟩), .int .i64 c] w fun e w' => e = .returned (.tuple #[.int .i64 ((A.col c).length : Nat), .nilIface]) ∧ Keeps (fun _ => False) w w' := by
  have ok := h.ok
  obtain ⟨vK, gC, cap, bs, h⟩ := h
  obtain ⟨b, hb, -, hM, -⟩ := h.there hc
  have cf := Lib.hid (h.found hc hb)
  have hl := hM.len (ok.col hc).1
  obtain ⟨n, hn⟩ : ∃ n, (A.col c).length = n := ⟨_, rfl⟩
  rw [hn] at hl ⊢
  clear h hM hb hn ok
  go_enter Tryz.func43, Tryz.ntmps43
  go_wp2_with (go_at_call 37; refine cf.out.mono ?_; rintro e w' ⟨rfl, rfl⟩)
  go_ret2
  exact ⟨rfl, Keeps.refl _ _⟩

/-- A state whose collection c has become W. -/
theorem PMt.becomes {w w' : World} {s : Nat} {vK : Value} {gC cap : Nat} {bs : List Nat} {A : M8} {X : Nat → Prop} (h : PMt w s vK gC cap bs A X) {c : Int} (hc : A.there c) {b : Nat} (hb : bs[c.toNat]? = some b) {W : Tl} (hW : UpW W ∧ W.length ≤ 100) (hM : MH w' b (look W)) (hK : Keeps (fun x => x = b) w w') :
    PMt w' s vK gC cap bs (A.setC c W) X where
  blk := h.blk.keeps hK fun e => h.blk.ne_map (h.each _ _ _ hb (M8.col_at hc)) e
  kinds := ownsRow_keeps h.kinds hK fun g hg e => row_ne_map h.kinds (h.each _ _ _ hb (M8.col_at hc)) (by rw [hg, e])
  colls := ownsRow_keeps h.colls hK fun g hg e => row_ne_map h.colls (h.each _ _ _ hb (M8.col_at hc)) (by rw [hg, e])
  len := by simpa [M8.setC] using h.len
  each := fun i b' V hb' hV => by
    by_cases e : i = c.toNat
    · subst e
      rw [hb] at hb'
      injection hb' with hb'
      subst hb'
      have hlt : c.toNat < A.L.length := by have := hc.1; have := hc.2; omega
      have : (A.L.set c.toNat W)[c.toNat]? = some W := by rw [List.getElem?_set_self hlt]
      rw [show (A.setC c W).L = A.L.set c.toNat W from rfl, this] at hV
      injection hV with hV
      subst hV
      exact hM
    · have : (A.L.set c.toNat W)[i]? = A.L[i]? := List.getElem?_set_ne (fun h => e h.symm)
      rw [show (A.setC c W).L = A.L.set c.toNat W from rfl, this] at hV
      refine (h.each i b' V hb' hV).keeps hK fun e2 => e ?_
      have h1 := (List.getElem?_eq_some_iff.1 hb').1
      exact (List.getElem?_inj h1 h.once).1 (by rw [hb', hb, e2])
  once := h.once
  inX := h.inX
  old := fun x hx => Nat.lt_of_lt_of_le (h.old x hx) hK.size
  ok := h.ok.setC c hW
  kinds_in := h.kinds_in

theorem look_del_clr (W : Tl) (k : Int) : look (del W k) = clr (look W) k := funext fun j => look_del W k j

theorem del_m (h : PM w s A X) (c k : Int) (hk : wfI k) :
    Calls Tryz.prog 58 #[.pointer (some ⟨s, 0, none⟩), .int .i64 c, .int .i64 k] w fun e w' => ∃ ev a, e = .returned ev ∧ ErrU w.heap.size w' ev (mDel A c k).2 a ∧ MDid PM w w' s (mDel A c k).1 X := by
  by_cases hc : A.there c
  · have e1 : mDel A c k = (A.setC c (del (A.col c) k), 0) := by unfold mDel; rw [if_pos hc]
    rw [e1]
    have ok := h.ok
    obtain ⟨vK, gC, cap, bs, h⟩ := h
    obtain ⟨b, hb, -, hM, -⟩ := h.there hc
    have cf := Lib.hid (h.found hc hb)
    have hM := Lib.hid hM
    have fin := Lib.hid (fun V (h1 : MH V b (clr (look (A.col c)) k)) (h2 : Keeps (fun x => x = b) w V) => h.becomes hc hb ⟨up_del (ok.col hc).1 k, Nat.le_trans (del_len _ _) (ok.col hc).2⟩ (by rw [look_del_clr]; exact h1) h2)
    have hX := h.inX.2.2.2 b (List.mem_of_getElem? hb)
    clear h hb hc e1 ok
    go_enter Tryz.func58, Tryz.ntmps58
    go_wp2_with (first
      | (go_at_call 37; refine cf.out.mono ?_; rintro e w' ⟨rfl, rfl⟩)
      | (at_delete; refine wpList_drop _ rfl _ _ 83 3 rfl 3 iE Tryz.underlying3 Tryz.underlying83 b (look (A.col c)) rfl hM.out k rfl hk ?_; intro w2 hM2 hg2; have M2 := Lib.hid hM2; have K2 := Lib.hid (Keeps.of_grown hg2); clear hM2 hg2))
    go_ret
    exact ⟨_, 0, rfl, .inl ⟨rfl, rfl, rfl⟩, X, ⟨_, _, _, _, fin.out _ M2.out K2.out⟩, fun _ => .inl, K2.out.mono fun x _ e => e ▸ hX⟩
  · have e1 : mDel A c k = (A, 3) := by unfold mDel; rw [if_neg hc]
    rw [e1]
    have cf := Lib.hid (h.not_there hc)
    have P := Lib.hid h
    clear h e1 hc
    go_enter Tryz.func58, Tryz.ntmps58
    go_wp2_with (go_at_call 37; refine cf.out.mono ?_; rintro e w2 ⟨p, rfl, hE, hK⟩; have E2 := Lib.hid hE; have K2 := Lib.hid hK; clear hE hK)
    go_ret
    exact ⟨_, _, rfl, E2.out, X, P.out.same K2.out, fun _ => .inl, K2.out.mono fun _ _ => False.elim⟩
end
end Go.Proofs.YthidipigpfcbbaaGreatDoor
