/-
  What a state of the program is in memory ('PM': the struct, its kinds, its maps; X: the blocks that it has), and that it stays while other blocks change; none, find, ordered by contract.
-/
import Derived.Test.YtnlogilbiifmiaaMoFaceP
import Derived.Test.YtnlogilbiifmiaaWdCell
import Derived.Maps.OwnSet
namespace Go.Proofs.Ytnlogilbiifmiaa
open Go.RowKit Go.Maps Go.Extern.Stop Go.Stop Go.Extern

/-- The elements of a map that are ints. -/
def iE : Enc Int where
  val := fun v => .int .i64 v
  dat := fun v => .lit (.int .i64 v)
  R := fun x => match x with
    | .int .i64 n => some (.lit (.int .i64 n), [])
    | _ => none
  ok := fun v => rfl
  inv := fun x y h => by
    split at h
    · cases h; exact ⟨_, rfl, rfl⟩
    · cases h
  inj := fun u v h => by simpa using h

/-- Rows of maps. -/
def collK : RK Nat where
  T := 54
  e := 42
  size := 1
  bytes := 8
  z := .map none
  cs := fun l => l.map fun b => .map (some b)
  app := fun l m => by simp
  len := fun l => by simp
  one := fun l u hu => by obtain ⟨b, _, rfl⟩ := List.mem_map.1 hu; rfl
  hu := Try.underlying54
  info := by kernel_rfl
  zs := rfl
  pos := by decide
  few := by decide

abbrev MH (w : World) (b : Nat) (f : Int → Option Int) : Prop := HoldsM Try.prog 3 iE w b f
theorem MH.keeps {w w' : World} {b : Nat} {f : Int → Option Int} {S : Nat → Prop} (h : MH w b f) (k : Keeps S w w') (hS : ¬ S b) : MH w' b f :=
  h.of_block (k.block b h.lt hS)

structure PMt (w : World) (s : Nat) (vK : Value) (gC cap : Nat) (bs : List Nat) (A : M8) (X : Nat → Prop) : Prop where
  blk : Whole w s 56 #[vK, .slice (some ⟨gC, 0, none⟩) bs.length cap]
  kinds : IRow w vK A.K
  colls : collK.Row w (.slice (some ⟨gC, 0, none⟩) bs.length cap) bs
  len : bs.length = A.L.length
  each : ∀ (i b : Nat) (W : Tl), bs[i]? = some b → A.L[i]? = some W → MH w b (look W)
  once : bs.Nodup
  inX : X s ∧ (∀ g, vK.ownBlock = some g → X g) ∧ X gC ∧ ∀ b ∈ bs, X b
  old : ∀ x, X x → x < w.heap.size
  ok : A.Ok
  kinds_in : ∀ k ∈ A.K, 1 ≤ k ∧ k ≤ 3

/-- The program's state. -/
def PM (w : World) (s : Nat) (A : M8) (X : Nat → Prop) : Prop := ∃ vK gC cap bs, PMt w s vK gC cap bs A X

section
variable {w w' : World} {s : Nat} {vK : Value} {gC cap : Nat} {bs : List Nat} {A : M8} {X S : Nat → Prop}

theorem PMt.keeps (h : PMt w s vK gC cap bs A X) (k : Keeps S w w') (hS : ∀ x, X x → ¬ S x) : PMt w' s vK gC cap bs A X where
  blk := h.blk.keeps k (hS _ h.inX.1)
  kinds := ownsRow_keeps h.kinds k fun g hg => hS g (h.inX.2.1 g hg)
  colls := ownsRow_keeps h.colls k fun g hg => hS g (by simp [Value.ownBlock] at hg; exact hg ▸ h.inX.2.2.1)
  len := h.len
  each := fun i b W hb hW => (h.each i b W hb hW).keeps k (hS b (h.inX.2.2.2 b (List.mem_of_getElem? hb)))
  once := h.once
  inX := h.inX
  old := fun x hx => Nat.lt_of_lt_of_le (h.old x hx) k.size
  ok := h.ok
  kinds_in := h.kinds_in
theorem PM.keeps (h : PM w s A X) (k : Keeps S w w') (hS : ∀ x, X x → ¬ S x) : PM w' s A X := by
  obtain ⟨vK, gC, cap, bs, h⟩ := h; exact ⟨vK, gC, cap, bs, h.keeps k hS⟩
theorem PM.same (h : PM w s A X) (k : Keeps (fun _ => False) w w') : PM w' s A X := h.keeps k fun _ _ => id
theorem PM.old (h : PM w s A X) : ∀ x, X x → x < w.heap.size := by obtain ⟨vK, gC, cap, bs, h⟩ := h; exact h.old
theorem PM.ok (h : PM w s A X) : A.Ok := by obtain ⟨vK, gC, cap, bs, h⟩ := h; exact h.ok

theorem PMt.coll (h : PMt w s vK gC cap bs A X) {i b : Nat} (hb : bs[i]? = some b) : w.cell? ⟨gC, i, none⟩ = some (.map (some b)) := by
  have hi := (List.getElem?_eq_some_iff.1 hb).1
  refine (World.ownsRow.cellAt h.colls i (by show i < bs.length * 1; omega)).trans ?_
  show (bs.map fun x => Value.map (some x))[i]? = _
  rw [List.getElem?_map, hb]; rfl
/-- A collection: its map. -/
theorem PMt.there (h : PMt w s vK gC cap bs A X) {c : Int} (hc : A.there c) : ∃ b, bs[c.toNat]? = some b ∧ w.cell? ⟨gC, c.toNat, none⟩ = some (.map (some b)) ∧ MH w b (look (A.col c)) ∧ c.toNat < bs.length := by
  have hlt : c.toNat < bs.length := by rw [h.len]; have := hc.1; have := hc.2; omega
  obtain ⟨b, hb⟩ : ∃ b, bs[c.toNat]? = some b := ⟨_, List.getElem?_eq_getElem hlt⟩
  exact ⟨b, hb, h.coll hb, h.each _ b _ hb (M8.col_at hc), hlt⟩
theorem PMt.kind (h : PMt w s vK gC cap bs A X) {c : Int} (hc : A.there c) : ∃ g ck, vK = .slice (some ⟨g, 0, none⟩) bs.length ck ∧ w.cell? ⟨g, c.toNat, none⟩ = some (.int .i64 (A.kind c)) := by
  have hlt : c.toNat < A.K.length := by rw [h.ok.len]; have := hc.1; have := hc.2; omega
  obtain ⟨o, ck, rfl, ho⟩ := irow_cells h.kinds (by rw [h.ok.len, ← h.len])
  obtain ⟨g, rfl, hcs⟩ := ho (by rw [h.len, ← h.ok.len]; omega)
  exact ⟨g, ck, rfl, hcs _ _ (M8.kind_at h.ok hc)⟩

theorem run_equalIn_nilMap (a : Addr) (n c : Nat) (w : World) (d : Nat) : (Op.equalIn (d + 1) 54 (.slice (some a) n c) (.slice none 0 0)).run Try.prog w = .ok false w := by
  simp [Op.equalIn, run_underlying Try.underlying54]
theorem run_eql_nilMaps (a : Addr) (n c : Nat) (w : World) : (binOp .eql 54 (.slice (some a) n c) (.slice none 0 0)).run Try.prog w = .ok (.bool false) w := by
  simp only [binOp]
  simp [Op.equal, Op.maxDepth, run_equalIn_nilMap a n c w 9999]

theorem mnone_nil (w : World) :
    Calls Try.prog 21 #[.pointer none] w fun e w' => e = .returned (.bool true) ∧ w = w' := by
  go_enter Try.func21, Try.ntmps21
  go_wp2
  go_ret
  exact ⟨rfl, rfl⟩

set_option maxRecDepth 100000 in
theorem mnone_there {s g n cap : Nat} (w : World) (hc : w.cell? ⟨s, 1, none⟩ = some (.slice (some ⟨g, 0, none⟩) n cap)) :
    Calls Try.prog 21 #[.pointer (some ⟨s, 0, none⟩)] w fun e w' => e = .returned (.bool false) ∧ w = w' := by
  have he := run_eql_nilMaps ⟨g, 0, none⟩ n cap w
  go_enter Try.func21, Try.ntmps21
  go_wp2
  go_ret
  exact ⟨rfl, rfl⟩

/-- find: a collection's map. -/
theorem find_there {w : World} {s g n cap b : Nat} {c : Int} (h1 : w.cell? ⟨s, 1, none⟩ = some (.slice (some ⟨g, 0, none⟩) n cap)) (hc0 : 0 ≤ c) (hcn : c < (n : Int)) (hb : w.cell? ⟨g, c.toNat, none⟩ = some (.map (some b))) :
    Calls Try.prog 16 #[.pointer (some ⟨s, 0, none⟩), .int .i64 c] w fun e w' => e = .returned (.tuple #[.map (some b), .nilIface]) ∧ w = w' := by
  obtain ⟨i, rfl⟩ : ∃ i : Nat, c = (i : Int) := ⟨c.toNat, by omega⟩
  simp only [Int.toNat_natCast] at hb
  have hn := Lib.hid (mnone_there w h1)
  go_enter Try.func16, Try.ntmps16
  go_wp2_with (go_at_call 21; refine hn.out.mono ?_; rintro e w' ⟨rfl, rfl⟩)
  go_ret2
  exact ⟨rfl, rfl⟩

theorem find_nil (c : Int) (w : World) :
    Calls Try.prog 16 #[.pointer none, .int .i64 c] w fun e w' => e = .returned (.tuple #[.map none, .iface 53 (.int .i64 1)]) ∧ w = w' := by
  go_enter Try.func16, Try.ntmps16
  go_wp2_with (go_at_call 21; refine (mnone_nil _).mono ?_; rintro e w' ⟨rfl, rfl⟩)
  go_ret2
  exact ⟨rfl, rfl⟩

/-- find: there is none such. -/
theorem find_not {w : World} {s g n cap : Nat} {c : Int} (h1 : w.cell? ⟨s, 1, none⟩ = some (.slice (some ⟨g, 0, none⟩) n cap)) (hc : ¬ (0 ≤ c ∧ c < (n : Int))) :
    Calls Try.prog 16 #[.pointer (some ⟨s, 0, none⟩), .int .i64 c] w fun e w' => ∃ p, e = .returned (.tuple #[.map none, .iface 63 (.pointer (some ⟨p, 0, none⟩))]) ∧ ErrU w.heap.size w' (.iface 63 (.pointer (some ⟨p, 0, none⟩))) 3 c ∧ Keeps (fun _ => False) w w' := by
  have hn := Lib.hid (mnone_there w h1)
  have hW := Lib.hid (show ErrU w.heap.size (w.alloc (.cells #[.int .i64 c, .int .i64 3] 65)) (.iface 63 (.pointer (some ⟨w.heap.size, 0, none⟩))) 3 c from .inr (.inr ⟨by decide, by decide, w.heap.size, Nat.le_refl _, rfl, Whole.made _ _ _⟩))
  have hK : Hid (Keeps (fun _ => False) w (w.alloc (.cells #[.int .i64 c, .int .i64 3] 65))) := Lib.hid ((Keeps.refl _ w).alloc _)
  by_cases h0 : c < 0
  · clear hc
    go_enter Try.func16, Try.ntmps16
    go_wp2_with (go_at_call 21; refine hn.out.mono ?_; rintro e w' ⟨rfl, rfl⟩)
    go_ret2
    exact ⟨_, rfl, hW.out, hK.out⟩
  · have hcn : (n : Int) ≤ c := by omega
    clear hc
    go_enter Try.func16, Try.ntmps16
    go_wp2_with (go_at_call 21; refine hn.out.mono ?_; rintro e w' ⟨rfl, rfl⟩)
    go_ret2
    exact ⟨_, rfl, hW.out, hK.out⟩
end
end Go.Proofs.Ytnlogilbiifmiaa
