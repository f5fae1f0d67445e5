/-
  What blocks on an arena are in memory ('Bk': the struct, its arena, the map of all blocks, the map of freed places with a row for each size; X: the blocks of memory that it has), and that they stay while other blocks change.
-/
import Derived.Test.YtenhmficiegpiaaGreatDoorBkSmall
namespace Go.Proofs.YtenhmficiegpiaaGreatDoor
open Go.RowKit Go.Extern.Stop Go.Stop Go.Extern

/-- The slice of freed places of a size. -/
def rowAt (rows : Int → Option RowV) (n : Nat) : RowV := (rows (n : Int)).getD none

/-- Places as cells. -/
def placeCells (l : List Nat) : List Value := l.map fun (p : Nat) => Value.int .i64 (p : Int)

/-- What lies in memory: f: what the map of all blocks has; fr: the places that were freed, by sizes. -/
structure BkRaw (w : World) (b a bw mb fb : Nat) (ws : List Int) (cnt : Nat) (f : Int → Option BV) (fr : Nat → List Nat) (top : Nat) (rows : Int → Option RowV) (X : Nat → Prop) : Prop where
  blk : Whole w b 90 #[.pointer (some ⟨a, 0, none⟩), .map (some mb), .map (some fb), .int .i64 top]
  arena : Arena w a bw ws cnt
  all : HoldsM Tryz.prog 3 bvE w mb f
  freed : HoldsM Tryz.prog 3 rowE w fb rows
  own : ∀ n : Nat, w.ownsRow 0 3 1 (rowVal (rowAt rows n)) (fr n).length (placeCells (fr n))
  apart : ∀ n m : Nat, n ≠ m → ∀ g, (rowVal (rowAt rows n)).ownBlock = some g → (rowVal (rowAt rows m)).ownBlock ≠ some g
  keys : ∀ k, (rows k).isSome = true → 1 ≤ k ∧ k ≤ 64
  ne : mb ≠ fb
  inX : X b ∧ X a ∧ X bw ∧ X mb ∧ X fb
  rowX : ∀ n g, (rowVal (rowAt rows n)).ownBlock = some g → X g
  old : ∀ k, X k → k < w.heap.size

/-- .. in the state st. -/
structure BkParts (w : World) (b a bw mb fb : Nat) (ws : List Int) (cnt : Nat) (st : St) (rows : Int → Option RowV) (X : Nat → Prop) : Prop extends BkRaw w b a bw mb fb ws cnt (allF st) st.fr st.top rows X where
  ok : st.Ok ws.length

/-- Block b is blocks on an arena with the words ws, accessed cnt times, in the state st; what it has in memory is among X. -/
def Bk (w : World) (b : Nat) (ws : List Int) (cnt : Nat) (st : St) (X : Nat → Prop) : Prop :=
  ∃ a bw mb fb rows, BkParts w b a bw mb fb ws cnt st rows X

theorem HoldsM.keeps {V : Type} {P : Program} {K : TypeId} {E : Enc V} {w w' : World} {b : Nat} {f : Int → Option V} {S : Nat → Prop} (h : HoldsM P K E w b f) (k : Keeps S w w') (hS : ¬ S b) : HoldsM P K E w' b f :=
  h.of_block (k.block b h.lt hS)

theorem ownsRow_keeps {w w' : World} {base : Nat} {e : TypeId} {size : Nat} {v : Value} {n : Nat} {xs : List Value} {S : Nat → Prop} (h : w.ownsRow base e size v n xs) (k : Keeps S w w') (hS : ∀ g, v.ownBlock = some g → ¬ S g) : w'.ownsRow base e size v n xs := by
  refine ⟨h.1, ?_⟩
  rcases h.2 with hn | ⟨g, cap, cur, rfl, hb, hgg, rest⟩
  · exact .inl hn
  · exact .inr ⟨g, cap, cur, rfl, hb, (k.block g (lt_of_block hgg) (hS g rfl)).trans hgg, rest⟩

theorem BkRaw.keeps {w w' : World} {b a bw mb fb : Nat} {ws : List Int} {cnt : Nat} {f : Int → Option BV} {fr : Nat → List Nat} {top : Nat} {rows : Int → Option RowV} {X S : Nat → Prop} (h : BkRaw w b a bw mb fb ws cnt f fr top rows X) (k : Keeps S w w') (hS : ∀ x, X x → ¬ S x) : BkRaw w' b a bw mb fb ws cnt f fr top rows X where
  blk := h.blk.keeps k (hS _ h.inX.1)
  arena := h.arena.keeps k (hS _ h.inX.2.1) (hS _ h.inX.2.2.1)
  all := h.all.keeps k (hS _ h.inX.2.2.2.1)
  freed := h.freed.keeps k (hS _ h.inX.2.2.2.2)
  own := fun n => ownsRow_keeps (h.own n) k fun g hg => hS _ (h.rowX n g hg)
  apart := h.apart
  keys := h.keys
  ne := h.ne
  inX := h.inX
  rowX := h.rowX
  old := fun x hx => Nat.lt_of_lt_of_le (h.old x hx) k.size

theorem BkParts.keeps {w w' : World} {b a bw mb fb : Nat} {ws : List Int} {cnt : Nat} {st : St} {rows : Int → Option RowV} {X S : Nat → Prop} (h : BkParts w b a bw mb fb ws cnt st rows X) (k : Keeps S w w') (hS : ∀ x, X x → ¬ S x) : BkParts w' b a bw mb fb ws cnt st rows X :=
  ⟨h.toBkRaw.keeps k hS, h.ok⟩

theorem Bk.keeps {w w' : World} {b : Nat} {ws : List Int} {cnt : Nat} {st : St} {X S : Nat → Prop} (h : Bk w b ws cnt st X) (k : Keeps S w w') (hS : ∀ x, X x → ¬ S x) : Bk w' b ws cnt st X := by
  obtain ⟨a, bw, mb, fb, rows, h⟩ := h
  exact ⟨a, bw, mb, fb, rows, h.keeps k hS⟩
theorem Bk.same {w w' : World} {b : Nat} {ws : List Int} {cnt : Nat} {st : St} {X : Nat → Prop} (h : Bk w b ws cnt st X) (k : Keeps (fun _ => False) w w') : Bk w' b ws cnt st X := h.keeps k fun _ _ => id
theorem Bk.alloc {w : World} {b : Nat} {ws : List Int} {cnt : Nat} {st : St} {X : Nat → Prop} (h : Bk w b ws cnt st X) (o : Obj) : Bk (w.alloc o) b ws cnt st X := h.same ((Keeps.refl _ w).alloc o)
theorem Bk.old {w : World} {b : Nat} {ws : List Int} {cnt : Nat} {st : St} {X : Nat → Prop} (h : Bk w b ws cnt st X) : ∀ k, X k → k < w.heap.size := by obtain ⟨a, bw, mb, fb, rows, h⟩ := h; exact h.old

theorem Whole.ne_map {V : Type} {P : Program} {K : TypeId} {E : Enc V} {w : World} {b g : Nat} {t : TypeId} {cs : Array Value} {f : Int → Option V} (h : Whole w g t cs) (h' : HoldsM P K E w b f) : g ≠ b := by
  rintro rfl
  obtain ⟨D, n, ⟨es, clock, hb, _⟩, _⟩ := h'
  unfold Whole at h
  rw [h] at hb
  cases hb

theorem zero_bv (w : World) : (zeroValue 93).run Tryz.prog w = .ok (bvE.val ⟨0, 0, false⟩) w := by kernel_rfl
theorem zero_row (w : World) : (zeroValue 22).run Tryz.prog w = .ok (rowE.val none) w := by kernel_rfl

theorem none_bk_nil (w : World) :
    Calls Tryz.prog 35 #[.pointer none] w fun e w' => e = .returned (.bool true) ∧ w = w' := by
  go_enter Tryz.func35, Tryz.ntmps35
  go_wp2
  go_ret
  exact ⟨rfl, rfl⟩

theorem none_bk {b : Nat} {a : Addr} (w : World) (hc : w.cell? ⟨b, 0, none⟩ = some (.pointer (some a))) :
    Calls Tryz.prog 35 #[.pointer (some ⟨b, 0, none⟩)] w fun e w' => e = .returned (.bool false) ∧ w = w' := by
  go_enter Tryz.func35, Tryz.ntmps35
  go_wp2
  go_ret
  exact ⟨rfl, rfl⟩

/-- A block's fields as a value. -/
def Blk.val (B : Blk) : Value := .agg #[.int .i64 B.size, .int .u32 B.gen, .bool B.live]
end Go.Proofs.YtenhmficiegpiaaGreatDoor
