/-
  What sets are in memory ('PS': the struct, its rows and maps; X: the memory blocks that it has), and that they stay while other blocks change; none, New, Get, Version by contract.
-/
import Derived.Test.YtkolkimmhlmlgaaDoorStPlain
import Derived.Test.YtkolkimmhlmlgaaDoorWdNo
import Derived.Laws.AppendOwn
namespace Go.Proofs.YtkolkimmhlmlgaaDoor
open Go.RowKit Go.Maps Go.Extern.Stop Go.Stop Go.Extern

/-- The elements of a map that are ints. -/
def iE : Enc Int where
  val := fun v => .int .i64 v
  dat := fun v => .lit (.int .i64 v)
  R := fun x => match x with
    | .int .i64 n => some (.lit (.int .i64 n), [])
    | _ => none
  ok := fun v => rfl
  inv := fun x y h => by
    split at h
    · cases h; exact ⟨_, rfl, rfl⟩
    · cases h
  inj := fun u v h => by simpa using h

/-- What a cell had, as a value. -/
def befVal (x : Bef) : Value := .agg #[.int .u64 x.1, .bool x.2]
def bE : Enc Bef where
  val := befVal
  dat := fun x => .agg [.lit (.int .u64 x.1), .lit (.bool x.2)]
  R := fun x => match x with
    | .agg ⟨[.int .u64 n, .bool b]⟩ => some (.agg [.lit (.int .u64 n), .lit (.bool b)], [])
    | _ => none
  ok := fun v => rfl
  inv := fun x y h => by
    split at h
    · cases h; rename_i n b; exact ⟨⟨n, b⟩, rfl, rfl⟩
    · cases h
  inj := fun u v h => by
    obtain ⟨a, b⟩ := u
    obtain ⟨c, d⟩ := v
    simp at h
    rw [h.1, h.2]

/-! ### rows of pairs -/
def cells2 (q : IntKind) (l : Tl) : List Value := l.flatMap fun p => [.int .u64 p.1, .int q p.2]

theorem cells2_len (q : IntKind) (l : Tl) : (cells2 q l).length = l.length * 2 := by
  induction l with
  | nil => rfl
  | cons t l ih => simp only [cells2, List.flatMap_cons, List.length_append, List.length_cons, List.length_nil] at ih ⊢; omega
theorem cells2_app (q : IntKind) (l m : Tl) : cells2 q (l ++ m) = cells2 q l ++ cells2 q m := by simp [cells2]
theorem cells2_fst (q : IntKind) : ∀ (l : Tl) (k : Nat) (p : Int × Int), l[k]? = some p → (cells2 q l)[k * 2]? = some (.int .u64 p.1)
  | t :: l, 0, p, h => by simp at h; subst h; simp [cells2]
  | t :: l, k + 1, p, h => by
    have := cells2_fst q l k p (by simpa using h)
    have e : (k + 1) * 2 = k * 2 + 1 + 1 := by omega
    simp only [cells2, List.flatMap_cons, List.cons_append, List.nil_append] at this ⊢
    rw [e, List.getElem?_cons_succ, List.getElem?_cons_succ, this]
  | [], k, p, h => by simp at h
theorem cells2_snd (q : IntKind) : ∀ (l : Tl) (k : Nat) (p : Int × Int), l[k]? = some p → (cells2 q l)[k * 2 + 1]? = some (.int q p.2)
  | t :: l, 0, p, h => by simp at h; subst h; simp [cells2]
  | t :: l, k + 1, p, h => by
    have := cells2_snd q l k p (by simpa using h)
    have e : (k + 1) * 2 + 1 = k * 2 + 1 + 1 + 1 := by omega
    simp only [cells2, List.flatMap_cons, List.cons_append, List.nil_append] at this ⊢
    rw [e, List.getElem?_cons_succ, List.getElem?_cons_succ, this]
  | [], k, p, h => by simp at h
theorem cells2_one (q : IntKind) (l : Tl) : ∀ u ∈ cells2 q l, u.oneCell' = true := by
  intro u hu
  simp only [cells2, List.mem_flatMap] at hu
  obtain ⟨t, _, hu⟩ := hu
  simp at hu
  rcases hu with rfl | rfl <;> rfl

/-! ### what stays -/
theorem HoldsM.keeps {V : Type} {P : Program} {K : TypeId} {E : Enc V} {w w' : World} {b : Nat} {f : Int → Option V} {S : Nat → Prop} (h : HoldsM P K E w b f) (k : Keeps S w w') (hS : ¬ S b) : HoldsM P K E w' b f :=
  h.of_block (k.block b h.lt hS)
theorem ownsRow_keeps {w w' : World} {base : Nat} {e : TypeId} {size : Nat} {v : Value} {n : Nat} {xs : List Value} {S : Nat → Prop} (h : w.ownsRow base e size v n xs) (k : Keeps S w w') (hS : ∀ g, v.ownBlock = some g → ¬ S g) : w'.ownsRow base e size v n xs := by
  refine ⟨h.1, ?_⟩
  rcases h.2 with hn | ⟨g, cap, cur, rfl, hb, hgg, rest⟩
  · exact .inl hn
  · exact .inr ⟨g, cap, cur, rfl, hb, (k.block g (lt_of_block hgg) (hS g rfl)).trans hgg, rest⟩
theorem Whole.ne_map {V : Type} {P : Program} {K : TypeId} {E : Enc V} {w : World} {b g : Nat} {t : TypeId} {cs : Array Value} {f : Int → Option V} (h : Whole w g t cs) (h' : HoldsM P K E w b f) : g ≠ b := by
  rintro rfl
  obtain ⟨D, n, ⟨es, clock, hb, _⟩, _⟩ := h'
  unfold Whole at h
  rw [h] at hb
  cases hb
theorem row_whole {w : World} {base : Nat} {e : TypeId} {size : Nat} {v : Value} {n g : Nat} {xs : List Value} (h : w.ownsRow base e size v n xs) (hg : v.ownBlock = some g) : ∃ cs, Whole w g e cs := by
  rcases h.2 with ⟨rfl, _⟩ | ⟨g', cap, cur, rfl, _, hh, _⟩
  · simp [Value.ownBlock] at hg
  · obtain rfl : g' = g := by simpa [Value.ownBlock] using hg
    exact ⟨cur, hh⟩
theorem row_ne {w : World} {base : Nat} {e : TypeId} {size : Nat} {v : Value} {n : Nat} {xs : List Value} {g : Nat} {t : TypeId} {cs : Array Value} (h : w.ownsRow base e size v n xs) (hg : Whole w g t cs) (hne : e ≠ t) : ¬ v.ownBlock = some g := by
  intro he
  obtain ⟨c, hc⟩ := row_whole h he
  exact Whole.ne_ (t := e) hc hg hne rfl
theorem row_ne_row {w : World} {base base' : Nat} {e e' : TypeId} {size size' : Nat} {v v' : Value} {n n' : Nat} {xs xs' : List Value} (h : w.ownsRow base e size v n xs) (h' : w.ownsRow base' e' size' v' n' xs') (hne : e ≠ e') {g : Nat} (hg : v.ownBlock = some g) : ¬ v'.ownBlock = some g := by
  intro he
  obtain ⟨c, hc⟩ := row_whole h hg
  exact row_ne h' hc (fun e => hne e.symm) he
theorem row_ne_map {V : Type} {P : Program} {K : TypeId} {E : Enc V} {w : World} {base b : Nat} {e : TypeId} {size : Nat} {v : Value} {n : Nat} {xs : List Value} {f : Int → Option V} (h : w.ownsRow base e size v n xs) (h' : HoldsM P K E w b f) : ¬ v.ownBlock = some b := by
  intro he
  obtain ⟨c, hc⟩ := row_whole h he
  exact hc.ne_map h' rfl
/-- The shape of a row's slice. -/
theorem row_shape {w : World} {base : Nat} {e : TypeId} {size : Nat} {v : Value} {n : Nat} {xs : List Value} (h : w.ownsRow base e size v n xs) : ∃ o c, v = .slice o n c ∧ (0 < n → ∃ g, o = some ⟨g, 0, none⟩) := by
  rcases h.2 with ⟨hv, hn⟩ | ⟨g, cap, cur, hv, _⟩
  · exact ⟨_, _, by rw [hn]; exact hv, fun h => by omega⟩
  · exact ⟨_, _, hv, fun _ => ⟨g, rfl⟩⟩
theorem Keeps.of_grown {w w' : World} {b : Nat} (h : w.grownBy w' (some b)) : Keeps (fun x => x = b) w w' :=
  (Keeps.refl (fun x => x = b) w).grown h fun _ hk _ => (Option.some.inj hk).symm

/-- What the map of places has. -/
def plcF (R : Tl) : Int → Option Int := fun k => if plc R k = 0 then none else some (plc R k : Int)

/-- Block s is sets in the state A; lb: the blocks of the marks' logs; lg: what they have. -/
structure PSt (w : World) (s pb wb : Nat) (vr vm : Value) (lb : List Nat) (lg : List Lg) (A : AS) (X : Nat → Prop) : Prop where
  blk : Whole w s 58 #[vr, .map (some pb), .map (some wb), vm]
  reads : w.ownsRow 0 50 2 vr A.R.length (cells2 .i64 A.R)
  places : HoldsM Tryd.prog 23 iE w pb (plcF A.R)
  writes : HoldsM Tryd.prog 23 uE w wb (look A.W)
  marks : w.ownsRow 0 79 1 vm lb.length (lb.map fun b => .map (some b))
  len : lb.length = lg.length
  logs : ∀ (i b : Nat) (u : Lg), lb[i]? = some b → lg[i]? = some u → HoldsM Tryd.prog 23 bE w b u
  once : (pb :: wb :: lb).Nodup
  back : Backs (look A.W) lg A.M
  ok : A.Ok
  inX : X s ∧ X pb ∧ X wb ∧ (∀ b ∈ lb, X b) ∧ (∀ g, vr.ownBlock = some g → X g) ∧ ∀ g, vm.ownBlock = some g → X g
  old : ∀ k, X k → k < w.heap.size

def PS (w : World) (s : Nat) (A : AS) (X : Nat → Prop) : Prop := ∃ pb wb vr vm lb lg, PSt w s pb wb vr vm lb lg A X

section
variable {w w' : World} {s pb wb : Nat} {vr vm : Value} {lb : List Nat} {lg : List Lg} {A : AS} {X S : Nat → Prop}

theorem PSt.keeps (h : PSt w s pb wb vr vm lb lg A X) (k : Keeps S w w') (hS : ∀ x, X x → ¬ S x) : PSt w' s pb wb vr vm lb lg A X where
  blk := h.blk.keeps k (hS _ h.inX.1)
  reads := ownsRow_keeps h.reads k fun g hg => hS _ (h.inX.2.2.2.2.1 g hg)
  places := h.places.keeps k (hS _ h.inX.2.1)
  writes := h.writes.keeps k (hS _ h.inX.2.2.1)
  marks := ownsRow_keeps h.marks k fun g hg => hS _ (h.inX.2.2.2.2.2 g hg)
  len := h.len
  logs := fun i b u hb hu => (h.logs i b u hb hu).keeps k (hS _ (h.inX.2.2.2.1 b (List.mem_of_getElem? hb)))
  once := h.once
  back := h.back
  ok := h.ok
  inX := h.inX
  old := fun x hx => Nat.lt_of_lt_of_le (h.old x hx) k.size
theorem PS.keeps (h : PS w s A X) (k : Keeps S w w') (hS : ∀ x, X x → ¬ S x) : PS w' s A X := by
  obtain ⟨pb, wb, vr, vm, lb, lg, h⟩ := h; exact ⟨pb, wb, vr, vm, lb, lg, h.keeps k hS⟩
theorem PS.same (h : PS w s A X) (k : Keeps (fun _ => False) w w') : PS w' s A X := h.keeps k fun _ _ => id
theorem PS.ok (h : PS w s A X) : A.Ok := by obtain ⟨pb, wb, vr, vm, lb, lg, h⟩ := h; exact h.ok
theorem PS.old (h : PS w s A X) : ∀ k, X k → k < w.heap.size := by obtain ⟨pb, wb, vr, vm, lb, lg, h⟩ := h; exact h.old
theorem PSt.mlen (h : PSt w s pb wb vr vm lb lg A X) : lb.length = A.M.length := h.len.trans h.back.len
end

theorem zero_u (w : World) : (zeroValue 23).run Tryd.prog w = .ok (uE.val 0) w := by kernel_rfl
theorem zero_i (w : World) : (zeroValue 3).run Tryd.prog w = .ok (iE.val 0) w := by kernel_rfl
theorem zero_b (w : World) : (zeroValue 83).run Tryd.prog w = .ok (bE.val ⟨0, false⟩) w := by kernel_rfl

/-- A cell that a Go value can be. -/
abbrev wfU (c : Int) : Prop := (Lit.int .u64 c).wf = true

theorem run_equalIn_nilMap (b : Nat) (w : World) (d : Nat) : (Op.equalIn (d + 1) 55 (.map (some b)) (.map none)).run Tryd.prog w = .ok false w := by
  simp [Op.equalIn, run_underlying Tryd.underlying55]
theorem run_eql_nilMap (b : Nat) (w : World) : (binOp .eql 55 (.map (some b)) (.map none)).run Tryd.prog w = .ok (.bool false) w := by
  simp only [binOp]
  simp [Op.equal, Op.maxDepth, run_equalIn_nilMap b w 9999]

theorem snone_nil (w : World) :
    Calls Tryd.prog 31 #[.pointer none] w fun e w' => e = .returned (.bool true) ∧ w = w' := by
  go_enter Tryd.func31, Tryd.ntmps31
  go_wp2
  go_ret
  exact ⟨rfl, rfl⟩

set_option maxRecDepth 100000 in
theorem snone_there {s b : Nat} (w : World) (hc : w.cell? ⟨s, 2, none⟩ = some (.map (some b))) :
    Calls Tryd.prog 31 #[.pointer (some ⟨s, 0, none⟩)] w fun e w' => e = .returned (.bool false) ∧ w = w' := by
  have he := run_eql_nilMap b w
  go_enter Tryd.func31, Tryd.ntmps31
  go_wp2
  go_ret
  exact ⟨rfl, rfl⟩

/-- Get. -/
theorem get_nil (c : Int) (w : World) :
    Calls Tryd.prog 27 #[.pointer none, .int .u64 c] w fun e w' => e = .returned (.tuple #[.int .u64 0, .bool false]) ∧ w = w' := by
  go_enter Tryd.func27, Tryd.ntmps27
  go_wp2_with (go_at_call 31; refine (snone_nil _).mono ?_; rintro e w' ⟨rfl, rfl⟩)
  go_ret2
  exact ⟨rfl, rfl⟩

theorem get_any {w : World} {s : Nat} {A : AS} {X : Nat → Prop} (h : PS w s A X) (c : Int) (hc : wfU c) :
    Calls Tryd.prog 27 #[.pointer (some ⟨s, 0, none⟩), .int .u64 c] w fun e w' => e = .returned (.tuple #[.int .u64 ((look A.W c).getD 0), .bool (look A.W c).isSome]) ∧ w = w' := by
  obtain ⟨pb, wb, vr, vm, lb, lg, h⟩ := h
  have c2 : w.cell? ⟨s, 2, none⟩ = some (.map (some wb)) := h.blk.at_ 2
  have cn := Lib.hid (snone_there w c2)
  have hw := Lib.hid h.writes
  obtain ⟨x, hx⟩ : ∃ x, (look A.W c).getD 0 = x := ⟨_, rfl⟩
  obtain ⟨b, hb⟩ : ∃ b, (look A.W c).isSome = b := ⟨_, rfl⟩
  have hx' := Lib.hid hx
  have hb' := Lib.hid hb
  clear h hx hb
  go_enter Tryd.func27, Tryd.ntmps27
  go_wp2_with (first
    | (go_at_call 31; refine cn.out.mono ?_; rintro e w' ⟨rfl, rfl⟩)
    | (at_lookup; refine wpList_look_ok _ rfl _ _ _ rfl 23 23 uE Tryd.underlying23 Tryd.underlying55 0 (zero_u _) wb (look A.W) rfl hw.out c rfl hc (.int .u64 x) b (by rw [hx'.out]; rfl) hb'.out ?_))
  go_ret2
  exact ⟨by rw [hx'.out, hb'.out]; rfl, rfl⟩
end Go.Proofs.YtkolkimmhlmlgaaDoor
