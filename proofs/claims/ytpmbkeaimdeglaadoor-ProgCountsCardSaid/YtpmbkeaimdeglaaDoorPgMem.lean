/-
  Transactions in memory: a slice of statements that reads as a forest ('SlOf'); that an argument does.
-/
import Derived.Test.YtpmbkeaimdeglaaDoorPgPlain
import Derived.Test.YtpmbkeaimdeglaaDoorBkArgs
import Derived.Test.YtpmbkeaimdeglaaDoorProg
import Derived.Test.YtpmbkeaimdeglaaDoorWdLib
import Derived.ChangeArms
import Derived.Deep.Slices
import Derived.Lib.Hide
namespace Go.Proofs.YtpmbkeaimdeglaaDoor
open Go.RowKit Go.Extern.Stop Go.Stop Go.Extern Go.Deep

/-- A slice of n elements; R: what lies from a place on. -/
def SliceIs (v : Value) (n : Nat) (R : Nat → Nat → Prop) : Prop := ∃ a c, v = .slice a n c ∧ (n ≤ c ∧ c ≤ maxLen) ∧ (a = none → n = 0) ∧ (0 < n → ∃ b o, a = some ⟨b, o, none⟩ ∧ R b o)

/-- The numbers of a statement. -/
structure Cells7 (w : World) (s : St7) (b o : Nat) : Prop where
  k : w.cell? ⟨b, o, none⟩ = some (.int .i64 s.k)
  c : w.cell? ⟨b, o + 1, none⟩ = some (.int .i64 s.c)
  r : w.cell? ⟨b, o + 2, none⟩ = some (.int .i64 s.r)
  ar : w.cell? ⟨b, o + 3, none⟩ = some (.int .i64 s.ar)
  an : w.cell? ⟨b, o + 4, none⟩ = some (.int .i64 s.an)
  br : w.cell? ⟨b, o + 5, none⟩ = some (.int .i64 s.br)
  bn : w.cell? ⟨b, o + 6, none⟩ = some (.int .i64 s.bn)
  wf : (Lit.int .i64 s.c).wf = true

/-- Statements, from a place on. -/
def At (w : World) : Fo → Nat → Nat → Prop
  | .nil, _, _ => True
  | .cons s B E R, b, o => Cells7 w s b o ∧ (∃ v, w.cell? ⟨b, o + 7, none⟩ = some v ∧ SliceIs v B.len (At w B)) ∧ (∃ v, w.cell? ⟨b, o + 8, none⟩ = some v ∧ SliceIs v E.len (At w E)) ∧ At w R b (o + 9)
/-- A slice that reads as a forest. -/
def SlOf (w : World) (v : Value) (F : Fo) : Prop := SliceIs v F.len (At w F)

/-- One statement, with those in it, at a place. -/
def ItemAt (w : World) (x : St7 × Fo × Fo) (b o : Nat) : Prop := Cells7 w x.1 b o ∧ (∃ v, w.cell? ⟨b, o + 7, none⟩ = some v ∧ SlOf w v x.2.1) ∧ (∃ v, w.cell? ⟨b, o + 8, none⟩ = some v ∧ SlOf w v x.2.2)

theorem at_of {w : World} {b : Nat} : ∀ {l : List (St7 × Fo × Fo)} {o : Nat}, (∀ (i : Nat) (x : St7 × Fo × Fo), l[i]? = some x → ItemAt w x b (o + i * 9)) → At w (Fo.ofItems l) b o
  | [], o, _ => trivial
  | (s, B, E) :: t, o, h => by
    obtain ⟨h1, h2, h3⟩ := h 0 (s, B, E) rfl
    simp only [Nat.zero_mul, Nat.add_zero] at h1 h2 h3
    refine ⟨h1, h2, h3, at_of (l := t) fun i x hx => ?_⟩
    have := h (i + 1) x (by simpa using hx)
    rwa [show o + (i + 1) * 9 = o + 9 + i * 9 by omega] at this
theorem At.item {w : World} {b : Nat} : ∀ {F : Fo} {o i : Nat} {x : St7 × Fo × Fo}, At w F b o → F.items[i]? = some x → ItemAt w x b (o + i * 9)
  | .nil, o, i, x, _, hx => by simp [Fo.items] at hx
  | .cons s B E R, o, 0, x, h, hx => by
    simp [Fo.items] at hx
    subst hx
    exact ⟨h.1, h.2.1, h.2.2.1⟩
  | .cons s B E R, o, i + 1, x, h, hx => by
    have := At.item (F := R) (i := i) h.2.2.2 (by simpa [Fo.items] using hx)
    rwa [show o + 9 + i * 9 = o + (i + 1) * 9 by omega] at this

theorem SliceIs.imp {v : Value} {n : Nat} {R S : Nat → Nat → Prop} (h : SliceIs v n R) (hRS : ∀ b o, R b o → S b o) : SliceIs v n S := by
  obtain ⟨a, c, h1, h2, h3, h4⟩ := h
  refine ⟨a, c, h1, h2, h3, fun h0 => ?_⟩
  obtain ⟨b, o, e, hr⟩ := h4 h0
  exact ⟨b, o, e, hRS b o hr⟩
theorem Cells7.keeps {w w' : World} {s : St7} {b o : Nat} {S : Nat → Prop} (h : Cells7 w s b o) (k : Keeps S w w') (hS : ∀ x, x < w.heap.size → ¬ S x) : Cells7 w' s b o :=
  have go : ∀ {j : Nat} {v : Value}, w.cell? ⟨b, j, none⟩ = some v → w'.cell? ⟨b, j, none⟩ = some v := fun e => (k.cell (cell_lt e) (hS _ (cell_lt e))).trans e
  ⟨go h.k, go h.c, go h.r, go h.ar, go h.an, go h.br, go h.bn, h.wf⟩
theorem At.keeps {w w' : World} {S : Nat → Prop} (k : Keeps S w w') (hS : ∀ x, x < w.heap.size → ¬ S x) : ∀ {F : Fo} {b o : Nat}, At w F b o → At w' F b o
  | .nil, _, _, _ => trivial
  | .cons s B E R, b, o, h => by
    obtain ⟨h1, ⟨v, h2, h3⟩, ⟨u, h4, h5⟩, h6⟩ := h
    exact ⟨h1.keeps k hS, ⟨v, (k.cell (cell_lt h2) (hS _ (cell_lt h2))).trans h2, h3.imp fun b o => At.keeps k hS (F := B)⟩, ⟨u, (k.cell (cell_lt h4) (hS _ (cell_lt h4))).trans h4, h5.imp fun b o => At.keeps k hS (F := E)⟩, At.keeps k hS h6⟩
theorem SlOf.keeps {w w' : World} {S : Nat → Prop} {v : Value} {F : Fo} (h : SlOf w v F) (k : Keeps S w w') (hS : ∀ x, x < w.heap.size → ¬ S x) : SlOf w' v F := h.imp fun _ _ => At.keeps k hS
theorem SlOf.same {w w' : World} {v : Value} {F : Fo} (h : SlOf w v F) (k : Keeps (fun _ => False) w w') : SlOf w' v F := h.keeps k fun _ _ => id
theorem SlOf.nil_ (w : World) : SlOf w (.slice none 0 0) .nil := ⟨none, 0, rfl, ⟨Nat.zero_le _, Nat.zero_le _⟩, fun _ => rfl, fun h => absurd h (Nat.lt_irrefl _)⟩

/-! ### arguments -/
theorem st_fields : Tryd.prog.underlying 42 = some (.struct (Tryd.prog.fieldsOf 42)) := by kernel_rfl
theorem st_list : ((Tryd.prog.fieldsOf 42).toList.map fun f => (f.type, f.offset)) = [(3, 0), (3, 1), (3, 2), (40, 3), (40, 5), (22, 7), (22, 8)] := by kernel_rfl
theorem ar_fields : Tryd.prog.underlying 40 = some (.struct (Tryd.prog.fieldsOf 40)) := by kernel_rfl
theorem ar_list : ((Tryd.prog.fieldsOf 40).toList.map fun f => (f.type, f.offset)) = [(3, 0), (3, 1)] := by kernel_rfl
theorem st_cells : Tryd.prog.cellsOf 42 = 9 := by kernel_rfl
theorem ar_cells : Tryd.prog.cellsOf 40 = 2 := by kernel_rfl
theorem in_cells : Tryd.prog.cellsOf 3 = 1 := by kernel_rfl
theorem sl_cells : Tryd.prog.cellsOf 22 = 1 := by kernel_rfl

theorem field_of {fs : Array Field} {l : List (TypeId × Nat)} (h : (fs.toList.map fun f => (f.type, f.offset)) = l) {j : Nat} {t : TypeId} {o : Nat} (hj : l[j]? = some (t, o)) : ∃ f, fs[j]? = some f ∧ f.type = t ∧ f.offset = o := by
  rw [← h, List.getElem?_map] at hj
  obtain ⟨f, hf, e⟩ := Option.map_eq_some_iff.1 hj
  injection e with e1 e2
  exact ⟨f, by simpa using hf, e1, e2⟩
theorem take_one {l : List Value} {o : Nat} {v : Value} (h : (l.drop o).take 1 = [v]) : l[o]? = some v := by
  have := congrArg (fun q => q[0]?) h
  simp only [List.getElem?_take, List.getElem?_drop] at this
  simpa using this

section
variable {H : Type} {enc : TypeId × Value → H} {w : World} {base : Nat} {spare : Nat → Bool} {held : Bool}

instance : Inhabited (St7 × Fo × Fo) := ⟨(⟨0, 0, 0, 0, 0, 0, 0⟩, .nil, .nil)⟩

theorem arg_of {fuel : Nat} {l : List Value} {x : DataW H × List MemPlace} (h : DataW.trod enc Tryd.prog w base spare held fuel 40 l = some x) : ∃ r n : Int, l[0]? = some (.int .i64 r) ∧ l[1]? = some (.int .i64 n) := by
  obtain ⟨ys, n, rfl, _, hl, hyl, hf⟩ := DataW.trod_struct ar_fields h
  have one : ∀ j o, [(3, 0), (3, 1)][j]? = some (3, o) → ∃ z : Int, l[o]? = some (Value.int .i64 z) := fun j o hj => by
    obtain ⟨f, hfj, ht, ho⟩ := field_of ar_list hj
    have h1 := hf j f hfj
    have hlt : j < ys.length := by rw [hyl]; exact (Array.getElem?_eq_some_iff.1 hfj).1
    rw [ht, ho, in_cells, List.getElem?_eq_getElem hlt] at h1
    obtain ⟨z, hz, _, _⟩ := DataW.trod_int Tryd.underlying3 h1
    exact ⟨z, take_one hz⟩
  obtain ⟨r, hr⟩ := one 0 0 rfl
  obtain ⟨n, hn⟩ := one 1 1 rfl
  exact ⟨r, n, hr, hn⟩

theorem stmts_of : ∀ (fuel : Nat) {cs : List Value} {x : DataW H × List MemPlace}, DataW.trod enc Tryd.prog w base spare held fuel 22 cs = some x → ∃ v F, cs = [v] ∧ SlOf w v F := by
  intro fuel
  induction fuel using Nat.strongRecOn with
  | _ fuel ih =>
    intro cs x h
    rcases DataW.trod_slice Tryd.underlying22 h with ⟨rfl, _⟩ | ⟨a, len, cap, elems, rest, n, rfl, rfl, _, hb, hl, hm, hlen, hel, _, _⟩
    · exact ⟨_, .nil, rfl, SlOf.nil_ w⟩
    · have item : ∀ i, i < len → ∃ y : St7 × Fo × Fo, ∀ b o, a = ⟨b, o, none⟩ → ItemAt w y b (o + i * 9) := by
        intro i hi
        have h1 := hel i hi
        rw [List.getElem?_eq_getElem (by omega)] at h1
        obtain ⟨cs', hc, ht⟩ := Option.bind_eq_some_iff.1 h1
        rw [st_cells] at hc
        obtain ⟨_, hcl, hat⟩ := World.cells?_some hc
        obtain ⟨ys, n', rfl, _, hl', hyl, hf⟩ := DataW.trod_struct st_fields ht
        have fld : ∀ j t o, [(3, 0), (3, 1), (3, 2), (40, 3), (40, 5), (22, 7), (22, 8)][j]? = some (t, o) → ∃ y, DataW.trod enc Tryd.prog w base spare held n' t ((cs'.drop o).take (Tryd.prog.cellsOf t)) = some y := fun j t o hj => by
          obtain ⟨f, hfj, ht, ho⟩ := field_of st_list hj
          have h1 := hf j f hfj
          have hlt : j < ys.length := by rw [hyl]; exact (Array.getElem?_eq_some_iff.1 hfj).1
          rw [ht, ho, List.getElem?_eq_getElem hlt] at h1
          exact ⟨_, h1⟩
        have num : ∀ j o, [(3, 0), (3, 1), (3, 2), (40, 3), (40, 5), (22, 7), (22, 8)][j]? = some (3, o) → ∃ z : Int, cs'[o]? = some (Value.int .i64 z) ∧ (Lit.int .i64 z).wf = true := fun j o hj => by
          obtain ⟨y, hy⟩ := fld j _ o hj
          rw [in_cells] at hy
          obtain ⟨z, hz, _, hw⟩ := DataW.trod_int Tryd.underlying3 hy
          exact ⟨z, take_one hz, hw⟩
        have prs : ∀ j o, [(3, 0), (3, 1), (3, 2), (40, 3), (40, 5), (22, 7), (22, 8)][j]? = some (40, o) → ∃ r z : Int, cs'[o]? = some (Value.int .i64 r) ∧ cs'[o + 1]? = some (Value.int .i64 z) := fun j o hj => by
          obtain ⟨y, hy⟩ := fld j _ o hj
          rw [ar_cells] at hy
          obtain ⟨r, z, h1, h2⟩ := arg_of hy
          simp only [List.getElem?_take, List.getElem?_drop] at h1 h2
          exact ⟨r, z, by simpa using h1, by simpa using h2⟩
        have sub : ∀ j o, [(3, 0), (3, 1), (3, 2), (40, 3), (40, 5), (22, 7), (22, 8)][j]? = some (22, o) → ∃ v G, cs'[o]? = some v ∧ SlOf w v G := fun j o hj => by
          obtain ⟨y, hy⟩ := fld j _ o hj
          rw [sl_cells] at hy
          obtain ⟨v, G, e, hG⟩ := ih n' (by omega) hy
          exact ⟨v, G, take_one e, hG⟩
        obtain ⟨k, hk, _⟩ := num 0 0 rfl
        obtain ⟨c, hcc, hwf⟩ := num 1 1 rfl
        obtain ⟨r, hr, _⟩ := num 2 2 rfl
        obtain ⟨ar, an, har, han⟩ := prs 3 3 rfl
        obtain ⟨br, bn, hbr, hbn⟩ := prs 4 5 rfl
        obtain ⟨v, B, hv, hB⟩ := sub 5 7 rfl
        obtain ⟨u, E, hu, hE⟩ := sub 6 8 rfl
        refine ⟨(⟨k, c, r, ar, an, br, bn⟩, B, E), fun b o ha => ?_⟩
        subst ha
        have cell : ∀ j y, j < 9 → cs'[j]? = some y → w.cell? ⟨b, o + i * 9 + j, none⟩ = some y := fun j y hj hy => by
          have := hat j hj
          rw [add_plain ⟨b, o, none⟩ rfl, add_plain _ rfl, hy] at this
          exact this
        exact ⟨⟨cell 0 _ (by omega) hk, cell 1 _ (by omega) hcc, cell 2 _ (by omega) hr, cell 3 _ (by omega) har, cell 4 _ (by omega) han, cell 5 _ (by omega) hbr, cell 6 _ (by omega) hbn, hwf⟩, ⟨v, cell 7 _ (by omega) hv, hB⟩, ⟨u, cell 8 _ (by omega) hu, hE⟩⟩
      obtain ⟨f, hf⟩ := choose_lt item
      refine ⟨_, Fo.ofItems ((List.range len).map f), rfl, some a, cap, ?_, ?_, (fun e => by cases e), fun h0 => ?_⟩
      · rw [Fo.len, Fo.items_of]; simp
      · exact ⟨by rw [Fo.len, Fo.items_of]; simp; omega, by omega⟩
      · have h0' : 0 < len := by rw [Fo.len, Fo.items_of] at h0; simpa using h0
        have hx : a = ⟨a.block, a.off, none⟩ := by
          obtain ⟨i0, e0⟩ : ∃ i0 : Nat, i0 = 0 := ⟨0, rfl⟩
          have h1 := hel i0 (by omega)
          rw [List.getElem?_eq_getElem (by omega)] at h1
          obtain ⟨cs', hc, ht⟩ := Option.bind_eq_some_iff.1 h1
          rw [st_cells] at hc
          obtain ⟨_, hcl, hat⟩ := World.cells?_some hc
          obtain ⟨v, hv⟩ : ∃ v, cs'[0]? = some v := ⟨_, List.getElem?_eq_getElem (by omega)⟩
          have h2 := (hat 0 (by omega)).trans hv
          subst e0
          rw [Nat.zero_mul] at h2
          exact spot_none (x := a) h2
        refine ⟨a.block, a.off, congrArg some hx, at_of fun i x hx' => ?_⟩
        rw [List.getElem?_map] at hx'
        obtain ⟨j, hj, rfl⟩ := Option.map_eq_some_iff.1 hx'
        obtain ⟨h5, rfl⟩ := List.getElem?_eq_some_iff.1 hj
        rw [List.getElem_range]
        exact hf i (by simpa using h5) _ _ hx
end
end Go.Proofs.YtpmbkeaimdeglaaDoor
