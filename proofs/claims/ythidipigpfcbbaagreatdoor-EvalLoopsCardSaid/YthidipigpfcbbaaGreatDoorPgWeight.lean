/-
  Transactions in memory: a slice of statements that reads as a forest ('SlOf'); that an argument does.
  An argument that is a transaction.
  concordlaw09.weight, Few by contract; what Few says of a transaction.
-/
import Derived.Test.YthidipigpfcbbaaGreatDoorPgPlain
import Derived.Test.YthidipigpfcbbaaGreatDoorBkArgs
import Derived.Test.YthidipigpfcbbaaGreatDoorProg
import Derived.ChangeArms
import Derived.Deep.Slices
import Derived.Lib.Hide
import Derived.LoopTactic
import Derived.WalkKit
import Derived.BigGuard
import Derived.BigCall
import Derived.CellFam
import Derived.Deep.Draws
import Derived.Deep.QuietTactic
import Derived.BigQuiet
import Derived.Deep.RegionWith
import Derived.Deep.DeepCutAuto
import Derived.Deep.CutBlock
import Derived.Deep.CutRange

namespace Go.Proofs.YthidipigpfcbbaaGreatDoor
open Go.RowKit Go.Extern.Stop Go.Stop Go.Extern Go.Deep

/-- A slice of n elements; R: what lies from a place on. -/
def SliceIs (v : Value) (n : Nat) (R : Nat → Nat → Prop) : Prop := ∃ a c, v = .slice a n c ∧ (n ≤ c ∧ c ≤ maxLen) ∧ (a = none → n = 0) ∧ (0 < n → ∃ b o, a = some ⟨b, o, none⟩ ∧ R b o)

/-- The numbers of a statement. -/
structure Cells7 (w : World) (s : St7) (b o : Nat) : Prop where
  k : w.cell? ⟨b, o, none⟩ = some (.int .i64 s.k)
  c : w.cell? ⟨b, o + 1, none⟩ = some (.int .i64 s.c)
  r : w.cell? ⟨b, o + 2, none⟩ = some (.int .i64 s.r)
  ar : w.cell? ⟨b, o + 3, none⟩ = some (.int .i64 s.ar)
  an : w.cell? ⟨b, o + 4, none⟩ = some (.int .i64 s.an)
  br : w.cell? ⟨b, o + 5, none⟩ = some (.int .i64 s.br)
  bn : w.cell? ⟨b, o + 6, none⟩ = some (.int .i64 s.bn)
  wf : (Lit.int .i64 s.c).wf = true

/-- Statements, from a place on. -/
def At (w : World) : Fo → Nat → Nat → Prop
  | .nil, _, _ => True
  | .cons s B E R, b, o => Cells7 w s b o ∧ (∃ v, w.cell? ⟨b, o + 7, none⟩ = some v ∧ SliceIs v B.len (At w B)) ∧ (∃ v, w.cell? ⟨b, o + 8, none⟩ = some v ∧ SliceIs v E.len (At w E)) ∧ At w R b (o + 9)
/-- A slice that reads as a forest. -/
def SlOf (w : World) (v : Value) (F : Fo) : Prop := SliceIs v F.len (At w F)

/-- One statement, with those in it, at a place. -/
def ItemAt (w : World) (x : St7 × Fo × Fo) (b o : Nat) : Prop := Cells7 w x.1 b o ∧ (∃ v, w.cell? ⟨b, o + 7, none⟩ = some v ∧ SlOf w v x.2.1) ∧ (∃ v, w.cell? ⟨b, o + 8, none⟩ = some v ∧ SlOf w v x.2.2)

theorem at_of {w : World} {b : Nat} : ∀ {l : List (St7 × Fo × Fo)} {o : Nat}, (∀ (i : Nat) (x : St7 × Fo × Fo), l[i]? = some x → ItemAt w x b (o + i * 9)) → At w (Fo.ofItems l) b o
  | [], o, _ => trivial
  | (s, B, E) :: t, o, h => by
    obtain ⟨h1, h2, h3⟩ := h 0 (s, B, E) rfl
    simp only [Nat.zero_mul, Nat.add_zero] at h1 h2 h3
    refine ⟨h1, h2, h3, at_of (l := t) fun i x hx => ?_⟩
    have := h (i + 1) x (by simpa using hx)
    rwa [show o + (i + 1) * 9 = o + 9 + i * 9 by omega] at this
theorem At.item {w : World} {b : Nat} : ∀ {F : Fo} {o i : Nat} {x : St7 × Fo × Fo}, At w F b o → F.items[i]? = some x → ItemAt w x b (o + i * 9)
  | .nil, o, i, x, _, hx => by simp [Fo.items] at hx
  | .cons s B E R, o, 0, x, h, hx => by
    simp [Fo.items] at hx
    subst hx
    exact ⟨h.1, h.2.1, h.2.2.1⟩
  | .cons s B E R, o, i + 1, x, h, hx => by
    have := At.item (F := R) (i := i) h.2.2.2 (by simpa [Fo.items] using hx)
    rwa [show o + 9 + i * 9 = o + (i + 1) * 9 by omega] at this

theorem SliceIs.imp {v : Value} {n : Nat} {R S : Nat → Nat → Prop} (h : SliceIs v n R) (hRS : ∀ b o, R b o → S b o) : SliceIs v n S := by
  obtain ⟨a, c, h1, h2, h3, h4⟩ := h
  refine ⟨a, c, h1, h2, h3, fun h0 => ?_⟩
  obtain ⟨b, o, e, hr⟩ := h4 h0
  exact ⟨b, o, e, hRS b o hr⟩
theorem Cells7.keeps {w w' : World} {s : St7} {b o : Nat} {S : Nat → Prop} (h : Cells7 w s b o) (k : Keeps S w w') (hS : ∀ x, x < w.heap.size → ¬ S x) : Cells7 w' s b o :=
  have go : ∀ {j : Nat} {v : Value}, w.cell? ⟨b, j, none⟩ = some v → w'.cell? ⟨b, j, none⟩ = some v := fun e => (k.cell (cell_lt e) (hS _ (cell_lt e))).trans e
  ⟨go h.k, go h.c, go h.r, go h.ar, go h.an, go h.br, go h.bn, h.wf⟩
theorem At.keeps {w w' : World} {S : Nat → Prop} (k : Keeps S w w') (hS : ∀ x, x < w.heap.size → ¬ S x) : ∀ {F : Fo} {b o : Nat}, At w F b o → At w' F b o
  | .nil, _, _, _ => trivial
  | .cons s B E R, b, o, h => by
    obtain ⟨h1, ⟨v, h2, h3⟩, ⟨u, h4, h5⟩, h6⟩ := h
    exact ⟨h1.keeps k hS, ⟨v, (k.cell (cell_lt h2) (hS _ (cell_lt h2))).trans h2, h3.imp fun b o => At.keeps k hS (F := B)⟩, ⟨u, (k.cell (cell_lt h4) (hS _ (cell_lt h4))).trans h4, h5.imp fun b o => At.keeps k hS (F := E)⟩, At.keeps k hS h6⟩
theorem SlOf.keeps {w w' : World} {S : Nat → Prop} {v : Value} {F : Fo} (h : SlOf w v F) (k : Keeps S w w') (hS : ∀ x, x < w.heap.size → ¬ S x) : SlOf w' v F := h.imp fun _ _ => At.keeps k hS
theorem SlOf.same {w w' : World} {v : Value} {F : Fo} (h : SlOf w v F) (k : Keeps (fun _ => False) w w') : SlOf w' v F := h.keeps k fun _ _ => id
theorem SlOf.nil_ (w : World) : SlOf w (.slice none 0 0) .nil := ⟨none, 0, rfl, ⟨Nat.zero_le _, Nat.zero_le _⟩, fun _ => rfl, fun h => absurd h (Nat.lt_irrefl _)⟩

/-! ### arguments -/
theorem st_fields : Tryz.prog.underlying 40 = some (.struct (Tryz.prog.fieldsOf 40)) := by kernel_rfl
theorem st_list : ((Tryz.prog.fieldsOf 40).toList.map fun f => (f.type, f.offset)) = [(3, 0), (3, 1), (3, 2), (38, 3), (38, 5), (24, 7), (24, 8)] := by kernel_rfl
theorem ar_fields : Tryz.prog.underlying 38 = some (.struct (Tryz.prog.fieldsOf 38)) := by kernel_rfl
theorem ar_list : ((Tryz.prog.fieldsOf 38).toList.map fun f => (f.type, f.offset)) = [(3, 0), (3, 1)] := by kernel_rfl
theorem st_cells : Tryz.prog.cellsOf 40 = 9 := by kernel_rfl
theorem ar_cells : Tryz.prog.cellsOf 38 = 2 := by kernel_rfl
theorem in_cells : Tryz.prog.cellsOf 3 = 1 := by kernel_rfl
theorem sl_cells : Tryz.prog.cellsOf 24 = 1 := by kernel_rfl

theorem field_of {fs : Array Field} {l : List (TypeId × Nat)} (h : (fs.toList.map fun f => (f.type, f.offset)) = l) {j : Nat} {t : TypeId} {o : Nat} (hj : l[j]? = some (t, o)) : ∃ f, fs[j]? = some f ∧ f.type = t ∧ f.offset = o := by
  rw [← h, List.getElem?_map] at hj
  obtain ⟨f, hf, e⟩ := Option.map_eq_some_iff.1 hj
  injection e with e1 e2
  exact ⟨f, by simpa using hf, e1, e2⟩
theorem take_one {l : List Value} {o : Nat} {v : Value} (h : (l.drop o).take 1 = [v]) : l[o]? = some v := by
  have := congrArg (fun q => q[0]?) h
  simp only [List.getElem?_take, List.getElem?_drop] at this
  simpa using this

section
variable {H : Type} {enc : TypeId × Value → H} {w : World} {base : Nat} {spare : Nat → Bool} {held : Bool}

instance : Inhabited (St7 × Fo × Fo) := ⟨(⟨0, 0, 0, 0, 0, 0, 0⟩, .nil, .nil)⟩

theorem arg_of {fuel : Nat} {l : List Value} {x : DataW H × List MemPlace} (h : DataW.trod enc Tryz.prog w base spare held fuel 38 l = some x) : ∃ r n : Int, l[0]? = some (.int .i64 r) ∧ l[1]? = some (.int .i64 n) := by
  obtain ⟨ys, n, rfl, _, hl, hyl, hf⟩ := DataW.trod_struct ar_fields h
  have one : ∀ j o, [(3, 0), (3, 1)][j]? = some (3, o) → ∃ z : Int, l[o]? = some (Value.int .i64 z) := fun j o hj => by
    obtain ⟨f, hfj, ht, ho⟩ := field_of ar_list hj
    have h1 := hf j f hfj
    have hlt : j < ys.length := by rw [hyl]; exact (Array.getElem?_eq_some_iff.1 hfj).1
    rw [ht, ho, in_cells, List.getElem?_eq_getElem hlt] at h1
    obtain ⟨z, hz, _, _⟩ := DataW.trod_int Tryz.underlying3 h1
    exact ⟨z, take_one hz⟩
  obtain ⟨r, hr⟩ := one 0 0 rfl
  obtain ⟨n, hn⟩ := one 1 1 rfl
  exact ⟨r, n, hr, hn⟩

theorem stmts_of : ∀ (fuel : Nat) {cs : List Value} {x : DataW H × List MemPlace}, DataW.trod enc Tryz.prog w base spare held fuel 24 cs = some x → ∃ v F, cs = [v] ∧ SlOf w v F := by
  intro fuel
  induction fuel using Nat.strongRecOn with
  | _ fuel ih =>
    intro cs x h
    rcases DataW.trod_slice Tryz.underlying24 h with ⟨rfl, _⟩ | ⟨a, len, cap, elems, rest, n, rfl, rfl, _, hb, hl, hm, hlen, hel, _, _⟩
    · exact ⟨_, .nil, rfl, SlOf.nil_ w⟩
    · have item : ∀ i, i < len → ∃ y : St7 × Fo × Fo, ∀ b o, a = ⟨b, o, none⟩ → ItemAt w y b (o + i * 9) := by
        intro i hi
        have h1 := hel i hi
        rw [List.getElem?_eq_getElem (by omega)] at h1
        obtain ⟨cs', hc, ht⟩ := Option.bind_eq_some_iff.1 h1
        rw [st_cells] at hc
        obtain ⟨_, hcl, hat⟩ := World.cells?_some hc
        obtain ⟨ys, n', rfl, _, hl', hyl, hf⟩ := DataW.trod_struct st_fields ht
        have fld : ∀ j t o, [(3, 0), (3, 1), (3, 2), (38, 3), (38, 5), (24, 7), (24, 8)][j]? = some (t, o) → ∃ y, DataW.trod enc Tryz.prog w base spare held n' t ((cs'.drop o).take (Tryz.prog.cellsOf t)) = some y := fun j t o hj => by
          obtain ⟨f, hfj, ht, ho⟩ := field_of st_list hj
          have h1 := hf j f hfj
          have hlt : j < ys.length := by rw [hyl]; exact (Array.getElem?_eq_some_iff.1 hfj).1
          rw [ht, ho, List.getElem?_eq_getElem hlt] at h1
          exact ⟨_, h1⟩
        have num : ∀ j o, [(3, 0), (3, 1), (3, 2), (38, 3), (38, 5), (24, 7), (24, 8)][j]? = some (3, o) → ∃ z : Int, cs'[o]? = some (Value.int .i64 z) ∧ (Lit.int .i64 z).wf = true := fun j o hj => by
          obtain ⟨y, hy⟩ := fld j _ o hj
          rw [in_cells] at hy
          obtain ⟨z, hz, _, hw⟩ := DataW.trod_int Tryz.underlying3 hy
          exact ⟨z, take_one hz, hw⟩
        have prs : ∀ j o, [(3, 0), (3, 1), (3, 2), (38, 3), (38, 5), (24, 7), (24, 8)][j]? = some (38, o) → ∃ r z : Int, cs'[o]? = some (Value.int .i64 r) ∧ cs'[o + 1]? = some (Value.int .i64 z) := fun j o hj => by
          obtain ⟨y, hy⟩ := fld j _ o hj
          rw [ar_cells] at hy
          obtain ⟨r, z, h1, h2⟩ := arg_of hy
          simp only [List.getElem?_take, List.getElem?_drop] at h1 h2
          exact ⟨r, z, by simpa using h1, by simpa using h2⟩
        have sub : ∀ j o, [(3, 0), (3, 1), (3, 2), (38, 3), (38, 5), (24, 7), (24, 8)][j]? = some (24, o) → ∃ v G, cs'[o]? = some v ∧ SlOf w v G := fun j o hj => by
          obtain ⟨y, hy⟩ := fld j _ o hj
          rw [sl_cells] at hy
          obtain ⟨v, G, e, hG⟩ := ih n' (by omega) hy
          exact ⟨v, G, take_one e, hG⟩
        obtain ⟨k, hk, _⟩ := num 0 0 rfl
        obtain ⟨c, hcc, hwf⟩ := num 1 1 rfl
        obtain ⟨r, hr, _⟩ := num 2 2 rfl
        obtain ⟨ar, an, har, han⟩ := prs 3 3 rfl
        obtain ⟨br, bn, hbr, hbn⟩ := prs 4 5 rfl
        obtain ⟨v, B, hv, hB⟩ := sub 5 7 rfl
        obtain ⟨u, E, hu, hE⟩ := sub 6 8 rfl
        refine ⟨(⟨k, c, r, ar, an, br, bn⟩, B, E), fun b o ha => ?_⟩
        subst ha
        have cell : ∀ j y, j < 9 → cs'[j]? = some y → w.cell? ⟨b, o + i * 9 + j, none⟩ = some y := fun j y hj hy => by
          have := hat j hj
          rw [add_plain ⟨b, o, none⟩ rfl, add_plain _ rfl, hy] at this
          exact this
        exact ⟨⟨cell 0 _ (by omega) hk, cell 1 _ (by omega) hcc, cell 2 _ (by omega) hr, cell 3 _ (by omega) har, cell 4 _ (by omega) han, cell 5 _ (by omega) hbr, cell 6 _ (by omega) hbn, hwf⟩, ⟨v, cell 7 _ (by omega) hv, hB⟩, ⟨u, cell 8 _ (by omega) hu, hE⟩⟩
      obtain ⟨f, hf⟩ := choose_lt item
      refine ⟨_, Fo.ofItems ((List.range len).map f), rfl, some a, cap, ?_, ?_, (fun e => by cases e), fun h0 => ?_⟩
      · rw [Fo.len, Fo.items_of]; simp
      · exact ⟨by rw [Fo.len, Fo.items_of]; simp; omega, by omega⟩
      · have h0' : 0 < len := by rw [Fo.len, Fo.items_of] at h0; simpa using h0
        have hx : a = ⟨a.block, a.off, none⟩ := by
          obtain ⟨i0, e0⟩ : ∃ i0 : Nat, i0 = 0 := ⟨0, rfl⟩
          have h1 := hel i0 (by omega)
          rw [List.getElem?_eq_getElem (by omega)] at h1
          obtain ⟨cs', hc, ht⟩ := Option.bind_eq_some_iff.1 h1
          rw [st_cells] at hc
          obtain ⟨_, hcl, hat⟩ := World.cells?_some hc
          obtain ⟨v, hv⟩ : ∃ v, cs'[0]? = some v := ⟨_, List.getElem?_eq_getElem (by omega)⟩
          have h2 := (hat 0 (by omega)).trans hv
          subst e0
          rw [Nat.zero_mul] at h2
          exact spot_none (x := a) h2
        refine ⟨a.block, a.off, congrArg some hx, at_of fun i x hx' => ?_⟩
        rw [List.getElem?_map] at hx'
        obtain ⟨j, hj, rfl⟩ := Option.map_eq_some_iff.1 hx'
        obtain ⟨h5, rfl⟩ := List.getElem?_eq_some_iff.1 hj
        rw [List.getElem_range]
        exact hf i (by simpa using h5) _ _ hx
end
end Go.Proofs.YthidipigpfcbbaaGreatDoor

namespace Go.Proofs.YthidipigpfcbbaaGreatDoor
open Go.RowKit Go.Extern.Stop Go.Stop Go.Extern

/-- A slice of statements that came in. -/
def Stmts9 (w : World) (a : Option Addr) (len cap : Nat) : Prop := ∃ F, SlOf w (.slice a len cap) F
theorem open_stmts {H : Type} {enc : TypeId × Value → H} {w : World} {base : Nat} {spare : Nat → Bool} {held : Bool} {fuel : Nat} {a : Option Addr} {len cap : Nat} {x : DataW H × List MemPlace} (h : DataW.trod enc Tryz.prog w base spare held fuel 24 (Value.slice a len cap).cells.toList = some x) : Stmts9 w a len cap := by
  obtain ⟨v, F, e, hF⟩ := stmts_of fuel h
  have e' : [Value.slice a len cap] = [v] := e
  injection e' with e'
  subst e'
  exact ⟨F, hF⟩
end Go.Proofs.YthidipigpfcbbaaGreatDoor

namespace Go.Proofs.YthidipigpfcbbaaGreatDoor
open Go.RowKit Go.Extern.Stop Go.Stop Go.Extern

def wgo : Fo → Nat → Nat → Nat
  | .nil, n, _ => n
  | .cons _ B E R, n, d => if n < 1000 then wgo R (n + 1 + (if 30 < d + 1 then 1000 else min (wgo B 0 (d + 1)) 1000) + (if 30 < d + 1 then 1000 else min (wgo E 0 (d + 1)) 1000)) d else n
def wt (F : Fo) (d : Nat) : Nat := if 30 < d then 1000 else min (wgo F 0 d) 1000
theorem wgo_cons (s : St7) (B E R : Fo) (n d : Nat) : wgo (.cons s B E R) n d = if n < 1000 then wgo R (n + 1 + wt B (d + 1) + wt E (d + 1)) d else n := rfl
theorem wt_le (F : Fo) (d : Nat) : wt F d ≤ 1000 := by unfold wt; split <;> omega
theorem wgo_few : ∀ (F : Fo) (n d : Nat), d ≤ 30 → wgo F n d < 1000 → wgo F n d = n + F.size ∧ F.deep + d ≤ 30
  | .nil, n, d, hd, _ => ⟨rfl, by simp [Fo.deep]; exact hd⟩
  | .cons s B E R, n, d, hd, h => by
    rw [wgo_cons] at h ⊢
    by_cases hn : n < 1000
    · rw [if_pos hn] at h ⊢
      obtain ⟨h1, h2⟩ := wgo_few R _ d hd h
      have hB : wt B (d + 1) < 1000 := by omega
      have hE : wt E (d + 1) < 1000 := by omega
      have key : ∀ G : Fo, wt G (d + 1) < 1000 → d + 1 ≤ 30 ∧ wt G (d + 1) = wgo G 0 (d + 1) ∧ wgo G 0 (d + 1) < 1000 := fun G hG => by
        unfold wt at hG ⊢
        split at hG
        · omega
        · rename_i h30
          rw [if_neg h30]
          exact ⟨by omega, by omega, by omega⟩
      obtain ⟨k1, k2, k3⟩ := key B hB
      obtain ⟨_, k4, k5⟩ := key E hE
      obtain ⟨b1, b2⟩ := wgo_few B 0 (d + 1) k1 k3
      obtain ⟨e1, e2⟩ := wgo_few E 0 (d + 1) k1 k5
      refine ⟨?_, ?_⟩
      · simp only [Fo.size]; omega
      · simp only [Fo.deep]; omega
    · rw [if_neg hn] at h; omega
/-- A transaction that is gone through. -/
theorem few_says {F : Fo} (h : wt F 0 ≤ 250) : F.size ≤ 250 ∧ F.deep ≤ 30 := by
  unfold wt at h
  rw [if_neg (by omega)] at h
  obtain ⟨h1, h2⟩ := wgo_few F 0 0 (by omega) (by omega)
  omega
theorem wgo_big : ∀ (F : Fo) (n d : Nat), 1000 ≤ n → wgo F n d = n
  | .nil, n, d, _ => rfl
  | .cons s B E R, n, d, h => by rw [wgo_cons, if_neg (by omega)]

/-- A slice's length fits. -/
theorem SlOf.fit {w : World} {v : Value} {F : Fo} (h : SlOf w v F) : ∃ a c, v = .slice a F.len c ∧ F.len ≤ maxLen := by
  obtain ⟨a, c, h1, h2, _⟩ := h
  exact ⟨a, c, h1, Nat.le_trans h2.1 h2.2⟩
/-- A statement of a slice, in memory. -/
theorem SlOf.item {w : World} {v : Value} {F : Fo} (h : SlOf w v F) {i : Nat} (hi : i < F.len) : ∃ b o c s B E, v = .slice (some ⟨b, o, none⟩) F.len c ∧ F.items[i]? = some (s, B, E) ∧ ItemAt w (s, B, E) b (o + i * 9) := by
  obtain ⟨a, c, h1, h2, _, h4⟩ := h
  obtain ⟨b, o, rfl, hr⟩ := h4 (by omega)
  obtain ⟨⟨s, B, E⟩, hx⟩ : ∃ x, F.items[i]? = some x := ⟨_, List.getElem?_eq_getElem hi⟩
  exact ⟨b, o, c, s, B, E, h1, hx, hr.item hx⟩
theorem ItemAt.keeps {w w' : World} {x : St7 × Fo × Fo} {b o : Nat} {S : Nat → Prop} (h : ItemAt w x b o) (k : Keeps S w w') (hS : ∀ y, y < w.heap.size → ¬ S y) : ItemAt w' x b o := by
  obtain ⟨h1, ⟨v, h2, h3⟩, ⟨u, h4, h5⟩⟩ := h
  exact ⟨h1.keeps k hS, ⟨v, (k.cell (cell_lt h2) (hS _ (cell_lt h2))).trans h2, h3.keeps k hS⟩, ⟨u, (k.cell (cell_lt h4) (hS _ (cell_lt h4))).trans h4, h5.keeps k hS⟩⟩

set_option maxRecDepth 100000 in
set_option maxHeartbeats 1000000 in
theorem weight_any : ∀ (N : Nat) (F : Fo), F.size ≤ N → ∀ (w : World) (v : Value) (d : Nat), SlOf w v F → d ≤ 31 →
    Calls Tryz.prog 22 #[v, .int .i64 (d : Nat)] w fun e w' => e = .returned (.int .i64 (wt F d : Nat)) ∧ Keeps (fun _ => False) w w' := by
  intro N
  induction N using Nat.strongRecOn with
  | _ N ih =>
    intro F hN w v d h hd
    by_cases h30 : 30 < d
    · have e1 : wt F d = 1000 := by unfold wt; rw [if_pos h30]
      rw [e1]
      have b0 : (30 : Int) < (d : Int) := by omega
      clear ih h
      go_enter Tryz.func22, Tryz.ntmps22
      go_wp2_with fail
      go_ret
      exact ⟨rfl, Keeps.refl _ _⟩
    · have b0 : ¬ (30 : Int) < (d : Int) := by omega
      have it := Lib.hid (fun i (hi : i < F.len) => h.item hi)
      obtain ⟨a, c, rfl, hfit⟩ := h.fit
      obtain ⟨n, hn⟩ : ∃ n, F.len = n := ⟨_, rfl⟩
      rw [hn] at hfit it
      have hn' := Lib.hid (show F.items.length = n from hn)
      have IH := Lib.hid (fun G (hG : G.size < F.size) (V : World) (u : Value) (hu : SlOf V u G) => ih G.size (by omega) G (Nat.le_refl _) V u (d + 1) hu (by omega))
      have hw : wt F d = min (wgo (Fo.ofItems (F.items.drop 0)) 0 d) 1000 := by unfold wt; rw [if_neg h30, List.drop_zero, Fo.of_items]
      have hw' := Lib.hid hw
      have hmax : (n : Int) ≤ 9223372036854775807 := by unfold maxLen at hfit; omega
      have hd31 : (d : Int) ≤ 31 := by omega
      obtain ⟨r, hr⟩ : ∃ r, wt F d = r := ⟨_, rfl⟩
      rw [hr] at hw' ⊢
      clear ih h hn hw hr hfit
      rw [show F.len = n from hn'.out]
      go_enter Tryz.func22, Tryz.ntmps22
      go_wp2_with fail
      go_loopw [5, 6] (fun nv iv wr => ∃ i m : Nat, nv = .int .i64 m ∧ iv = .int .i64 i ∧ i ≤ n ∧ m ≤ 3000 ∧ wgo (Fo.ofItems (F.items.drop 0)) 0 d = wgo (Fo.ofItems (F.items.drop i)) m d ∧ Keeps (fun _ => False) w wr) (fun nv iv _ => n - (intOf iv).toNat)
      case atStart => exact ⟨0, 0, rfl, rfl, Nat.zero_le _, by omega, rfl, Keeps.refl _ _⟩
      case round =>
        obtain ⟨i, m, rfl, rfl, hi, hm, hg, hK⟩ := hrel
        have G1 := Lib.hid hg
        have K1 := Lib.hid hK
        clear hg hK
        have hm3 : (m : Int) ≤ 3000 := by omega
        by_cases hlt : i < n
        · by_cases hlm : m < 1000
          · have b1 : (i : Int) < (n : Int) := by omega
            have b2 : (m : Int) < 1000 := by omega
            obtain ⟨b, o, c', s, B, E, hv, hx, hat⟩ := it.out i hlt
            injection hv with hv _ hc
            subst hv
            subst hc
            obtain ⟨_, ⟨vB, cB, oB⟩, ⟨vE, cE, oE⟩⟩ := hat
            have sz := Fo.item_size hx
            have CB := Lib.hid (fun (V : World) (k : Keeps (fun _ => False) w V) => (IH.out B (by omega) V vB (oB.same k)).mono fun e w' (h : _ ∧ _) => (⟨h.1, k.trans h.2 fun _ _ => id⟩ : e = .returned (.int .i64 (wt B (d + 1) : Nat)) ∧ Keeps (fun _ => False) w w'))
            have CE := Lib.hid (fun (V : World) (k : Keeps (fun _ => False) w V) => (IH.out E (by omega) V vE (oE.same k)).mono fun e w' (h : _ ∧ _) => (⟨h.1, k.trans h.2 fun _ _ => id⟩ : e = .returned (.int .i64 (wt E (d + 1) : Nat)) ∧ Keeps (fun _ => False) w w'))
            have lB := wt_le B (d + 1)
            have lE := wt_le E (d + 1)
            have st : Hid (wgo (Fo.ofItems (F.items.drop i)) m d = wgo (Fo.ofItems (F.items.drop (i + 1))) (m + 1 + wt B (d + 1) + wt E (d + 1)) d) := Lib.hid (by
              have hlt' : i < F.items.length := by rw [hn'.out]; exact hlt
              rw [List.drop_eq_getElem_cons hlt', show F.items[i] = (s, B, E) from Option.some.inj ((List.getElem?_eq_getElem hlt').symm.trans hx)]
              show wgo (.cons s B E _) m d = _
              rw [wgo_cons, if_pos hlm])
            have eB : ∀ V, Keeps (fun _ => False) w V → V.cell? ⟨b, o + i * 9 + 7, none⟩ = some vB := fun V k => (k.cell (cell_lt cB) id).trans cB
            have eE : ∀ V, Keeps (fun _ => False) w V → V.cell? ⟨b, o + i * 9 + 8, none⟩ = some vE := fun V k => (k.cell (cell_lt cE) id).trans cE
            have eB' := Lib.hid eB
            have eE' := Lib.hid eE
            have f1 := eB wr K1.out
            have f2 := eE wr K1.out
            generalize hwB : wt B (d + 1) = xB at *
            generalize hwE : wt E (d + 1) = xE at *
            have hxB : (xB : Int) ≤ 1000 := by omega
            have hxE : (xE : Int) ≤ 1000 := by omega
            clear eB eE hx cB oB cE oE hwB hwE sz
            have wd : IntKind.i64.wrap ((d : Int) + 1) = ((d + 1 : Nat) : Int) := by rw [show (d : Int) + 1 = ((d + 1 : Nat) : Int) by omega]; exact IntWalk.i64_in _ (by omega)
            have W3 : Hid (IntKind.i64.wrap (IntKind.i64.wrap (IntKind.i64.wrap ((m : Int) + 1) + (xB : Int)) + (xE : Int)) = ((m + 1 + xB + xE : Nat) : Int)) := Lib.hid (by
              rw [IntWalk.i64_in ((m : Int) + 1) (by omega), IntWalk.i64_in ((m : Int) + 1 + (xB : Int)) (by omega), IntWalk.i64_in _ (by omega)]
              omega)
            go_upto_block 1 with fail
            go_cut [5] from 19 to 38 (fun nv wx => nv = .int .i64 ((m + 1 + xB + xE : Nat) : Int) ∧ Keeps (fun _ => False) w wx)
            case first =>
              go_wp2_with fail
              go_region_with (first
                | (go_at_call_of 22 vB; refine (CB.out _ ?_).mono ?_; (first | exact K1.out.drew | exact K1.out | assumption); rintro e w2 ⟨rfl, hK⟩; have g1 := eB'.out _ hK; have g2 := eE'.out _ hK)
                | (go_at_call_of 22 vE; refine (CE.out _ ?_).mono ?_; (first | exact K1.out.drew | exact K1.out | assumption); rintro e w2 ⟨rfl, hK⟩; have g1 := eB'.out _ hK; have g2 := eE'.out _ hK))
              all_goals
                go_wp2_with fail
                go_meet
                case rel => exact ⟨congrArg (Value.int .i64) W3.out, by assumption⟩
            case rest =>
              obtain ⟨rfl, hK⟩ := hcut
              have K2 := Lib.hid hK
              clear hK
              go_wp2_with fail
              go_roundw
              case rel => exact ⟨i + 1, m + 1 + xB + xE, rfl, by go_num, by omega, by omega, G1.out.trans st.out, K2.out⟩
              case measure => simp [intOf]; omega
          · have b1 : (i : Int) < (n : Int) := by omega
            have b2 : ¬ (m : Int) < 1000 := by omega
            have e := hw'.out
            rw [G1.out, wgo_big _ _ _ (by omega)] at e
            rw [Nat.min_eq_right (by omega)] at e
            have e' := Lib.hid e
            clear e
            by_cases b3 : (m : Int) = 1000
            · rw [b3]
              go_wp2_with fail
              go_ret
              exact ⟨by rw [e'.out]; rfl, K1.out⟩
            · have b4 : ¬ (m : Int) ≤ 1000 := by omega
              go_wp2_with fail
              go_ret
              exact ⟨by rw [e'.out]; rfl, K1.out⟩
        · obtain rfl : i = n := by omega
          have b1 : ¬ (i : Int) < (i : Int) := by omega
          have e := hw'.out
          rw [G1.out, List.drop_of_length_le (by rw [hn'.out]; exact Nat.le_refl _)] at e
          replace e : r = min m 1000 := e
          by_cases b3 : (m : Int) ≤ 1000
          · rw [Nat.min_eq_left (by omega)] at e
            have e' := Lib.hid e
            clear e
            go_wp2_with fail
            go_ret
            exact ⟨by rw [e'.out]; rfl, K1.out⟩
          · rw [Nat.min_eq_right (by omega)] at e
            have e' := Lib.hid e
            clear e
            go_wp2_with fail
            go_ret
            exact ⟨by rw [e'.out]; rfl, K1.out⟩

theorem few_any {w : World} {v : Value} {F : Fo} (h : SlOf w v F) :
    Calls Tryz.prog 8 #[v] w fun e w' => e = .returned (.bool (decide (wt F 0 ≤ 250))) ∧ Keeps (fun _ => False) w w' := by
  have cw := Lib.hid (weight_any F.size F (Nat.le_refl _) w v 0 h (by omega))
  obtain ⟨x, hx⟩ : ∃ x, wt F 0 = x := ⟨_, rfl⟩
  rw [hx] at cw ⊢
  clear h hx
  rw [show decide (x ≤ 250) = decide ((x : Int) ≤ 250) from decide_eq_decide.2 (by omega)]
  go_enter Tryz.func8, Tryz.ntmps8
  go_wp2_with (go_at_call 22; refine cw.out.mono ?_; rintro e w2 ⟨rfl, hK⟩; have K2 := Lib.hid hK; clear hK)
  go_ret
  exact ⟨rfl, K2.out⟩
end Go.Proofs.YthidipigpfcbbaaGreatDoor
