/-
  Arguments that are slices of calls (a kind and a timer): what is known of their cells. Of no program.
-/
import Derived.Test.YtjmkfloaagppdaaDoorQuArgs
import Derived.Test.YtjmkfloaagppdaaDoorWdArgs
import Derived.Deep.Slices
import Derived.Deep.Fields
import Derived.ChangeSame
namespace Go.Proofs.YtjmkfloaagppdaaDoor
open Go.RowKit

/-- A slice of calls that came in: nil, or each of its elements is a number and a timer. -/
def Acts (w : World) (a : Option Addr) (len c : Nat) : Prop :=
  (a = none ∧ len = 0 ∧ c = 0) ∨ ∃ x : Addr, a = some x ∧ len ≤ c ∧ c ≤ maxLen ∧ ∀ i, i < len → ∃ k z0 z1 : Int, w.cell? (x.add (i * 3 + 0)) = some (.int .i64 k) ∧ w.cell? (x.add (i * 3 + 1)) = some (.int .i64 z0) ∧ w.cell? (x.add (i * 3 + 2)) = some (.int .i64 z1) ∧ (Lit.int .i64 k).wf = true ∧ (Lit.int .i64 z0).wf = true ∧ (Lit.int .i64 z1).wf = true

/-- One of them. -/
theorem Acts.at_ {w : World} {a : Option Addr} {len c : Nat} (h : Acts w a len c) (i : Nat) (hi : i < len) :
    ∃ b off, a = some ⟨b, off, none⟩ ∧ ∃ (k : Int) (t : Tm), w.cell? ⟨b, off + i * 3, none⟩ = some (.int .i64 k) ∧ w.cell? ⟨b, off + i * 3 + 1, none⟩ = some (.int .i64 t.1) ∧ w.cell? ⟨b, off + i * 3 + 2, none⟩ = some (.int .i64 t.2) ∧ wfT t := by
  rcases h with ⟨_, rfl, _⟩ | ⟨x, rfl, hl, hm, hc⟩
  · omega
  · obtain ⟨k0, _, _, h0, _⟩ := hc 0 (by omega)
    have hx := spot_none (x := x) (by simpa using h0)
    obtain ⟨k, z0, z1, c0, c1, c2, _, f1, f2⟩ := hc i hi
    rw [add_plain x hx] at c0 c1 c2
    exact ⟨x.block, x.off, by rw [← hx], k, (z0, z1), c0, c1, c2, f1, f2⟩

theorem Acts.le {w : World} {a : Option Addr} {len c : Nat} (h : Acts w a len c) : len ≤ c ∧ c ≤ maxLen := by
  rcases h with ⟨_, rfl, rfl⟩ | ⟨x, _, h1, h2, _⟩
  · exact ⟨Nat.le_refl _, Nat.zero_le _⟩
  · exact ⟨h1, h2⟩

open Go.ChangeShapes Go.WideShapes Go.Deep
section
variable {H : Type} {enc : TypeId × Value → H} {w : World} {base : Nat} {spare : Nat → Bool} {held : Bool}

theorem act_cells : Tryd.prog.cellsOf 33 = 3 := by kernel_rfl
theorem tm_cells : Tryd.prog.cellsOf 31 = 2 := by kernel_rfl
theorem int_cells : Tryd.prog.cellsOf 3 = 1 := by kernel_rfl

theorem len3 : ∀ (cs : List Value), cs.length = 3 → ∃ a b c, cs = [a, b, c]
  | [a, b, c], _ => ⟨a, b, c, rfl⟩

theorem ints_of {n : Nat} {v : Value} {y : Option (DataW H × List MemPlace)} (h : DataW.trod enc Tryd.prog w base spare held n 3 [v] = y) (hy : y.isSome = true) : ∃ z : Int, v = .int .i64 z ∧ (Lit.int .i64 z).wf = true := by
  obtain ⟨y', rfl⟩ := Option.isSome_iff_exists.1 hy
  obtain ⟨z, e, _, f⟩ := DataW.trod_int (k := .i64) (by kernel_rfl) h
  exact ⟨z, by simpa using e, f⟩

/-- A call that came in, by value: its three cells. -/
theorem open_act {n : Nat} {cs : List Value} {x : DataW H × List MemPlace} (h : DataW.trod enc Tryd.prog w base spare held n 33 cs = some x) :
    ∃ k z0 z1 : Int, cs = [.int .i64 k, .int .i64 z0, .int .i64 z1] ∧ (Lit.int .i64 k).wf = true ∧ (Lit.int .i64 z0).wf = true ∧ (Lit.int .i64 z1).wf = true := by
  obtain ⟨ys, n1, _, _, hlen, hyl, hf⟩ := DataW.trod_struct Tryd.underlying33 h
  rw [act_cells] at hlen
  obtain ⟨a, b, c, rfl⟩ := len3 cs hlen
  have q0 : DataW.trod enc Tryd.prog w base spare held n1 3 (([a, b, c].drop 0).take (Tryd.prog.cellsOf 3)) = ys[0]? := hf 0 _ rfl
  have q1 : DataW.trod enc Tryd.prog w base spare held n1 31 (([a, b, c].drop 1).take (Tryd.prog.cellsOf 31)) = ys[1]? := hf 1 _ rfl
  rw [int_cells] at q0
  rw [tm_cells] at q1
  have hy2 : ys.length = 2 := hyl
  have y0 : (ys[0]?).isSome = true := by rw [List.getElem?_eq_getElem (by omega)]; rfl
  have y1 : (ys[1]?).isSome = true := by rw [List.getElem?_eq_getElem (by omega)]; rfl
  obtain ⟨k, rfl, fk⟩ := ints_of q0 y0
  obtain ⟨x1, hx1⟩ := Option.isSome_iff_exists.1 y1
  rw [hx1] at q1
  obtain ⟨us, n2, _, _, hlen2, hul, hg⟩ := DataW.trod_struct Tryd.underlying31 q1
  have p0 : DataW.trod enc Tryd.prog w base spare held n2 3 (([b, c].drop 0).take (Tryd.prog.cellsOf 3)) = us[0]? := hg 0 _ rfl
  have p1 : DataW.trod enc Tryd.prog w base spare held n2 3 (([b, c].drop 1).take (Tryd.prog.cellsOf 3)) = us[1]? := hg 1 _ rfl
  rw [int_cells] at p0 p1
  have hu2 : us.length = 2 := hul
  obtain ⟨z0, rfl, f0⟩ := ints_of p0 (by rw [List.getElem?_eq_getElem (by omega)]; rfl)
  obtain ⟨z1, rfl, f1⟩ := ints_of p1 (by rw [List.getElem?_eq_getElem (by omega)]; rfl)
  exact ⟨k, z0, z1, rfl, fk, f0, f1⟩

theorem open_acts {fuel : Nat} {a : Option Addr} {len c : Nat} {x : DataW H × List MemPlace} (h : DataW.trod enc Tryd.prog w base spare held fuel 22 (Value.cells (.slice a len c)).toList = some x) : Acts w a len c := by
  rcases open_slice Tryd.underlying22 h with ⟨hcs, _⟩ | ⟨ad, l, d, m, n, D, Pl, hcs, _, hl, hm, hmm, _, hi⟩
  · simp [Value.cells] at hcs
    obtain ⟨rfl, rfl, rfl⟩ := hcs
    exact .inl ⟨rfl, rfl, rfl⟩
  · simp [Value.cells] at hcs
    obtain ⟨rfl, rfl, rfl⟩ := hcs
    refine .inr ⟨_, rfl, hl, hm, fun i hlt => ?_⟩
    obtain ⟨cs', hc, ht'⟩ := hi i (by rw [hmm]; split <;> omega)
    obtain ⟨k, z0, z1, rfl, fk, f0, f1⟩ := open_act ht'
    rw [act_cells] at hc
    obtain ⟨_, _, hat⟩ := World.cells?_some hc
    have h0 := hat 0 (by omega)
    have h1 := hat 1 (by omega)
    have h2 := hat 2 (by omega)
    rw [Go.Deep.add_add] at h0 h1 h2
    exact ⟨k, z0, z1, h0, h1, h2, fk, f0, f1⟩
end
end Go.Proofs.YtjmkfloaagppdaaDoor
