/-
  Arguments that are slices of bools and of integers: what is known of their cells. Of no program.
-/
import Derived.Test.YtpmbkeaimdeglaaDoorWdCell
import Derived.Deep.Grids
import Derived.ChangeSlices
namespace Go.Proofs.YtpmbkeaimdeglaaDoor
open Go.RowKit

theorem spot_none {x : Addr} {w : World} {v : Value} (h : w.cell? (x.add 0) = some v) : x = ⟨x.block, x.off, none⟩ := by
  obtain ⟨b, o, s⟩ := x
  cases s with
  | none => rfl
  | some s =>
    exfalso
    have hs : (x : Addr) → x.spot.isSome = true → w.cell? x = none := by
      intro x hx
      unfold World.cell?
      split
      · simp [hx]
      · rfl
    rw [hs] at h
    · cases h
    · rfl

theorem add_plain (x : Addr) (hx : x = ⟨x.block, x.off, none⟩) (j : Nat) : x.add j = ⟨x.block, x.off + j, none⟩ := by
  rw [hx]
  unfold Addr.add
  split
  · have h0 : j = 0 := by assumption
    simp only [Addr.mk.injEq, true_and, and_true]
    omega
  · rfl

/-- A slice that came in: nil, or each of its elements is what f says. -/
def Cells1 (w : World) (a : Option Addr) (len : Nat) (ok : Value → Prop) : Prop :=
  (a = none ∧ len = 0) ∨ ∃ x : Addr, a = some x ∧ len ≤ maxLen ∧ ∀ i, i < len → ∃ v, w.cell? (x.add i) = some v ∧ ok v

def Flags (w : World) (a : Option Addr) (len : Nat) : Prop := Cells1 w a len fun v => ∃ c : Bool, v = .bool c
def Nums (w : World) (a : Option Addr) (len : Nat) : Prop := Cells1 w a len fun v => ∃ z : Int, v = .int .i64 z ∧ (Lit.int .i64 z).wf = true

theorem Cells1.le {w : World} {a : Option Addr} {len : Nat} {ok : Value → Prop} (h : Cells1 w a len ok) : len ≤ maxLen := by
  rcases h with ⟨_, h⟩ | ⟨x, _, h, _⟩
  · omega
  · exact h

theorem Cells1.keeps {w w' : World} {a : Option Addr} {len : Nat} {ok : Value → Prop} {S : Nat → Prop} (h : Cells1 w a len ok) (k : Keeps S w w') (hS : ∀ x, x < w.heap.size → ¬ S x) : Cells1 w' a len ok := by
  rcases h with h | ⟨x, rfl, hl, hc⟩
  · exact .inl h
  · refine .inr ⟨x, rfl, hl, fun i hi => ?_⟩
    obtain ⟨v, h1, h2⟩ := hc i hi
    exact ⟨v, (k.cell (cell_lt h1) (hS _ (cell_lt h1))).trans h1, h2⟩

theorem Cells1.at_ {w : World} {a : Option Addr} {len : Nat} {ok : Value → Prop} (h : Cells1 w a len ok) (i : Nat) (hi : i < len) : ∃ b off v, a = some ⟨b, off, none⟩ ∧ w.cell? ⟨b, off + i, none⟩ = some v ∧ ok v := by
  rcases h with ⟨_, h⟩ | ⟨x, rfl, _, hc⟩
  · omega
  · obtain ⟨v0, h0, _⟩ := hc 0 (by omega)
    have hx := spot_none h0
    obtain ⟨v, h1, h2⟩ := hc i hi
    rw [add_plain x hx] at h1
    exact ⟨x.block, x.off, v, by rw [← hx], h1, h2⟩
end Go.Proofs.YtpmbkeaimdeglaaDoor
