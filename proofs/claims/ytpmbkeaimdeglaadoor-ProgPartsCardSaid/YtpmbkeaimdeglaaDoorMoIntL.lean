/-
  An argument that is a slice of kinds, as a list.
-/
import Derived.Test.YtpmbkeaimdeglaaDoorRkInt
import Derived.Test.YtpmbkeaimdeglaaDoorBkArgs
namespace Go.Proofs.YtpmbkeaimdeglaaDoor
open Go.RowKit Go.Maps Go.Extern.Stop Go.Stop Go.Extern

/-- The ints K, in memory. -/
structure IntL (w : World) (a : Option Addr) (n : Nat) (K : List Int) : Prop where
  len : K.length = n
  fit : n ≤ maxLen
  none_ : a = none → n = 0
  at_ : 0 < n → ∃ b o, a = some ⟨b, o, none⟩ ∧ ∀ i x, K[i]? = some x → w.cell? ⟨b, o + i, none⟩ = some (.int .i64 x)

theorem Nums.list {w : World} {a : Option Addr} {len : Nat} (h : Nums w a len) : ∃ K, IntL w a len K := by
  rcases h with ⟨rfl, rfl⟩ | ⟨x, rfl, h2, h3⟩
  · exact ⟨[], rfl, Nat.zero_le _, fun _ => rfl, fun h => absurd h (Nat.lt_irrefl _)⟩
  · have h4 : ∀ i : Nat, ∃ y : Int, i < len → w.cell? (x.add i) = some (.int .i64 y) := fun i => by
      by_cases hi : i < len
      · obtain ⟨v, e, z, rfl, _⟩ := h3 i hi
        exact ⟨z, fun _ => e⟩
      · exact ⟨0, fun h => absurd h hi⟩
    have hf := fun i => Classical.choose_spec (h4 i)
    generalize hg : (fun i => Classical.choose (h4 i)) = f
    have hf' : ∀ i, i < len → w.cell? (x.add i) = some (.int .i64 (f i)) := fun i hi => by rw [← hg]; exact hf i hi
    refine ⟨(List.range len).map f, by simp, h2, (fun e => by cases e), fun h0 => ?_⟩
    have hx := spot_none (hf' 0 h0)
    refine ⟨x.block, x.off, by rw [← hx], fun i y hy => ?_⟩
    rw [List.getElem?_map] at hy
    obtain ⟨j, hj, rfl⟩ := Option.map_eq_some_iff.1 hy
    obtain ⟨h5, rfl⟩ := List.getElem?_eq_some_iff.1 hj
    rw [List.getElem_range]
    have := hf' i (by simpa using h5)
    rwa [add_plain x hx] at this
theorem IntL.same {w w' : World} {a : Option Addr} {n : Nat} {K : List Int} (h : IntL w a n K) (k : Keeps (fun _ => False) w w') : IntL w' a n K :=
  ⟨h.len, h.fit, h.none_, fun h0 => by
    obtain ⟨b, o, h1, h2⟩ := h.at_ h0
    exact ⟨b, o, h1, fun i x hx => (k.cell (cell_lt (h2 i x hx)) id).trans (h2 i x hx)⟩⟩
/-- Its cells, from its address on. -/
theorem IntL.cells {w : World} {a : Option Addr} {n : Nat} {K : List Int} (h : IntL w a n K) : ∀ ad, a = some ad → ∀ j u, (intK.cs K)[j]? = some u → w.cell? (ad.add j) = some u := fun ad ha j u hu => by
  have hu' : (K.map fun x => Value.int .i64 x)[j]? = some u := hu
  rw [List.getElem?_map] at hu'
  obtain ⟨x, hx, rfl⟩ := Option.map_eq_some_iff.1 hu'
  have hj := (List.getElem?_eq_some_iff.1 hx).1
  obtain ⟨b, o, h1, h2⟩ := h.at_ (by have := h.len; omega)
  rw [h1] at ha
  injection ha with ha
  subst ha
  rw [add_plain _ rfl]
  exact h2 j x hx
end Go.Proofs.YtpmbkeaimdeglaaDoor
