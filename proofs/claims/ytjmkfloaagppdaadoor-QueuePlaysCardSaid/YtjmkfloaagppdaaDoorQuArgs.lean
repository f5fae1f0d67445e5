/-
  Arguments that are slices of timers: what is known of their cells, as a list of timers. Of no program.
-/
import Derived.Test.YtjmkfloaagppdaaDoorQuAlive
import Derived.Test.YtjmkfloaagppdaaDoorBkArgs
import Derived.Test.YtjmkfloaagppdaaDoorWdArgs
namespace Go.Proofs.YtjmkfloaagppdaaDoor
open Go.RowKit

/-- A slice of timers that came in: nil, or each of its elements is a timer. -/
def Tms (w : World) (a : Option Addr) (len c : Nat) : Prop :=
  (a = none ∧ len = 0 ∧ c = 0) ∨ ∃ x : Addr, a = some x ∧ len ≤ c ∧ c ≤ maxLen ∧ ∀ i, i < len → ∃ z0 z1 : Int, w.cell? (x.add (i * 2 + 0)) = some (.int .i64 z0) ∧ w.cell? (x.add (i * 2 + 1)) = some (.int .i64 z1) ∧ (Lit.int .i64 z0).wf = true ∧ (Lit.int .i64 z1).wf = true

/-- The list of what came in. -/
theorem Tms.list {w : World} {a : Option Addr} {len c : Nat} (h : Tms w a len c) : ∃ l : List Tm, l.length = len ∧ (∀ t ∈ l, wfT t) ∧ Rd w (.slice a len c) l := by
  rcases h with ⟨rfl, rfl, rfl⟩ | ⟨x, rfl, hl, hm, hc⟩
  · exact ⟨[], rfl, fun t ht => absurd ht (by simp), _, _, rfl, .inl rfl⟩
  · cases len with
    | zero => exact ⟨[], rfl, fun t ht => absurd ht (by simp), _, _, rfl, .inl rfl⟩
    | succ n =>
      obtain ⟨z0, z1, h0, _⟩ := hc 0 (by omega)
      have hx := spot_none (x := x) (by simpa using h0)
      have hf : ∀ i, ∃ t : Tm, i < n + 1 → w.cell? ⟨x.block, x.off + i * 2, none⟩ = some (.int .i64 t.1) ∧ w.cell? ⟨x.block, x.off + i * 2 + 1, none⟩ = some (.int .i64 t.2) ∧ wfT t := by
        intro i
        by_cases hi : i < n + 1
        · obtain ⟨y0, y1, k0, k1, w0, w1⟩ := hc i hi
          rw [add_plain x hx] at k0 k1
          exact ⟨(y0, y1), fun _ => ⟨k0, k1, w0, w1⟩⟩
        · exact ⟨(0, 0), fun h => absurd h hi⟩
      obtain ⟨f, hf⟩ := Classical.axiomOfChoice hf
      have hat : ∀ k, k < n + 1 → at_ ((List.range (n + 1)).map f) k = f k := fun k hk => at_eq (by rw [List.getElem?_map, List.getElem?_range hk]; rfl)
      refine ⟨(List.range (n + 1)).map f, by simp, fun t ht => ?_, some x, c, by simp, .inr ⟨x.block, x.off, by rw [← hx], fun k hk => ?_⟩⟩
      · obtain ⟨i, hi, rfl⟩ := List.mem_map.1 ht
        exact (hf i (List.mem_range.1 hi)).2.2
      · have hk' : k < n + 1 := by simpa using hk
        rw [hat k hk']
        exact ⟨(hf k hk').1, (hf k hk').2.1⟩

theorem Tms.le {w : World} {a : Option Addr} {len c : Nat} (h : Tms w a len c) : len ≤ c ∧ c ≤ maxLen := by
  rcases h with ⟨_, rfl, rfl⟩ | ⟨x, _, h1, h2, _⟩
  · exact ⟨Nat.le_refl _, Nat.zero_le _⟩
  · exact ⟨h1, h2⟩

/-- The cells of one element of it. -/
theorem Rd.at_ {w : World} {a : Option Addr} {n c : Nat} {l : List Tm} (h : Rd w (.slice a n c) l) (k : Nat) (hk : k < l.length) : ∃ b off, a = some ⟨b, off, none⟩ ∧ w.cell? ⟨b, off + k * 2, none⟩ = some (.int .i64 (at_ l k).1) ∧ w.cell? ⟨b, off + k * 2 + 1, none⟩ = some (.int .i64 (at_ l k).2) := by
  obtain ⟨a', c', e, h⟩ := h
  simp only [Value.slice.injEq] at e
  obtain ⟨rfl, rfl, rfl⟩ := e
  rcases h with rfl | ⟨b, off, rfl, h⟩
  · simp at hk
  · exact ⟨b, off, rfl, h k hk⟩
end Go.Proofs.YtjmkfloaagppdaaDoor
