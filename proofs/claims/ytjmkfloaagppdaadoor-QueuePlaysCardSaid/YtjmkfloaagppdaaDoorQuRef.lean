/-
  concordref04.Queue in memory ('RQ': L, the timers in order; Y: the memory blocks that it has), and Find by contract.
-/
import Derived.Test.YtjmkfloaagppdaaDoorQuAppRd
namespace Go.Proofs.YtjmkfloaagppdaaDoor
open Go.RowKit Go.Extern.Stop Go.Stop Go.Extern

def RQ (w : World) (r : Nat) (L : List Tm) (Y : Nat → Prop) : Prop :=
  ∃ v, Whole w r 29 #[v] ∧ TRow w v L ∧ Y r ∧ (∀ g, v.ownBlock = some g → Y g) ∧ ∀ x, Y x → x < w.heap.size

theorem RQ.keeps {w w' : World} {r : Nat} {L : List Tm} {Y S : Nat → Prop} (h : RQ w r L Y) (k : Keeps S w w') (hS : ∀ x, Y x → ¬ S x) : RQ w' r L Y := by
  obtain ⟨v, h1, h2, h3, h4, h5⟩ := h
  exact ⟨v, h1.keeps k (hS r h3), ownsRow_keeps h2 k fun g hg => hS g (h4 g hg), h3, h4, fun x hx => Nat.lt_of_lt_of_le (h5 x hx) k.size⟩
theorem RQ.same {w w' : World} {r : Nat} {L : List Tm} {Y : Nat → Prop} (h : RQ w r L Y) (k : Keeps (fun _ => False) w w') : RQ w' r L Y := h.keeps k fun _ _ => id
theorem RQ.old {w : World} {r : Nat} {L : List Tm} {Y : Nat → Prop} (h : RQ w r L Y) : ∀ x, Y x → x < w.heap.size := by obtain ⟨v, _, _, _, _, h5⟩ := h; exact h5

/-- What a call of it leaves. -/
def RWent (w : World) (r : Nat) (L' : List Tm) (Y : Nat → Prop) (w' : World) : Prop := (∃ Y', RQ w' r L' Y' ∧ ∀ x, Y' x → Y x ∨ w.heap.size ≤ x) ∧ Keeps (fun x => x = r) w w'

/-- The row is another one, of one's own. -/
theorem RQ.store {w V : World} {r : Nat} {L L' : List Tm} {Y : Nat → Prop} {v : Value} (h : RQ w r L Y) (k : Keeps (fun _ => False) w V) (hO : Own V v L' w.heap.size) :
    RWent w r L' Y (V.setCell ⟨r, 0, none⟩ v) := by
  obtain ⟨v0, h1, _, h3, h4, h5⟩ := h
  have b := h1.keeps k id
  have kS : Keeps (fun x => x = r) V (V.setCell ⟨r, 0, none⟩ v) := (Keeps.refl (fun x => x = r) V).setCell (p := ⟨r, 0, none⟩) (fun _ => rfl) _
  refine ⟨⟨fun x => Y x ∨ v.ownBlock = some x, ⟨v, ?_, ownsRow_keeps hO.1 kS fun g hg e => row_ne hO.1 b (by decide) (by rw [hg, e]), .inl h3, fun g hg => .inr hg, fun x hx => ?_⟩, fun x hx => hx.imp id fun e => hO.2 x e⟩, (k.mono fun _ _ => False.elim : Keeps (fun x => x = r) w V).trans_ kS⟩
  · have := b.set_ 0 v
    simpa using this
  · rcases hx with hx | hx
    · exact Nat.lt_of_lt_of_le (h5 x hx) (Nat.le_trans k.size kS.size)
    · obtain ⟨cs, hcs⟩ := row_whole hO.1 hx
      exact Nat.lt_of_lt_of_le hcs.lt kS.size

/-- What Find tells. -/
def Finds (L : List Tm) (id z : Int) : Prop := (∃ k : Nat, k < L.length ∧ z = k ∧ (at_ L k).2 = id ∧ ∀ j, j < k → (at_ L j).2 ≠ id) ∨ (z = -1 ∧ ∀ u ∈ L, u.2 ≠ id)

theorem Finds.at_ {L : List Tm} {id z : Int} (h : Finds L id z) {i : Nat} (hi : i < L.length) (hb : ∀ j, j < i → (Go.Proofs.YtjmkfloaagppdaaDoor.at_ L j).2 ≠ id) (he : (Go.Proofs.YtjmkfloaagppdaaDoor.at_ L i).2 = id) : z = i := by
  rcases h with ⟨k, hk, rfl, h1, h2⟩ | ⟨_, h⟩
  · rcases Nat.lt_trichotomy k i with c | c | c
    · exact absurd h1 (hb k c)
    · rw [c]
    · exact absurd he (h2 i c)
  · exact absurd he (h _ (at_mem hi))
theorem Finds.no {L : List Tm} {id z : Int} (h : Finds L id z) (hb : ∀ j, j < L.length → (Go.Proofs.YtjmkfloaagppdaaDoor.at_ L j).2 ≠ id) : z = -1 := by
  rcases h with ⟨k, hk, rfl, h1, _⟩ | ⟨e, _⟩
  · exact absurd h1 (hb k hk)
  · exact e
theorem Finds.any (L : List Tm) (id : Int) : ∃ z, Finds L id z := by
  by_cases c : ∀ u ∈ L, u.2 ≠ id
  · exact ⟨-1, .inr ⟨rfl, c⟩⟩
  · have c' : ∃ k, k < L.length ∧ (Go.Proofs.YtjmkfloaagppdaaDoor.at_ L k).2 = id := Classical.byContradiction fun hn => c fun u hu e => by
      obtain ⟨k, hk, rfl⟩ := at_of_mem hu
      exact hn ⟨k, hk, e⟩
    obtain ⟨k, hk, he⟩ := c'
    induction k using Nat.strongRecOn with
    | ind k ih =>
      by_cases hb : ∃ j, j < k ∧ (Go.Proofs.YtjmkfloaagppdaaDoor.at_ L j).2 = id
      · obtain ⟨j, hj, e⟩ := hb
        exact ih j hj (by omega) e
      · exact ⟨k, .inl ⟨k, hk, rfl, he, fun j hj e => hb ⟨j, hj, e⟩⟩⟩

set_option maxRecDepth 100000 in
theorem ref_find {w : World} {r : Nat} {L : List Tm} {Y : Nat → Prop} (h : RQ w r L Y) (few : L.length ≤ 200) (id z : Int) (hz : Finds L id z) :
    Calls Tryd.prog 39 #[.pointer (some ⟨r, 0, none⟩), .int .i64 id] w fun e w' => e = .returned (.int .i64 z) ∧ w = w' := by
  obtain ⟨v, h1, hR, _⟩ := h
  obtain ⟨o, c, rfl, ho⟩ := TRow.shape hR
  have c0 : w.cell? ⟨r, 0, none⟩ = some (.slice o L.length c) := h1.at_ 0
  have R0 := Lib.hid hR
  have Z0 := Lib.hid hz
  clear h1 hR hz
  go_enter Tryd.func39, Tryd.ntmps39
  go_wp2_with fail
  go_loopw [5] (fun iv wr => ∃ i : Nat, iv = .int .i64 i ∧ i ≤ L.length ∧ (∀ j, j < i → (at_ L j).2 ≠ id) ∧ w = wr) (fun iv _ => L.length - (intOf iv).toNat)
  case atStart => exact ⟨0, rfl, Nat.zero_le _, fun j hj => absurd hj (Nat.not_lt_zero _), by trivial⟩
  case round =>
    obtain ⟨i, rfl, hi, hD, rfl⟩ := hrel
    have D0 := Lib.hid hD
    clear hD
    by_cases hin : i < L.length
    · have hin' : (i : Int) < (L.length : Int) := by omega
      obtain ⟨g, rfl⟩ := ho (by omega)
      have y1 := TRow.id R0.out i hin
      obtain ⟨p, hp⟩ : ∃ p, (at_ L i).2 = p := ⟨_, rfl⟩
      rw [hp] at y1
      have hp' := Lib.hid hp
      clear hp
      by_cases hpq : p = id
      · have hb : (p == id) = true := by simpa using hpq
        have hz : z = i := Z0.out.at_ hin D0.out (hp'.out.trans hpq)
        subst hpq
        go_wp2_with fail
        go_ret
        exact ⟨by subst hz; rfl, by trivial⟩
      · have hb : (p == id) = false := by simpa using hpq
        go_wp2_with fail
        go_roundw
        case rel =>
          refine ⟨i + 1, by go_num, by omega, fun j hj => ?_, by trivial⟩
          rcases Nat.lt_or_ge j i with h | h
          · exact D0.out j h
          · obtain rfl : j = i := by omega
            rw [hp'.out]
            exact hpq
        case measure => simp [intOf]; omega
    · have hin' : ¬ (i : Int) < (L.length : Int) := by omega
      have hz : z = -1 := Z0.out.no fun j hj => D0.out j (by omega)
      go_wp2_with fail
      go_ret
      exact ⟨by subst hz; rfl, by trivial⟩
end Go.Proofs.YtjmkfloaagppdaaDoor
