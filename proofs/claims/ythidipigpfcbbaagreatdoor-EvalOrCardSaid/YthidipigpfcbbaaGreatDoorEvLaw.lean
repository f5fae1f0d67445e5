/-
  What the laws of layer 11 share: Run's answer in one form.
-/
import Derived.Test.YthidipigpfcbbaaGreatDoorEvAlive
import Derived.Test.YthidipigpfcbbaaGreatDoorEvBoth
import Derived.Test.YthidipigpfcbbaaGreatDoorPgWeight
namespace Go.Proofs.YthidipigpfcbbaaGreatDoor
open Go.RowKit Go.Maps Go.Extern.Stop Go.Stop Go.Extern

/-- Run's answer: ne: the error's number. -/
def RanTo (w : World) (A : M8) (F : Fo) (e : Ending) (w' : World) : Prop := Keeps (fun _ => False) w w' ∧ ∃ (t : Option Addr) (k : Int) (o : Option Addr) (n c : Nat) (ev : Value) (ne : Nat) (a : Int),
  e = .returned (.tuple #[.pointer t, .agg #[.int .i64 k, .slice o n c], ev]) ∧ ErrU w.heap.size w' ev ne a ∧
  (ne = 0 → ∃ tb Z, t = some ⟨tb, 0, none⟩ ∧ k = endC (runA A F).2.1 ∧ PM w' tb (runS A F) Z ∧ IRow w' (.slice o n c) (runA A F).1.T ∧ (runA A F).1.T.length ≤ 1000000 ∧ (runA A F).2.1 ≠ 5)
theorem ran_any11 {w : World} {s : Nat} {A : M8} {X : Nat → Prop} {v : Value} {F : Fo} (hg : Glob w) (st : PM w s A X) (hv : SlOf w v F) (hs : F.size ≤ 20000) (hd : F.deep ≤ 20000) :
    Calls Tryz.prog 10 #[.pointer (some ⟨s, 0, none⟩), v] w fun e w' => RanTo w A F e w' := by
  refine (run_any11 hg st hv hs hd).mono ?_
  rintro e w' ⟨hK, h⟩
  refine ⟨hK, ?_⟩
  rcases h with ⟨_, ev, k, a, h1, h2, h3⟩ | ⟨h1, h2, t, Z, tv, h3, h4, h5, h6, h7, h8⟩
  · exact ⟨none, 0, none, 0, 0, ev, k, a, h1, h3, fun e => absurd e h2⟩
  · obtain ⟨o, c, rfl, _⟩ := row_shape h6
    exact ⟨_, _, o, _, c, .nilIface, 0, 0, h3, .inl ⟨rfl, rfl, rfl⟩, fun _ => ⟨t, Z, rfl, rfl, h4, h6, by omega, h2⟩⟩
theorem endC_4 {A : M8} {F : Fo} (h : endC (runA A F).2.1 ≠ 4) : runA A F = evU F (rs0 A) := run_free fun e => h (by rw [e]; rfl)
theorem endC_inj {j k : Nat} (hj : j ≠ 1) (hk : k ≠ 1) (h : endC j = endC k) : j = k := by
  unfold endC at h
  split at h <;> split at h <;> omega
/-- Two states that are the same. -/
theorem same_yes {w : World} {s o : Nat} {A B : M8} {X Z : Nat → Prop} (h : PM w s A X) (h' : PM w o B Z) (e : A = B) :
    Calls Tryz.prog 13 #[.pointer (some ⟨s, 0, none⟩), .pointer (some ⟨o, 0, none⟩)] w fun e w' => e = .returned (.bool true) ∧ Keeps (fun _ => False) w w' := by
  refine (face.same_ h h').mono ?_
  rintro e' w' ⟨b, rfl, hb, hK⟩
  rw [hb.2 e]
  exact ⟨rfl, hK⟩
/-- Two answers that are the same. -/
theorem eval_yes {w : World} {k l : Int} {a b : Option Addr} {n c m d : Nat} {L M : List Int} (h : IRow w (.slice a n c) L) (h' : IRow w (.slice b m d) M) (few : L.length ≤ 1000000) (hk : k = l) (hL : L = M) :
    Calls Tryz.prog 12 #[.agg #[.int .i64 k, .slice a n c], .agg #[.int .i64 l, .slice b m d]] w fun e w' => e = .returned (.bool true) ∧ Keeps (fun _ => False) w w' := by
  refine (rsame11 (k := k) (l := l) h h' few).mono ?_
  rintro e w' ⟨rfl, hK⟩
  exact ⟨by rw [decide_eq_true ⟨hk, hL⟩], hK⟩
end Go.Proofs.YthidipigpfcbbaaGreatDoor
