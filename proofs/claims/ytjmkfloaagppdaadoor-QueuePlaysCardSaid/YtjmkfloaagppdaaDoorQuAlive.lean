/-
  concordlaw04.alive, the chapter's example, by contract: true; it makes blocks and changes none.
-/
import Derived.Test.YtjmkfloaagppdaaDoorQuSame
namespace Go.Proofs.YtjmkfloaagppdaaDoor
open Go.RowKit Go.Extern.Stop Go.Stop Go.Extern

/-- What is new is no block that was there. -/
theorem Keeps.fresh {w w' : World} {S : Nat → Prop} (h : Keeps S w w') (hS : ∀ x, S x → w.heap.size ≤ x) : Keeps (fun _ => False) w w' := h.mono fun x hx hs => absurd hx (Nat.not_lt.2 (hS x hs))

theorem wf_small {a : Int} (h : -1000000000 ≤ a ∧ a ≤ 1000000000) : (Lit.int .i64 a).wf = true := by
  have h1 : IntKind.i64.min = -9223372036854775808 := by decide
  have h2 : IntKind.i64.max = 9223372036854775807 := by decide
  simp only [Lit.wf, h1, h2]
  simp
  omega

theorem wfT_small {a b : Int} (h : -1000000000 ≤ a ∧ a ≤ 1000000000) (k : -1000000000 ≤ b ∧ b ≤ 1000000000) : wfT (a, b) := ⟨wf_small h, wf_small k⟩

/-- A Fault's number and its place. -/
theorem no_isFault {w w' : World} {er : Value} {i : Int} {k : Nat} {B : Nat} (h : IsFault w er i k B) (h1 : 1 ≤ k) (h2 : k ≤ 17) (hk : Keeps (fun _ => False) w w') :
    Calls Tryd.prog 16 #[er] w' fun e w'' => e = .returned (.int .i64 k) ∧ w' = w'' := by
  obtain ⟨p, _, rfl, hW⟩ := h
  exact no_fault p 0 k h1 h2 w' ((hW.keeps hk id).at_ 1)
theorem place_isFault {w w' : World} {er : Value} {i k : Int} {B : Nat} (h : IsFault w er i k B) (hk : Keeps (fun _ => False) w w') (hg : Glob w') :
    Calls Tryd.prog 22 #[er] w' fun e w'' => e = .returned (.int .i64 i) ∧ Keeps (fun _ => False) w' w'' := by
  obtain ⟨p, _, rfl, hW⟩ := h
  exact place_fault p i _ w' hg (hW.keeps hk id)
theorem IsFault.keeps {w w' : World} {er : Value} {i k : Int} {B : Nat} {S : Nat → Prop} (h : IsFault w er i k B) (hk : Keeps S w w') (hS : ∀ x, B ≤ x → ¬ S x) : IsFault w' er i k B := by
  obtain ⟨p, hp, e, hW⟩ := h
  exact ⟨p, hp, e, hW.keeps hk (hS p hp)⟩

theorem lit_one {w : World} {b : Nat} {t : Tm} (h : Whole w b 31 #[.int .i64 t.1, .int .i64 t.2]) (c : Nat) : Rd w (.slice (some ⟨b, 0, none⟩) 1 c) [t] := by
  refine ⟨_, c, rfl, .inr ⟨b, 0, rfl, fun k hk => ?_⟩⟩
  obtain rfl : k = 0 := by simpa using hk
  exact ⟨h.at_ 0, h.at_ 1⟩

set_option maxRecDepth 100000 in
set_option maxHeartbeats 1000000 in
theorem alive4 (w : World) (hg : Glob w) :
    Calls Tryd.prog 10 #[] w fun e w' => e = .returned (.bool true) ∧ Keeps (fun _ => False) w w' := by
  have g0 := Lib.hid hg
  have hE := eqIn_tm
  have hG := tm_guard
  clear hg
  go_enter Tryd.func10, Tryd.ntmps10
  go_wp2_with (first
    | (go_at_call 9; refine (new_any _).mono ?_; rintro e w1 ⟨q, X, rfl, hQ, hX, hK⟩; have Q1 := Lib.hid hQ; have X1 := Lib.hid hX; have K1 := Lib.hid hK; clear hQ hX hK)
    | (go_at_call 17; refine (push_ok Q1.out (5, 1) (wfT_small (by decide) (by decide)) (by decide) (by simp)).mono ?_; rintro e w2 ⟨rfl, ⟨X2, hQ, hX⟩, hK⟩; have Q2 := Lib.hid (show Qu w2 q [(5, 1)] X2 from hQ); have X2' := Lib.hid (show ∀ x, X2 x → w.heap.size ≤ x from fun x hx => (hX x hx).elim (X1.out x) fun h => Nat.le_trans K1.out.size h); have K2 := Lib.hid (K1.out.trans hK fun x hx h => absurd hx (Nat.not_lt.2 (X1.out x h))); clear hQ hX hK Q1 K1)
    | (go_at_call 17; refine (push_ok Q2.out (3, 2) (wfT_small (by decide) (by decide)) (by decide) (by simp)).mono ?_; rintro e w3 ⟨rfl, ⟨X3, hQ, hX⟩, hK⟩; have Q3 := Lib.hid (show Qu w3 q [(3, 2), (5, 1)] X3 from hQ); have X3' := Lib.hid (show ∀ x, X3 x → w.heap.size ≤ x from fun x hx => (hX x hx).elim (X2'.out x) fun h => Nat.le_trans K2.out.size h); have K3 := Lib.hid (K2.out.trans hK fun x hx h => absurd hx (Nat.not_lt.2 (X2'.out x h))); clear hQ hX hK Q2 K2)
    | (go_at_call 17; refine (push_there Q3.out (3, 1) (wfT_small (by decide) (by decide)) (5, 1) (by simp) rfl).mono ?_; rintro e w4 ⟨er, rfl, hF, hK⟩; have F4 := Lib.hid hF; have Q4 := Lib.hid (Q3.out.same hK); have K4 := Lib.hid (K3.out.trans hK fun _ _ => False.elim); have O3 := Lib.hid Q3.out.old; clear hF hK Q3 K3))
  refine (due_any Q4.out 4).mono ?_
  rintro e w5 ⟨v, rfl, hO, hQ, hK⟩
  have O5 := Lib.hid (show Own w5 v [(3, 2)] w4.heap.size from hO)
  have Q5 := Lib.hid (show Qu w5 q [(5, 1)] X3 from hQ)
  have F5 := Lib.hid (F4.out.keeps hK fun x hx h => absurd (O3.out x h) (Nat.not_lt.2 hx))
  have K5 := Lib.hid (K4.out.trans hK fun x hx h => absurd hx (Nat.not_lt.2 (X3'.out x h)))
  clear hO hQ hK Q4 F4 K4
  go_wp2_with fail
  refine (next_some Q5.out).mono ?_
  rintro e w6 ⟨rfl, hK⟩
  unfold tmVal
  have O6 := Lib.hid (O5.out.same hK)
  have K6 := Lib.hid (K5.out.trans hK fun _ _ => False.elim)
  have F6 := Lib.hid (F5.out.keeps hK fun _ _ => id)
  clear hK O5 K5 F5 Q5
  go_wp2_with fail
  refine (no_nil _).mono ?_
  rintro e w' ⟨rfl, rfl⟩
  go_wp2_with fail
  refine (no_nil _).mono ?_
  rintro e w' ⟨rfl, rfl⟩
  go_wp2_with fail
  have m7 := Lib.hid (Whole.made w6 31 #[.int .i64 5, .int .i64 1])
  have k7 := Lib.hid ((Keeps.refl (fun _ => False) w6).alloc (.cells #[.int .i64 5, .int .i64 1] 31))
  obtain ⟨W, hW⟩ : ∃ W, W = w6.alloc (.cells #[.int .i64 5, .int .i64 1] 31) := ⟨_, rfl⟩
  rw [← hW] at m7 k7 ⊢
  clear hW
  refine (no_isFault F6.out (by decide) (by decide) k7.out).mono ?_
  rintro e w' ⟨rfl, rfl⟩
  go_wp2_with fail
  refine (place_isFault F6.out k7.out (g0.out.keeps (K6.out.trans k7.out fun _ _ => False.elim) id)).mono ?_
  rintro e w8 ⟨rfl, hK⟩
  have k8 := Lib.hid (k7.out.trans hK fun _ _ => False.elim)
  have m8 := Lib.hid (m7.out.keeps hK id)
  clear hK m7 k7
  go_wp2_with fail
  refine (same_any _ [(3, 2)] [(3, 2)] v _ ((O6.out.same (k8.out.alloc _)).rd) (lit_one (Whole.made w8 31 #[.int .i64 3, .int .i64 2]) 1) (by decide)).mono ?_
  rintro e w9 ⟨rfl, hK⟩
  have m9 := (m8.out.alloc (.cells #[.int .i64 3, .int .i64 2] 31)).keeps hK id
  have c0 : w9.cell? ⟨w6.heap.size, 0, none⟩ = some (.int .i64 5) := m9.at_ 0
  have c1 : w9.cell? ⟨w6.heap.size, 1, none⟩ = some (.int .i64 1) := m9.at_ 1
  have k9 := Lib.hid (K6.out.trans ((k8.out.alloc (.cells #[.int .i64 3, .int .i64 2] 31)).trans hK fun _ _ => False.elim) fun _ _ => False.elim)
  clear hK m9
  go_wp2_with fail
  go_ret
  exact ⟨rfl, k9.out⟩
end Go.Proofs.YtjmkfloaagppdaaDoor
