/-
  (moment).copied by contract.
  An or by contract, for statements that do what is done of them (printed by gen/mkevor.py).
-/
import Derived.Test.YthidipigpfcbbaaGreatDoorEvSmall
import Derived.Test.YthidipigpfcbbaaGreatDoorEvFacts
import Derived.Deep.RegionHeld3

namespace Go.Proofs.YthidipigpfcbbaaGreatDoor
open Go.RowKit Go.Maps Go.Extern.Stop Go.Stop Go.Extern

def momV (sb : Nat) (a1 a2 a3 a4 a5 a6 a7 a8 : Int) (tv : Value) : Array Value := #[.pointer (some ⟨sb, 0, none⟩), .int .i64 a1, .int .i64 a2, .int .i64 a3, .int .i64 a4, .int .i64 a5, .int .i64 a6, .int .i64 a7, .int .i64 a8, tv]

/-- Ten cells of a block are set. -/
theorem far10 {w : World} {g : Nat} {t : TypeId} {cs : Array Value} (h : Whole w g t cs) {b : Nat} (hb : g ≠ b) (v0 v1 v2 v3 v4 v5 v6 v7 v8 v9 : Value) : Whole ((((((((((w.setCell ⟨b, 0, none⟩ v0).setCell ⟨b, 1, none⟩ v1).setCell ⟨b, 2, none⟩ v2).setCell ⟨b, 3, none⟩ v3).setCell ⟨b, 4, none⟩ v4).setCell ⟨b, 5, none⟩ v5).setCell ⟨b, 6, none⟩ v6).setCell ⟨b, 7, none⟩ v7).setCell ⟨b, 8, none⟩ v8).setCell ⟨b, 9, none⟩ v9) g t cs :=
  (((((((((h.far (p := ⟨b, 0, none⟩) hb v0).far (p := ⟨b, 1, none⟩) hb v1).far (p := ⟨b, 2, none⟩) hb v2).far (p := ⟨b, 3, none⟩) hb v3).far (p := ⟨b, 4, none⟩) hb v4).far (p := ⟨b, 5, none⟩) hb v5).far (p := ⟨b, 6, none⟩) hb v6).far (p := ⟨b, 7, none⟩) hb v7).far (p := ⟨b, 8, none⟩) hb v8).far (p := ⟨b, 9, none⟩) hb v9
theorem set10 {w : World} {b : Nat} {t : TypeId} {u0 u1 u2 u3 u4 u5 u6 u7 u8 u9 : Value} (h : Whole w b t #[u0, u1, u2, u3, u4, u5, u6, u7, u8, u9]) (v0 v1 v2 v3 v4 v5 v6 v7 v8 v9 : Value) : Whole ((((((((((w.setCell ⟨b, 0, none⟩ v0).setCell ⟨b, 1, none⟩ v1).setCell ⟨b, 2, none⟩ v2).setCell ⟨b, 3, none⟩ v3).setCell ⟨b, 4, none⟩ v4).setCell ⟨b, 5, none⟩ v5).setCell ⟨b, 6, none⟩ v6).setCell ⟨b, 7, none⟩ v7).setCell ⟨b, 8, none⟩ v8).setCell ⟨b, 9, none⟩ v9) b t #[v0, v1, v2, v3, v4, v5, v6, v7, v8, v9] := by
  have q := (((((((((h.set_ 0 v0).set_ 1 v1).set_ 2 v2).set_ 3 v3).set_ 4 v4).set_ 5 v5).set_ 6 v6).set_ 7 v7).set_ 8 v8).set_ 9 v9
  simp only [List.setIfInBounds_toArray, List.set_cons_zero, List.set_cons_succ] at q
  exact q
theorem keeps10 (w : World) (b : Nat) (v0 v1 v2 v3 v4 v5 v6 v7 v8 v9 : Value) : Keeps (fun x => x = b) w ((((((((((w.setCell ⟨b, 0, none⟩ v0).setCell ⟨b, 1, none⟩ v1).setCell ⟨b, 2, none⟩ v2).setCell ⟨b, 3, none⟩ v3).setCell ⟨b, 4, none⟩ v4).setCell ⟨b, 5, none⟩ v5).setCell ⟨b, 6, none⟩ v6).setCell ⟨b, 7, none⟩ v7).setCell ⟨b, 8, none⟩ v8).setCell ⟨b, 9, none⟩ v9) :=
  ((((((((((Keeps.refl (fun x => x = b) w).setCell (p := ⟨b, 0, none⟩) (fun _ => rfl) v0).setCell (p := ⟨b, 1, none⟩) (fun _ => rfl) v1).setCell (p := ⟨b, 2, none⟩) (fun _ => rfl) v2).setCell (p := ⟨b, 3, none⟩) (fun _ => rfl) v3).setCell (p := ⟨b, 4, none⟩) (fun _ => rfl) v4).setCell (p := ⟨b, 5, none⟩) (fun _ => rfl) v5).setCell (p := ⟨b, 6, none⟩) (fun _ => rfl) v6).setCell (p := ⟨b, 7, none⟩) (fun _ => rfl) v7).setCell (p := ⟨b, 8, none⟩) (fun _ => rfl) v8).setCell (p := ⟨b, 9, none⟩) (fun _ => rfl) v9
/-- What was told, copied. -/
theorem told_copy {w : World} {tb : Option Addr} {N tc : Nat} {T : List Int} (h : IRow w (.slice tb N tc) T) (hN : T.length = N) (few : N ≤ 1000000) :
    ∃ W cur, (Instr.makeSlice 22 (.int .i64 (N : Int)) (.int .i64 (N : Int))).run Tryz.prog w = .ok (.slice (some ⟨w.heap.size, 0, none⟩) N N) (w.alloc (.cells cur 3)) ∧ (Builtin.copy_ #[22, 22] 3 #[.slice (some ⟨w.heap.size, 0, none⟩) N N, .slice tb N tc]).run Tryz.prog (w.alloc (.cells cur 3)) = .ok (.int .i64 (N : Int)) W ∧ Keeps (fun _ => False) w W ∧ IRow W (.slice (some ⟨w.heap.size, 0, none⟩) N N) T ∧ w.heap.size < W.heap.size := by
  obtain ⟨cur, hc, hm⟩ := intK.make N few w
  have k1 : Keeps (fun _ => False) w (w.alloc (.cells cur 3)) := (Keeps.refl _ w).alloc _
  have hrow := ownsRow_keeps h k1 fun _ _ => id
  have hg : (w.alloc (.cells cur 3)).heap[w.heap.size]? = some (.cells cur 3 (0, 0)) := heap_alloc_new w _
  rcases Nat.eq_zero_or_pos N with h0 | h0
  · subst h0
    have eT : T = [] := List.eq_nil_of_length_eq_zero hN
    subst eT
    refine ⟨_, cur, hm, intK.copy0 _ _ _ _ _, k1, ?_, by rw [World.size_alloc]; omega⟩
    have e : cur = #[] := Array.eq_empty_of_size_eq_zero (by rw [hc]; simp)
    subst e
    exact row_none intK (Whole.made w 3 #[]) rfl
  · obtain ⟨o, c, e, ho⟩ := row_shape hrow
    injection e with e1 e2 e3
    obtain ⟨g, hg'⟩ := ho (by omega)
    subst e1
    subst hg'
    have ks : Keeps (fun x => x = w.heap.size) (w.alloc (.cells cur 3)) ((w.alloc (.cells cur 3)).setRow w.heap.size (intK.cs T).toArray) := (Keeps.refl (fun x => x = w.heap.size) (w.alloc (.cells cur 3))).setRow (fun _ => rfl) _
    refine ⟨_, cur, hm, intK.copy _ w.heap.size g N tc cur 3 _ T hN hg hc hrow, k1.trans ks fun x hx e => by omega, row_of intK (setRow_heap _ _ _ _ _ _ hg) hN few, ?_⟩
    have := ks.size
    rw [World.size_alloc] at this
    omega

set_option maxRecDepth 100000 in
set_option maxHeartbeats 2000000 in
theorem copied_any {PM : PMem} (F : Face PM) {w : World} {sb : Nat} {A : M8} {Xs : Nat → Prop} (st : PM w sb A Xs) (a1 a2 a3 a4 a5 a6 a7 a8 : Int) {tb : Option Addr} {N tc : Nat} {T : List Int} (hT : IRow w (.slice tb N tc) T) (hN : T.length = N) (few : N ≤ 1000000) :
    Calls Tryz.prog 96 #[.agg (momV sb a1 a2 a3 a4 a5 a6 a7 a8 (.slice tb N tc))] w fun e w' => ∃ s2 Z g, e = .returned (.agg (momV s2 a1 a2 a3 a4 a5 a6 a7 a8 (.slice (some ⟨g, 0, none⟩) N N))) ∧ PM w' s2 A Z ∧ IRow w' (.slice (some ⟨g, 0, none⟩) N N) T ∧ (∀ x, Z x → w.heap.size ≤ x) ∧ w.heap.size ≤ g ∧ ¬ Z g ∧ g < w'.heap.size ∧ Keeps (fun _ => False) w w' := by
  obtain ⟨W1, hW1⟩ : ∃ V, V = (w.alloc (.cells (momV sb a1 a2 a3 a4 a5 a6 a7 a8 (.slice tb N tc)) 71)).alloc (.cells #[.pointer none, .int .i64 0, .int .i64 0, .int .i64 0, .int .i64 0, .int .i64 0, .int .i64 0, .int .i64 0, .int .i64 0, .slice none 0 0] 71) := ⟨_, rfl⟩
  have K1 : Keeps (fun _ => False) w W1 := by rw [hW1]; exact ((Keeps.refl _ w).alloc _).alloc _
  have B1 : Whole W1 w.heap.size 71 (momV sb a1 a2 a3 a4 a5 a6 a7 a8 (.slice tb N tc)) := by rw [hW1]; exact (Whole.made _ _ _).alloc _
  have B2 : Whole W1 (w.heap.size + 1) 71 #[.pointer none, .int .i64 0, .int .i64 0, .int .i64 0, .int .i64 0, .int .i64 0, .int .i64 0, .int .i64 0, .int .i64 0, .slice none 0 0] := by
    rw [hW1]
    have := Whole.made (w.alloc (.cells (momV sb a1 a2 a3 a4 a5 a6 a7 a8 (.slice tb N tc)) 71)) 71 #[.pointer none, .int .i64 0, .int .i64 0, .int .i64 0, .int .i64 0, .int .i64 0, .int .i64 0, .int .i64 0, .int .i64 0, .slice none 0 0]
    rwa [World.size_alloc] at this
  obtain ⟨W2, cur, hm, hc, k2, r2, z2⟩ := told_copy (ownsRow_keeps hT K1 fun _ _ => id) hN few
  have d9 : W1.cell? ⟨w.heap.size, 9, none⟩ = some (.slice tb N tc) := B1.at_ 9
  have e9 : (W1.alloc (.cells cur 3)).cell? ⟨w.heap.size, 9, none⟩ = some (.slice tb N tc) := (B1.alloc _).at_ 9
  have CC := Lib.hid (fun V (k : Keeps (fun _ => False) W2 V) => F.copy_ (F.same st (K1.trans (k2.trans k fun _ _ => id) fun _ _ => id)))
  have zW := K1.size
  have SW : Hid (∀ V, Whole V w.heap.size 71 (momV sb a1 a2 a3 a4 a5 a6 a7 a8 (.slice tb N tc)) → V.cell? ⟨w.heap.size, 0, none⟩ = some (.pointer (some ⟨sb, 0, none⟩)) ∧ V.cell? ⟨w.heap.size, 1, none⟩ = some (.int .i64 a1) ∧ V.cell? ⟨w.heap.size, 2, none⟩ = some (.int .i64 a2) ∧ V.cell? ⟨w.heap.size, 3, none⟩ = some (.int .i64 a3) ∧ V.cell? ⟨w.heap.size, 4, none⟩ = some (.int .i64 a4) ∧ V.cell? ⟨w.heap.size, 5, none⟩ = some (.int .i64 a5) ∧ V.cell? ⟨w.heap.size, 6, none⟩ = some (.int .i64 a6) ∧ V.cell? ⟨w.heap.size, 7, none⟩ = some (.int .i64 a7) ∧ V.cell? ⟨w.heap.size, 8, none⟩ = some (.int .i64 a8)) := Lib.hid fun V b => ⟨b.at_ 0, b.at_ 1, b.at_ 2, b.at_ 3, b.at_ 4, b.at_ 5, b.at_ 6, b.at_ 7, b.at_ 8⟩
  have BW := Lib.hid (fun V (k : Keeps (fun _ => False) W2 V) => B1.keeps (k2.trans k fun _ _ => id) id)
  have S0 : Hid (∀ V, Keeps (fun _ => False) W2 V → V.cell? ⟨w.heap.size, 0, none⟩ = some (.pointer (some ⟨sb, 0, none⟩)) ∧ V.cell? ⟨w.heap.size, 1, none⟩ = some (.int .i64 a1) ∧ V.cell? ⟨w.heap.size, 2, none⟩ = some (.int .i64 a2) ∧ V.cell? ⟨w.heap.size, 3, none⟩ = some (.int .i64 a3) ∧ V.cell? ⟨w.heap.size, 4, none⟩ = some (.int .i64 a4) ∧ V.cell? ⟨w.heap.size, 5, none⟩ = some (.int .i64 a5) ∧ V.cell? ⟨w.heap.size, 6, none⟩ = some (.int .i64 a6) ∧ V.cell? ⟨w.heap.size, 7, none⟩ = some (.int .i64 a7) ∧ V.cell? ⟨w.heap.size, 8, none⟩ = some (.int .i64 a8)) := Lib.hid fun V k => by
    have b := B1.keeps (k2.trans k fun _ _ => id) id
    exact ⟨b.at_ 0, b.at_ 1, b.at_ 2, b.at_ 3, b.at_ 4, b.at_ 5, b.at_ 6, b.at_ 7, b.at_ 8⟩
  have BB := Lib.hid (fun V (k : Keeps (fun _ => False) W2 V) => B2.keeps (k2.trans k fun _ _ => id) id)
  have B2L := Lib.hid B2.lt
  have K1' := Lib.hid K1
  have K2' := Lib.hid k2
  have R2' := Lib.hid r2
  have Z2' := Lib.hid z2
  have hW1' := Lib.hid hW1
  clear st hT B1 B2 K1 k2 r2 z2
  unfold momV at hW1' ⊢
  generalize hgb : W1.heap.size = gb at *
  go_enter Tryz.func96, Tryz.ntmps96
  go_upto_region 1 with fail
  rw [← hW1'.out]
  clear hW1 hW1'
  go_upto_region 3 with fail
  have s0 := Lib.hid (S0.out W2.drew (Keeps.refl _ W2).drew)
  go_region_held3 (fun V => V.cell? ⟨w.heap.size, 0, none⟩ = some (.pointer (some ⟨sb, 0, none⟩)) ∧ V.cell? ⟨w.heap.size, 1, none⟩ = some (.int .i64 a1) ∧ V.cell? ⟨w.heap.size, 2, none⟩ = some (.int .i64 a2) ∧ V.cell? ⟨w.heap.size, 3, none⟩ = some (.int .i64 a3) ∧ V.cell? ⟨w.heap.size, 4, none⟩ = some (.int .i64 a4) ∧ V.cell? ⟨w.heap.size, 5, none⟩ = some (.int .i64 a5) ∧ V.cell? ⟨w.heap.size, 6, none⟩ = some (.int .i64 a6) ∧ V.cell? ⟨w.heap.size, 7, none⟩ = some (.int .i64 a7) ∧ V.cell? ⟨w.heap.size, 8, none⟩ = some (.int .i64 a8)) (first | with_reducible exact sB.out | with_reducible exact sA.out | with_reducible exact s0.out)
    (first
      | (go_at_call 26; refine (CC.out _ (Keeps.refl _ W2).drew).mono ?_; rintro e w3 ⟨s2, Z, rfl, hP, hZ, hK⟩; have k3 := Lib.hid ((Keeps.refl (fun _ => False) W2).drew.trans hK fun _ _ => id); have sA := Lib.hid (S0.out w3 k3.out); have A3 := Lib.hid (BB.out w3 k3.out); have PP := Lib.hid (And.intro hP hZ); have sB := Lib.hid (SW.out _ (far10 (b := w.heap.size + 1) (BW.out w3 k3.out) (by omega) (.pointer (some ⟨s2, 0, none⟩)) (.int .i64 a1) (.int .i64 a2) (.int .i64 a3) (.int .i64 a4) (.int .i64 a5) (.int .i64 a6) (.int .i64 a7) (.int .i64 a8) (.slice (some ⟨gb, 0, none⟩) N N))); clear hK hP hZ; have x0 := A3.out.at_ 0; have y0 := A3.out.free 0; have x1 := A3.out.at_ 1; have y1 := A3.out.free 1; have x2 := A3.out.at_ 2; have y2 := A3.out.free 2; have x3 := A3.out.at_ 3; have y3 := A3.out.free 3; have x4 := A3.out.at_ 4; have y4 := A3.out.free 4; have x5 := A3.out.at_ 5; have y5 := A3.out.free 5; have x6 := A3.out.at_ 6; have y6 := A3.out.free 6; have x7 := A3.out.at_ 7; have y7 := A3.out.free 7; have x8 := A3.out.at_ 8; have y8 := A3.out.free 8; have x9 := A3.out.at_ 9; have y9 := A3.out.free 9))
  obtain ⟨W7, hW7⟩ : ∃ V, V = ((((((((((w3.setCell ⟨w.heap.size + 1, 0, none⟩ (.pointer (some ⟨s2, 0, none⟩))).setCell ⟨w.heap.size + 1, 1, none⟩ (.int .i64 a1)).setCell ⟨w.heap.size + 1, 2, none⟩ (.int .i64 a2)).setCell ⟨w.heap.size + 1, 3, none⟩ (.int .i64 a3)).setCell ⟨w.heap.size + 1, 4, none⟩ (.int .i64 a4)).setCell ⟨w.heap.size + 1, 5, none⟩ (.int .i64 a5)).setCell ⟨w.heap.size + 1, 6, none⟩ (.int .i64 a6)).setCell ⟨w.heap.size + 1, 7, none⟩ (.int .i64 a7)).setCell ⟨w.heap.size + 1, 8, none⟩ (.int .i64 a8)).setCell ⟨w.heap.size + 1, 9, none⟩ (.slice (some ⟨gb, 0, none⟩) N N)) := ⟨_, rfl⟩
  have ks : Keeps (fun x => x = w.heap.size + 1) w3 W7 := by rw [hW7]; exact keeps10 w3 _ (.pointer (some ⟨s2, 0, none⟩)) (.int .i64 a1) (.int .i64 a2) (.int .i64 a3) (.int .i64 a4) (.int .i64 a5) (.int .i64 a6) (.int .i64 a7) (.int .i64 a8) (.slice (some ⟨gb, 0, none⟩) N N)
  have A7 : Whole W7 (w.heap.size + 1) 71 (momV s2 a1 a2 a3 a4 a5 a6 a7 a8 (.slice (some ⟨gb, 0, none⟩) N N)) := by rw [hW7]; exact set10 A3.out (.pointer (some ⟨s2, 0, none⟩)) (.int .i64 a1) (.int .i64 a2) (.int .i64 a3) (.int .i64 a4) (.int .i64 a5) (.int .i64 a6) (.int .i64 a7) (.int .i64 a8) (.slice (some ⟨gb, 0, none⟩) N N)
  have z0 := A7.at_ 0
  have z1 := A7.at_ 1
  have z2 := A7.at_ 2
  have z3 := A7.at_ 3
  have z4 := A7.at_ 4
  have z5 := A7.at_ 5
  have z6 := A7.at_ 6
  have z7 := A7.at_ 7
  have z8 := A7.at_ 8
  have z9 := A7.at_ 9
  rw [← hW7]
  have KE : Hid (Keeps (fun _ => False) w W7) := Lib.hid (((K1'.out.trans K2'.out fun _ _ => id).trans k3.out fun _ _ => id).trans ks fun x hx e => by omega)
  have PE : Hid (PM W7 s2 A Z) := Lib.hid (F.keeps PP.out.1 ks fun x hx e => by
    have h1 := PP.out.2 x hx
    have h2 := BB.out W2 (Keeps.refl _ W2)
    have h3 := h2.lt
    have h4 : W2.drew.heap.size = W2.heap.size := rfl
    omega)
  have TE : Hid (IRow W7 (.slice (some ⟨gb, 0, none⟩) N N) T) := Lib.hid (ownsRow_keeps (ownsRow_keeps R2'.out k3.out fun _ _ => id) ks fun g hg e => by
    have h2 := (BB.out W2 (Keeps.refl _ W2)).lt
    have h1 : gb = g := by simpa [Value.ownBlock] using hg
    have h3 : w.heap.size + 1 < gb := B2L.out
    omega)
  have ZE : Hid ((∀ x, Z x → w.heap.size ≤ x) ∧ w.heap.size ≤ gb ∧ ¬ Z gb ∧ gb < W7.heap.size) := Lib.hid (by
    have e1 := K1'.out.size
    have e2 := K2'.out.size
    have e3 := k3.out.size
    have e4 := ks.size
    have e5 : W2.drew.heap.size = W2.heap.size := rfl
    have e6 := Z2'.out
    exact ⟨fun x hx => by have := PP.out.2 x hx; omega, by omega, fun hx => by have := PP.out.2 gb hx; omega, by omega⟩)
  clear hW7 ks A7 sA sB
  clear x0 y0 x1 y1 x2 y2 x3 y3 x4 y4 x5 y5 x6 y6 x7 y7 x8 y8 x9 y9
  go_wp2_with fail
  exact bodyPost_ret (v := .agg (momV s2 a1 a2 a3 a4 a5 a6 a7 a8 (.slice (some ⟨gb, 0, none⟩) N N))) (by simp [results, Tryz.results96, go_sem, momV, z0, z1, z2, z3, z4, z5, z6, z7, z8, z9]) rfl ⟨s2, Z, gb, rfl, PE.out, TE.out, ZE.out.1, ZE.out.2.1, ZE.out.2.2.1, ZE.out.2.2.2, KE.out⟩
end Go.Proofs.YthidipigpfcbbaaGreatDoor

namespace Go.Proofs.YthidipigpfcbbaaGreatDoor
open Go.RowKit Go.Maps Go.Extern.Stop Go.Stop Go.Extern

theorem set10n {w : World} {b : Nat} {t : TypeId} {u0 u1 u2 u3 u4 u5 u6 u7 u8 u9 u10 : Value} (h : Whole w b t #[u0, u1, u2, u3, u4, u5, u6, u7, u8, u9, u10]) (v0 v1 v2 v3 v4 v5 v6 v7 v8 v9 : Value) : Whole ((((((((((w.setCell ⟨b, 0, none⟩ v0).setCell ⟨b, 1, none⟩ v1).setCell ⟨b, 2, none⟩ v2).setCell ⟨b, 3, none⟩ v3).setCell ⟨b, 4, none⟩ v4).setCell ⟨b, 5, none⟩ v5).setCell ⟨b, 6, none⟩ v6).setCell ⟨b, 7, none⟩ v7).setCell ⟨b, 8, none⟩ v8).setCell ⟨b, 9, none⟩ v9) b t #[v0, v1, v2, v3, v4, v5, v6, v7, v8, v9, u10] := by
  have q := (((((((((h.set_ 0 v0).set_ 1 v1).set_ 2 v2).set_ 3 v3).set_ 4 v4).set_ 5 v5).set_ 6 v6).set_ 7 v7).set_ 8 v8).set_ 9 v9
  simp only [List.setIfInBounds_toArray, List.set_cons_zero, List.set_cons_succ] at q
  exact q
theorem nine {l : List Int} (h : l.length = 9) : ∃ a0 a1 a2 a3 a4 a5 a6 a7 a8, l = [a0, a1, a2, a3, a4, a5, a6, a7, a8] := by
  match l, h with
  | [a0, a1, a2, a3, a4, a5, a6, a7, a8], _ => exact ⟨a0, a1, a2, a3, a4, a5, a6, a7, a8, rfl⟩
theorem runCells_nine (sb : Nat) (a0 a1 a2 a3 a4 a5 a6 a7 a8 : Int) (tv : Value) (n : Nat) : runCells sb [a0, a1, a2, a3, a4, a5, a6, a7, a8] tv n = #[.pointer (some ⟨sb, 0, none⟩), .int .i64 a1, .int .i64 a2, .int .i64 a3, .int .i64 a4, .int .i64 a5, .int .i64 a6, .int .i64 a7, .int .i64 a8, tv, .int .i64 (n : Int)] := rfl

section
variable {PM : PMem} {w0 w w' w1 : World} {rb n m : Nat} {r : RS} {X : Nat → Prop} {K : List Int}
/-- The moment that a run has is another one. -/
theorem RunMt.setMoment {sb : Nat} {tv : Value} {Xs : Nat → Prop} (h : RunMt PM w rb sb tv r n Xs X) (hR : r.R.length = 9) (F : Face PM) {s2 g N : Nat} {A : M8} {T : List Int} {Z : Nat → Prop} (hP : PM w s2 A Z) (hT : IRow w (.slice (some ⟨g, 0, none⟩) N N) T) (hz : ∀ x, Z x → x ≠ rb) (hg : g ≠ rb) (hzg : ¬ Z g) (a0 a1 a2 a3 a4 a5 a6 a7 a8 : Int) :
    RunMt PM ((((((((((w.setCell ⟨rb, 0, none⟩ (.pointer (some ⟨s2, 0, none⟩))).setCell ⟨rb, 1, none⟩ (.int .i64 a1)).setCell ⟨rb, 2, none⟩ (.int .i64 a2)).setCell ⟨rb, 3, none⟩ (.int .i64 a3)).setCell ⟨rb, 4, none⟩ (.int .i64 a4)).setCell ⟨rb, 5, none⟩ (.int .i64 a5)).setCell ⟨rb, 6, none⟩ (.int .i64 a6)).setCell ⟨rb, 7, none⟩ (.int .i64 a7)).setCell ⟨rb, 8, none⟩ (.int .i64 a8)).setCell ⟨rb, 9, none⟩ (.slice (some ⟨g, 0, none⟩) N N)) rb s2 (.slice (some ⟨g, 0, none⟩) N N) ⟨A, [a0, a1, a2, a3, a4, a5, a6, a7, a8], T⟩ n Z (fun x => X x ∨ Z x ∨ x = g) := by
  have ks := keeps10 w rb (.pointer (some ⟨s2, 0, none⟩)) (.int .i64 a1) (.int .i64 a2) (.int .i64 a3) (.int .i64 a4) (.int .i64 a5) (.int .i64 a6) (.int .i64 a7) (.int .i64 a8) (.slice (some ⟨g, 0, none⟩) N N)
  have gl : g < w.heap.size := by
    obtain ⟨cs, hw⟩ := row_whole hT (g := g) rfl
    exact hw.lt
  refine ⟨?_, F.keeps hP ks fun x hx e => hz x hx e, ownsRow_keeps hT ks fun g' hg' e => ?_, ⟨.inl h.inX.1, fun x hx => .inr (.inl hx), fun g' hg' => ?_⟩, ⟨fun hx => hz rb hx rfl, fun g' hg' hx => ?_⟩, fun x hx => Nat.lt_of_lt_of_le ?_ ks.size⟩
  · rw [runCells_nine]
    have hb := h.box
    obtain ⟨b0, b1, b2, b3, b4, b5, b6, b7, b8, e⟩ := nine hR
    rw [e, runCells_nine] at hb
    exact set10n hb (.pointer (some ⟨s2, 0, none⟩)) (.int .i64 a1) (.int .i64 a2) (.int .i64 a3) (.int .i64 a4) (.int .i64 a5) (.int .i64 a6) (.int .i64 a7) (.int .i64 a8) (.slice (some ⟨g, 0, none⟩) N N)
  · have e1 : g = g' := by simpa [Value.ownBlock] using hg'
    exact hg (e1.trans e)
  · have e1 : g = g' := by simpa [Value.ownBlock] using hg'
    exact .inr (.inr e1.symm)
  · have e1 : g = g' := by simpa [Value.ownBlock] using hg'
    exact hzg (e1 ▸ hx)
  · rcases hx with hx | hx | hx
    · exact h.old x hx
    · exact F.old hP x hx
    · omega

set_option maxRecDepth 100000 in
set_option maxHeartbeats 2000000 in
theorem or_any11 (F : Face PM) {B E : Fo} (hB : AllDoes PM K w0 B) (hE : AllDoes PM K w0 E) {v v2 : Value} (hv : SlOf w0 v B) (hv2 : SlOf w0 v2 E) (k0 : Keeps (fun _ => False) w0 w) (h : RunM PM w rb r n X) (hX : ∀ x, X x → w0.heap.size ≤ x) (hr : r.Fine K n) (hn : n ≤ 1000) :
    Calls Tryz.prog 82 #[.pointer (some ⟨rb, 0, none⟩), v, v2] w fun e w' => Left11 PM w0 w rb X (if (evF B r n).2.1 = 3 then evF E r (evF B r n).2.2 else evF B r n) e w' := by
  obtain ⟨sb, tv, Xs, h1⟩ := h
  obtain ⟨A, R, T⟩ := r
  obtain ⟨a0, a1, a2, a3, a4, a5, a6, a7, a8, rfl⟩ := nine hr.regs
  obtain ⟨tb, tc, rfl, _⟩ := row_shape h1.told
  obtain ⟨N, hN⟩ : ∃ N, T.length = N := ⟨_, rfl⟩
  simp only at h1
  rw [hN] at h1
  have fewN : N ≤ 1000000 := by
    have := hr.told
    simp only at this
    omega
  have CC := Lib.hid (copied_any F h1.st a1 a2 a3 a4 a5 a6 a7 a8 h1.told hN fewN)
  have CB := Lib.hid (fun V (k : Keeps (fun _ => False) w V) => hB V v rb n _ X hv (k0.trans k fun _ _ => id) (RunM.same F ⟨sb, _, Xs, h1⟩ k) hX hr hn)
  have fB := ev_fine K B _ n hr hn
  have HR := Lib.hid hr
  have CE := Lib.hid (fun V m X' (k : Keeps (fun _ => False) w0 V) (q : RunM PM V rb ⟨A, [a0, a1, a2, a3, a4, a5, a6, a7, a8], T⟩ m X') (hx : ∀ x, X' x → w0.heap.size ≤ x) (h1 : n ≤ m) (h2 : m ≤ 1000) => hE V v2 rb m _ X' hv2 k q hx (HR.out.more h1) h2)
  have H1 := Lib.hid h1
  have HX := Lib.hid hX
  have HK0 := Lib.hid k0
  have hb := h1.box
  rw [runCells_nine] at hb
  unfold momV at CC
  have c0 := hb.at_ 0
  have c1 := hb.at_ 1
  have c2 := hb.at_ 2
  have c3 := hb.at_ 3
  have c4 := hb.at_ 4
  have c5 := hb.at_ 5
  have c6 := hb.at_ 6
  have c7 := hb.at_ 7
  have c8 := hb.at_ 8
  have c9 := hb.at_ 9
  generalize evF B ⟨A, [a0, a1, a2, a3, a4, a5, a6, a7, a8], T⟩ n = y at *
  obtain ⟨z, hz⟩ : ∃ z, (if y.2.1 = 3 then evF E ⟨A, [a0, a1, a2, a3, a4, a5, a6, a7, a8], T⟩ y.2.2 else y) = z := ⟨_, rfl⟩
  rw [hz]
  have HZ := Lib.hid hz
  have FB := Lib.hid fB
  obtain ⟨vo, vc, rfl, _⟩ := hv
  obtain ⟨vo2, vc2, rfl, _⟩ := hv2
  clear hz hB hE k0 h1 hX hr hn fB hN fewN HR hb
  go_enter Tryz.func82, Tryz.ntmps82
  go_wp2_with fail
  refine CC.out.mono ?_
  rintro e w2 ⟨s2, Z, g, rfl, hP, hT, hZ1, hg1, hg2, hg3, hK⟩
  obtain ⟨W3, hW3⟩ : ∃ V, V = w2.alloc (.cells (momV s2 a1 a2 a3 a4 a5 a6 a7 a8 (.slice (some ⟨g, 0, none⟩) N N)) 71) := ⟨_, rfl⟩
  have K23 : Keeps (fun _ => False) w2 W3 := by rw [hW3]; exact (Keeps.refl _ w2).alloc _
  have K3 := Lib.hid (hK.trans K23 fun _ _ => id)
  have BM : Hid (Whole W3 w2.heap.size 71 (momV s2 a1 a2 a3 a4 a5 a6 a7 a8 (.slice (some ⟨g, 0, none⟩) N N))) := Lib.hid (by rw [hW3]; exact Whole.made _ _ _)
  have ZL : Hid (∀ x, Z x → x < w2.heap.size) := Lib.hid fun x hx => F.old hP x hx
  have P3 := Lib.hid (And.intro (F.same hP K23) (ownsRow_keeps hT K23 fun _ _ => id))
  have ZF := Lib.hid (And.intro hZ1 (And.intro hg1 (And.intro hg2 hg3)))
  have WZ := Lib.hid hK.size
  have Z23 := Lib.hid K23.size
  have C1 := Lib.hid (CB.out W3 K3.out)
  have hW3' := Lib.hid hW3
  unfold momV at hW3'
  clear hP hT hZ1 hg1 hg2 hg3 hK K23 hW3 CC CB c0 c1 c2 c3 c4 c5 c6 c7 c8 c9
  go_upto_region 2 with fail
  rw [← hW3'.out]
  clear hW3'
  go_wp2_with fail
  refine C1.out.mono ?_
  rintro e w4 ⟨ev, rfl, hEv, hD⟩
  have CI := Lib.hid (is_end hEv (j := 3) (.inr rfl))
  have HEv := Lib.hid hEv
  have HD := Lib.hid hD
  have KD := hD.keeps
  have XL : Hid (∀ x, X x → x < w.heap.size) := Lib.hid H1.out.old
  have P4 : Hid (PM w4 s2 A Z ∧ IRow w4 (.slice (some ⟨g, 0, none⟩) N N) T ∧ Whole w4 w2.heap.size 71 (momV s2 a1 a2 a3 a4 a5 a6 a7 a8 (.slice (some ⟨g, 0, none⟩) N N))) := Lib.hid ⟨F.keeps P3.out.1 KD (fun x hx q => by have := ZF.out.1 x hx; have := XL.out x q; omega), ownsRow_keeps P3.out.2 KD (fun g' hg' q => by
    have e1 : g = g' := by simpa [Value.ownBlock] using hg'
    have := ZF.out.2.1; have := XL.out g' q; omega), BM.out.keeps KD fun q => by have := WZ.out; have := XL.out _ q; omega⟩
  rw [show stopC 3 = 13 from rfl] at CI
  have hsh := hEv.shape
  clear C1 hD hEv KD
  by_cases b2 : y.2.1 = 3
  · have E1 := HZ.out
    rw [if_pos b2] at E1
    have HZ := Lib.hid E1
    clear E1
    have b3 : (y.2.1 == 3) = true := by simpa using b2
    rw [b3] at CI
    rcases hsh with ⟨h0, rfl⟩ | ⟨h0, t, x, rfl⟩
    · omega
    clear b2 b3 h0
    go_wp2_with fail
    refine CI.out.mono ?_
    rintro e w5 ⟨rfl, hK⟩
    obtain ⟨X4, ⟨sb4, tv4, Xs4, q1⟩, q2, q3⟩ := HD.out.later F hK
    have hmom := P4.out.2.2.keeps hK id
    unfold momV at hmom
    have m0 := hmom.at_ 0
    have m1 := hmom.at_ 1
    have m2 := hmom.at_ 2
    have m3 := hmom.at_ 3
    have m4 := hmom.at_ 4
    have m5 := hmom.at_ 5
    have m6 := hmom.at_ 6
    have m7 := hmom.at_ 7
    have m8 := hmom.at_ 8
    have m9 := hmom.at_ 9
    obtain ⟨b0, b1, b2, b3, b4, b5, b6, b7, b8, eR⟩ := nine FB.out.1.regs
    have hb5 := q1.box
    rw [eR, runCells_nine] at hb5
    have n0 := hb5.at_ 0
    have f0 := hb5.free 0
    have n1 := hb5.at_ 1
    have f1 := hb5.free 1
    have n2 := hb5.at_ 2
    have f2 := hb5.free 2
    have n3 := hb5.at_ 3
    have f3 := hb5.free 3
    have n4 := hb5.at_ 4
    have f4 := hb5.free 4
    have n5 := hb5.at_ 5
    have f5 := hb5.free 5
    have n6 := hb5.at_ 6
    have f6 := hb5.free 6
    have n7 := hb5.at_ 7
    have f7 := hb5.free 7
    have n8 := hb5.at_ 8
    have f8 := hb5.free 8
    have n9 := hb5.at_ 9
    have f9 := hb5.free 9
    obtain ⟨W6, hW6⟩ : ∃ V, V = ((((((((((w5.setCell ⟨rb, 0, none⟩ (.pointer (some ⟨s2, 0, none⟩))).setCell ⟨rb, 1, none⟩ (.int .i64 a1)).setCell ⟨rb, 2, none⟩ (.int .i64 a2)).setCell ⟨rb, 3, none⟩ (.int .i64 a3)).setCell ⟨rb, 4, none⟩ (.int .i64 a4)).setCell ⟨rb, 5, none⟩ (.int .i64 a5)).setCell ⟨rb, 6, none⟩ (.int .i64 a6)).setCell ⟨rb, 7, none⟩ (.int .i64 a7)).setCell ⟨rb, 8, none⟩ (.int .i64 a8)).setCell ⟨rb, 9, none⟩ (.slice (some ⟨g, 0, none⟩) N N)) := ⟨_, rfl⟩
    have ks : Keeps (fun x => x = rb) w5 W6 := by rw [hW6]; exact keeps10 w5 rb (.pointer (some ⟨s2, 0, none⟩)) (.int .i64 a1) (.int .i64 a2) (.int .i64 a3) (.int .i64 a4) (.int .i64 a5) (.int .i64 a6) (.int .i64 a7) (.int .i64 a8) (.slice (some ⟨g, 0, none⟩) N N)
    have rbl := H1.out.old rb H1.out.inX.1
    have R6 : Hid (RunMt PM W6 rb s2 (.slice (some ⟨g, 0, none⟩) N N) ⟨A, [a0, a1, a2, a3, a4, a5, a6, a7, a8], T⟩ y.2.2 Z (fun x => X4 x ∨ Z x ∨ x = g)) := Lib.hid (by
      rw [hW6]
      exact q1.setMoment FB.out.1.regs F (F.same P4.out.1 hK) (ownsRow_keeps P4.out.2.1 hK fun _ _ => id) (fun x hx e => by have := ZF.out.1 x hx; omega) (fun e => by have := ZF.out.2.1; omega) ZF.out.2.2.1 a0 a1 a2 a3 a4 a5 a6 a7 a8)
    have M6 : Hid (Mvs w X (fun x => X4 x ∨ Z x ∨ x = g)) := Lib.hid fun x hx => by
      have := WZ.out
      have := Z23.out
      rcases hx with hx | hx | hx
      · rcases q2 x hx with q | q
        · exact .inl q
        · exact .inr (by omega)
      · exact .inr (ZF.out.1 x hx)
      · exact .inr (by have := ZF.out.2.1; omega)
    have K6 : Hid (Keeps X w W6) := Lib.hid (((K3.out.mono fun _ _ => False.elim : Keeps X w W3).trans q3 fun _ _ => id).trans ks fun x _ e => by rw [e]; exact H1.out.inX.1)
    have C6 := Lib.hid (CE.out W6 y.2.2 _ (keeps_w0 HX.out HK0.out K6.out) ⟨s2, _, Z, R6.out⟩ (mvs_ge HX.out HK0.out.size M6.out) FB.out.2.1 FB.out.2.2)
    have hW6' := Lib.hid hW6
    clear hK q1 q2 q3 hmom hb5 hW6 ks R6 CE
    go_upto_region 5 with fail
    rw [← hW6'.out]
    clear hW6' m0 n0 f0 m1 n1 f1 m2 n2 f2 m3 n3 f3 m4 n4 f4 m5 n5 f5 m6 n6 f6 m7 n7 f7 m8 n8 f8 m9 n9 f9
    go_wp2_with fail
    refine C6.out.mono ?_
    rintro e w7 ⟨ev, rfl, hEv, hD⟩
    have HE7 := Lib.hid hEv
    have HD7 := Lib.hid hD
    clear hEv hD C6
    go_wp2_with fail
    go_ret
    rw [← HZ.out]
    exact ⟨_, rfl, HE7.out, RDone.step M6.out K6.out HD7.out⟩
  · have E1 := HZ.out
    rw [if_neg b2] at E1
    have HZ := Lib.hid E1
    clear E1
    have b3 : (y.2.1 == 3) = false := by simpa using b2
    rw [b3] at CI
    clear b2 b3 hsh
    go_wp2_with fail
    refine CI.out.mono ?_
    rintro e w5 ⟨rfl, hK⟩
    have K5 := Lib.hid hK
    clear hK
    go_wp2_with fail
    go_ret
    rw [← HZ.out]
    exact ⟨_, rfl, HEv.out.same K5.out fun _ _ => id, RDone.after K3.out (HD.out.later F K5.out)⟩
end
end Go.Proofs.YthidipigpfcbbaaGreatDoor
