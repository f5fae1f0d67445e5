/-
  container/heap's up, over a queue's line, by contract: what was a heap but for one place is a heap.
-/
import Derived.Test.YtjmkfloaagppdaaDoorQuSelf
import Derived.Deep.QuietTactic
import Derived.BigQuiet
import Derived.LoopTactic
namespace Go.Proofs.YtjmkfloaagppdaaDoor
open Go.RowKit Go.Extern.Stop Go.Stop Go.Extern

/-- The line as a heap.Interface. -/
abbrev lineI (q : Nat) : Value := .iface 75 (.pointer (some ⟨q, 0, none⟩))

theorem m_len (v : Value) (w : World) : (Go.method 276 75 v "Len").run Tryd.prog w = .ok (28, v) w := by kernel_rfl
theorem m_less (v : Value) (w : World) : (Go.method 276 75 v "Less").run Tryd.prog w = .ok (97, v) w := by kernel_rfl
theorem m_swap (v : Value) (w : World) : (Go.method 276 75 v "Swap").run Tryd.prog w = .ok (100, v) w := by kernel_rfl
theorem m_push (v : Value) (w : World) : (Go.method 276 75 v "Push").run Tryd.prog w = .ok (99, v) w := by kernel_rfl
theorem m_pop (v : Value) (w : World) : (Go.method 276 75 v "Pop").run Tryd.prog w = .ok (98, v) w := by kernel_rfl

theorem quo_two (j : Nat) (h : 0 < j) : ((j : Int) - 1).tdiv 2 = (((j - 1) / 2 : Nat) : Int) := by
  have e : ((j : Int) - 1) = ((j - 1 : Nat) : Int) := by omega
  rw [e]
  exact (Int.ofNat_tdiv _ 2).symm

set_option maxRecDepth 100000 in
theorem up_any {w : World} {q : Nat} {l : List Tm} {X : Nat → Prop} (h : Line w q l X) (n j : Nat) (hj : j < n) (hn : n ≤ l.length) (hP : Part l n j) (hK : Kids l n j) :
    Calls Tryd.prog 48 #[lineI q, .int .i64 j] w fun e w' => e = .returned (.tuple #[]) ∧ (∃ l', Line w' q l' X ∧ l'.Perm l ∧ Heap l' n ∧ ∀ k, n ≤ k → at_ l' k = at_ l k) ∧ Keeps X w w' := by
  have mL := m_less
  have mS := m_swap
  have h' := Lib.hid h
  have hP' := Lib.hid hP
  have hK' := Lib.hid hK
  have few := h.few
  clear h hP hK
  go_enter Tryd.func48, Tryd.ntmps48
  go_wp2_with fail
  go_loopw [1] (fun jv wr => ∃ (j : Nat) (m : List Tm), jv = .int .i64 j ∧ j < n ∧ Line wr q m X ∧ m.Perm l ∧ Part m n j ∧ Kids m n j ∧ (∀ k, n ≤ k → at_ m k = at_ l k) ∧ Keeps X w wr) (fun jv _ => (intOf jv).toNat)
  case atStart => exact ⟨j, l, rfl, hj, h'.out, List.Perm.refl _, hP'.out, hK'.out, fun _ _ => rfl, Keeps.refl _ _⟩
  case round =>
    clear hj h' hP' hK'
    obtain ⟨j, m, rfl, hj, hL, hp, hP, hK, hr, hk⟩ := hrel
    have hlen : m.length = l.length := hp.length_eq
    have L1 := Lib.hid hL
    have p1 := Lib.hid hp
    have P1 := Lib.hid hP
    have C1 := Lib.hid hK
    have R1 := Lib.hid hr
    have K1 := Lib.hid hk
    clear hL hp hP hK hr hk
    rcases Nat.eq_zero_or_pos j with h0 | h0
    · subst h0
      go_wp2_with fail
      go_end0
      exact ⟨rfl, ⟨m, L1.out, p1.out, P1.out.heap C1.out fun h => absurd h (Nat.lt_irrefl 0), R1.out⟩, K1.out⟩
    · have e1 := quo_two j h0
      have hpj : (j - 1) / 2 < j := by omega
      obtain ⟨p, hpp⟩ : ∃ p, (j - 1) / 2 = p := ⟨_, rfl⟩
      rw [hpp] at e1 hpj
      have hne : ((p : Int) == (j : Int)) = false := by simp; omega
      have cL := line_less L1.out j p (by omega) (by omega)
      cases ha : ahead (at_ m j) (at_ m p) with
      | false =>
        rw [ha] at cL
        have cL' := Lib.hid cL
        clear cL
        go_wp2_with fail
        refine cL'.out.mono ?_
        rintro e w2 ⟨rfl, hG⟩
        go_wp2_with fail
        go_end0
        exact ⟨rfl, ⟨m, L1.out.same hG.keeps, p1.out, P1.out.heap C1.out fun _ => by rw [hpp]; exact ha, R1.out⟩, K1.out.trans hG.keeps fun _ _ => False.elim⟩
      | true =>
        rw [ha] at cL
        have cL' := Lib.hid cL
        have ha' := Lib.hid ha
        clear cL ha
        go_wp2_with fail
        refine cL'.out.mono ?_
        rintro e w2 ⟨rfl, hG⟩
        have L2 := Lib.hid (L1.out.same hG.keeps)
        have K2 := Lib.hid (show Keeps X w w2 from K1.out.trans hG.keeps fun _ _ => False.elim)
        clear hG
        go_wp2_with fail
        refine (line_swap_any L2.out p j (by omega) (by omega)).mono ?_
        rintro e w3 ⟨rfl, hL3, hK3⟩
        have L3 := Lib.hid hL3
        have K3 := Lib.hid (K2.out.trans_ hK3)
        clear hL3 hK3
        have hs := up_step P1.out C1.out h0 hj (by omega) (by rw [hpp]; exact ha'.out)
        rw [hpp] at hs
        have S1 := Lib.hid hs
        clear hs
        go_wp2_with fail
        go_roundw
        case rel => exact ⟨p, sw m p j, rfl, by omega, L3.out, (sw_perm (by omega) (by omega)).trans p1.out, S1.out.1, S1.out.2, fun k hk => by rw [at_sw (by omega) (by omega), if_neg (by omega), if_neg (by omega)]; exact R1.out k hk, K3.out⟩
        case measure => simp [intOf]; omega
end Go.Proofs.YtjmkfloaagppdaaDoor
