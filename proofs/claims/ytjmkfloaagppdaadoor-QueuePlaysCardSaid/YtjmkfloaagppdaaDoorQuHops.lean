/-
  container/heap's Push, Pop, Remove, Fix over a queue's line, by contract.
-/
import Derived.Test.YtjmkfloaagppdaaDoorQuDown
import Derived.Test.YtjmkfloaagppdaaDoorQuPop
namespace Go.Proofs.YtjmkfloaagppdaaDoor
open Go.RowKit Go.Extern.Stop Go.Stop Go.Extern

/-- A queue's line that is a heap. -/
def Hp (w : World) (q : Nat) (l : List Tm) (X : Nat → Prop) : Prop := Line w q l X ∧ Heap l l.length

theorem Hp.keeps {w w' : World} {q : Nat} {l : List Tm} {X S : Nat → Prop} (h : Hp w q l X) (k : Keeps S w w') (hS : ∀ x, X x → ¬ S x) : Hp w' q l X := ⟨h.1.keeps k hS, h.2⟩

theorem line_lenN {w : World} {q : Nat} {l : List Tm} {X : Nat → Prop} (h : Line w q l X) (n : Nat) (hn : l.length = n) :
    Calls Tryd.prog 28 #[.pointer (some ⟨q, 0, none⟩)] w fun e w' => e = .returned (.int .i64 n) ∧ w' = w := by
  obtain ⟨mb, v, f, h⟩ := h
  obtain ⟨o, c, rfl, _⟩ := TRow.shape h.row
  have c0 : w.cell? ⟨q, 0, none⟩ = some (.slice o l.length c) := h.blk.at_ 0
  rw [hn] at c0
  clear h
  go_enter Tryd.func28, Tryd.ntmps28
  go_wp2_with fail
  go_ret
  exact ⟨rfl, rfl⟩

set_option maxRecDepth 100000 in
set_option maxHeartbeats 1000000 in
theorem heap_push {w : World} {q : Nat} {l : List Tm} {X : Nat → Prop} (h : Hp w q l X) (t : Tm) (hw : wfT t) (few : l.length < 200) (hn : ∀ u ∈ l, u.2 ≠ t.2) :
    Calls Tryd.prog 33 #[lineI q, .iface 31 (tmVal t)] w fun e w' => e = .returned (.tuple #[]) ∧ (∃ l' X', Hp w' q l' X' ∧ l'.Perm (t :: l) ∧ ∀ x, X' x → X x ∨ w.heap.size ≤ x) ∧ Keeps X w w' := by
  have mP := m_push
  have mL := m_len
  have cp := Lib.hid (line_push h.1 t hw few hn)
  have hp := Lib.hid (Heap.push h.2 t)
  obtain ⟨n, hnn⟩ : ∃ n, l.length = n := ⟨_, rfl⟩
  have hn1 : (l ++ [t]).length = n + 1 := by simp [hnn]
  rw [hnn] at few
  have hnn' := Lib.hid hnn
  have hn1' := Lib.hid hn1
  clear h hn hnn hn1 hw
  obtain ⟨tv, htv⟩ : ∃ tv, tmVal t = tv := ⟨_, rfl⟩
  rw [htv] at cp ⊢
  clear htv
  go_enter Tryd.func33, Tryd.ntmps33
  go_wp2_with fail
  refine cp.out.mono ?_
  rintro e w1 ⟨rfl, ⟨X1, hL, hX⟩, hK⟩
  have L1 := Lib.hid hL
  have X1' := Lib.hid hX
  have K1 := Lib.hid hK
  clear hL hX hK
  go_wp2_with fail
  refine (line_lenN L1.out (n + 1) hn1'.out).mono ?_
  rintro e w' ⟨rfl, rfl⟩
  have e1 : ((n + 1 : Nat) : Int) - 1 = (n : Int) := by omega
  have cu := up_any L1.out (n + 1) n (by omega) (by rw [hn1'.out]; exact Nat.le_refl _) (by have := hp.out.1; rw [hnn'.out] at this; exact this) (by have := hp.out.2; rw [hnn'.out] at this; exact this)
  have cu' := Lib.hid cu
  clear cu e1
  go_wp2_with fail
  refine cu'.out.mono ?_
  rintro e w2 ⟨rfl, ⟨l', hL, hpm, hH, _⟩, hK⟩
  have L2 := Lib.hid hL
  have P2 := Lib.hid hpm
  have H2 := Lib.hid hH
  have K2 := Lib.hid (K1.out.trans hK fun x hx e => (X1'.out x e).elim id fun h => absurd h (by omega))
  clear hL hpm hH hK
  go_wp2_with fail
  go_end0
  refine ⟨rfl, ⟨l', X1, ⟨L2.out, ?_⟩, P2.out.trans (List.perm_append_singleton t l), X1'.out⟩, K2.out⟩
  rw [P2.out.length_eq, hn1'.out]
  exact H2.out

/-- A list without its last one. -/
theorem split_last {l : List Tm} {n : Nat} (h : l.length = n + 1) : l = l.take n ++ [at_ l n] := by
  have e : l.drop n = [at_ l n] := by
    rw [List.drop_eq_getElem_cons (by omega), List.drop_eq_nil_of_le (by omega)]
    congr 1
    exact (at_eq (List.getElem?_eq_getElem (by omega))).symm
  rw [← e, List.take_append_drop]

/-- What is left is a heap, without what stood at the last place. -/
theorem popped {l m : List Tm} {n : Nat} {t : Tm} (hl : l.length = n + 1) (hp : m.Perm l) (ht : at_ m n = t) (hH : Heap m n) : m = m.take n ++ [t] ∧ Heap (m.take n) (m.take n).length ∧ (t :: m.take n).Perm l := by
  have hm : m.length = n + 1 := by rw [hp.length_eq, hl]
  have e := split_last hm
  rw [ht] at e
  have hlen : (m.take n).length = n := by simp; omega
  refine ⟨e, ?_, ?_⟩
  · rw [hlen]
    refine hH.cut fun k hk => ?_
    refine at_eq ?_
    rw [List.getElem?_take_of_lt hk]
    exact at_some (by omega)
  · refine (List.perm_append_singleton t (m.take n)).symm.trans ?_
    rw [← e]
    exact hp

/-- What Remove and Pop leave: the timer is gone. -/
def Gone (w : World) (q : Nat) (l : List Tm) (X : Nat → Prop) (t : Tm) (e : Ending) (w' : World) : Prop :=
  e = .returned (.iface 31 (tmVal t)) ∧ (∃ l', Hp w' q l' X ∧ (t :: l').Perm l) ∧ Keeps X w w'

/-- The line's own Pop, behind all that moved the timer to the last place. -/
theorem last_pop {w : World} {q n : Nat} {l m : List Tm} {X : Nat → Prop} {t : Tm} (h : Line w q m X) (hl : l.length = n + 1) (hp : m.Perm l) (ht : at_ m n = t) (hH : Heap m n) :
    Calls Tryd.prog 98 #[.pointer (some ⟨q, 0, none⟩)] w fun e w' => Gone w q l X t e w' := by
  obtain ⟨e1, h1, h2⟩ := popped hl hp ht hH
  rw [e1] at h
  refine (line_pop h).mono ?_
  rintro e w' ⟨rfl, hL, hK⟩
  exact ⟨rfl, ⟨_, ⟨hL, h1⟩, h2⟩, hK⟩

theorem Gone.after {w w1 : World} {q : Nat} {l : List Tm} {X : Nat → Prop} {t : Tm} {e : Ending} {w' : World} (h : Gone w1 q l X t e w') (k : Keeps X w w1) : Gone w q l X t e w' := ⟨h.1, h.2.1, k.trans_ h.2.2⟩

theorem sw_last {l : List Tm} {n i : Nat} (hl : l.length = n + 1) (hi : i ≤ n) (h : Heap l l.length) : at_ (sw l i n) n = at_ l i ∧ Part (sw l i n) n i ∧ (sw l i n).length = n + 1 := by
  refine ⟨?_, ?_, by rw [length_sw, hl]⟩
  · rw [at_sw (by omega) (by omega), if_pos rfl]
  · refine (h.less (m := n) (by omega)).set fun k hk hne => ?_
    rw [at_sw (by omega) (by omega), if_neg (by omega), if_neg hne]

set_option maxRecDepth 100000 in
set_option maxHeartbeats 1000000 in
theorem heap_pop {w : World} {q : Nat} {l : List Tm} {X : Nat → Prop} (h : Hp w q l X) (h0 : 0 < l.length) :
    Calls Tryd.prog 34 #[lineI q] w fun e w' => Gone w q l X (at_ l 0) e w' := by
  have mS := m_swap
  have mL := m_len
  have mP := m_pop
  have few := h.1.few
  obtain ⟨n, hn⟩ : ∃ n, l.length = n + 1 := ⟨l.length - 1, by omega⟩
  obtain ⟨s1, s2, s3⟩ := sw_last hn (Nat.zero_le n) h.2
  have S1 := Lib.hid s1
  have S2 := Lib.hid s2
  have S3 := Lib.hid s3
  have L0 := Lib.hid h.1
  have hn' := Lib.hid hn
  rw [hn] at few
  clear s1 s2 s3 h h0 hn
  go_enter Tryd.func34, Tryd.ntmps34
  go_wp2_with fail
  refine (line_lenN L0.out (n + 1) hn'.out).mono ?_
  rintro e w' ⟨rfl, rfl⟩
  have e1 : ((n + 1 : Nat) : Int) - 1 = (n : Int) := by omega
  have cs := line_swap_any L0.out 0 n (by rw [hn'.out]; omega) (by rw [hn'.out]; omega)
  have cs' := Lib.hid cs
  clear cs
  have cd := fun V hV => down_any (w := V) (X := X) (q := q) hV n 0 (by rw [S3.out]; omega) (by omega) S2.out
  have cd' := Lib.hid cd
  clear cd e1
  go_wp2_with fail
  refine cs'.out.mono ?_
  rintro e w1 ⟨rfl, hL, hK⟩
  have L1 := Lib.hid hL
  have K1 := Lib.hid hK
  clear hL hK
  go_wp2_with fail
  refine (cd'.out w1 L1.out).mono ?_
  rintro e w2 ⟨b, l', rfl, hL, hp, ht, hc, hK⟩
  have L2 := Lib.hid hL
  have K2 := Lib.hid (K1.out.trans_ hK)
  have hH : Heap l' n := by
    rcases hc with ⟨_, hH⟩ | ⟨_, rfl, hk⟩
    · exact hH
    · exact S2.out.heap hk fun h => absurd h (Nat.lt_irrefl 0)
  have cp := Lib.hid (last_pop L2.out hn'.out (hp.trans (sw_perm (by rw [hn'.out]; omega) (by rw [hn'.out]; omega))) ((ht n (Nat.le_refl _)).trans S1.out) hH)
  clear hL hp ht hc hK hH
  go_wp2_with fail
  refine cp.out.mono ?_
  rintro e w3 hG
  have G3 := Lib.hid (hG.after K2.out)
  obtain ⟨rfl, _⟩ := hG
  obtain ⟨tv, htv⟩ : ∃ tv, tmVal (at_ l 0) = tv := ⟨_, rfl⟩
  have htv' := Lib.hid htv
  rw [htv]
  clear htv
  go_wp2_with fail
  go_ret
  have := G3.out
  rw [htv'.out] at this
  exact this
end Go.Proofs.YtjmkfloaagppdaaDoor
