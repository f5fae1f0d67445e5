/-
  container/heap's Remove and Fix over a queue's line, by contract.
-/
import Derived.Test.YtjmkfloaagppdaaDoorQuHops
namespace Go.Proofs.YtjmkfloaagppdaaDoor
open Go.RowKit Go.Extern.Stop Go.Stop Go.Extern

set_option maxRecDepth 100000 in
set_option maxHeartbeats 1000000 in
theorem heap_fix {w : World} {q : Nat} {l : List Tm} {X : Nat → Prop} (h : Line w q l X) (i : Nat) (hi : i < l.length) (hP : Part l l.length i) :
    Calls Tryd.prog 37 #[lineI q, .int .i64 i] w fun e w' => e = .returned (.tuple #[]) ∧ (∃ l', Hp w' q l' X ∧ l'.Perm l) ∧ Keeps X w w' := by
  have mL := m_len
  have few := h.few
  obtain ⟨n, hn⟩ : ∃ n, l.length = n := ⟨_, rfl⟩
  have cd := Lib.hid (down_any h n i (by omega) (by omega) (by rw [← hn]; exact hP))
  have cl := Lib.hid (line_lenN h n hn)
  have hn' := Lib.hid hn
  have hP' := Lib.hid (show Part l n i by rw [← hn]; exact hP)
  rw [hn] at few hi
  clear h hP hn
  go_enter Tryd.func37, Tryd.ntmps37
  go_wp2_with fail
  refine cl.out.mono ?_
  rintro e w' ⟨rfl, rfl⟩
  go_wp2_with fail
  refine cd.out.mono ?_
  rintro e w2 ⟨b, l', rfl, hL, hp, ht, hc, hK⟩
  have L2 := Lib.hid hL
  have P2 := Lib.hid hp
  have K2 := Lib.hid hK
  rcases hc with ⟨rfl, hH⟩ | ⟨rfl, rfl, hk⟩
  · have H2 := Lib.hid hH
    clear hL hp ht hK hH
    go_wp2_with fail
    go_end0
    exact ⟨rfl, ⟨l', ⟨L2.out, by rw [P2.out.length_eq, hn'.out]; exact H2.out⟩, P2.out⟩, K2.out⟩
  · have cu := Lib.hid (up_any L2.out n i hi (by rw [hn'.out]; exact Nat.le_refl _) hP'.out hk)
    clear hL hp ht hK hk
    go_wp2_with fail
    refine cu.out.mono ?_
    rintro e w3 ⟨rfl, ⟨l', hL, hp, hH, _⟩, hK⟩
    have L3 := Lib.hid hL
    have P3 := Lib.hid hp
    have K3 := Lib.hid (K2.out.trans_ hK)
    have H3 := Lib.hid hH
    clear hL hp hH hK
    go_wp2_with fail
    go_end0
    exact ⟨rfl, ⟨l', ⟨L3.out, by rw [P3.out.length_eq, hn'.out]; exact H3.out⟩, P3.out⟩, K3.out⟩

set_option maxRecDepth 100000 in
set_option maxHeartbeats 1000000 in
theorem heap_remove {w : World} {q : Nat} {l : List Tm} {X : Nat → Prop} (h : Hp w q l X) (i : Nat) (hi : i < l.length) :
    Calls Tryd.prog 36 #[lineI q, .int .i64 i] w fun e w' => Gone w q l X (at_ l i) e w' := by
  have mS := m_swap
  have mL := m_len
  have mP := m_pop
  have few := h.1.few
  obtain ⟨n, hn⟩ : ∃ n, l.length = n + 1 := ⟨l.length - 1, by omega⟩
  have L0 := Lib.hid h.1
  have H0 := Lib.hid h.2
  have hn' := Lib.hid hn
  rw [hn] at few hi
  clear h hn
  obtain ⟨tv, htv⟩ : ∃ tv, tmVal (at_ l i) = tv := ⟨_, rfl⟩
  have htv' := Lib.hid htv
  clear htv
  have e1 : ((n + 1 : Nat) : Int) - 1 = (n : Int) := by omega
  have e1' := Lib.hid e1
  clear e1
  by_cases c : i = n
  · subst c
    have cp := Lib.hid (last_pop L0.out hn'.out (List.Perm.refl _) rfl (H0.out.less (m := i) (by rw [hn'.out]; omega)))
    have hne : (((i + 1 : Nat) : Int) - 1 != (i : Int)) = false := by simp
    go_enter Tryd.func36, Tryd.ntmps36
    go_wp2_with fail
    refine (line_lenN L0.out (i + 1) hn'.out).mono ?_
    rintro e w' ⟨rfl, rfl⟩
    go_wp2_with fail
    refine cp.out.mono ?_
    rintro e w3 hG
    have G3 := Lib.hid hG
    obtain ⟨rfl, _⟩ := hG
    rw [htv'.out]
    go_wp2_with fail
    go_ret
    have := G3.out
    rw [htv'.out] at this
    exact this
  · obtain ⟨s1, s2, s3⟩ := sw_last hn'.out (i := i) (by omega) H0.out
    have S1 := Lib.hid s1
    have S2 := Lib.hid s2
    have S3 := Lib.hid s3
    clear s1 s2 s3
    have hne : (((n + 1 : Nat) : Int) - 1 != (i : Int)) = true := by simp; omega
    go_enter Tryd.func36, Tryd.ntmps36
    go_wp2_with fail
    refine (line_lenN L0.out (n + 1) hn'.out).mono ?_
    rintro e w' ⟨rfl, rfl⟩
    go_wp2_with fail
    refine (swap_at L0.out i n _ _ rfl rfl (by rw [hn'.out]; omega) (by rw [hn'.out]; omega)).mono ?_
    rintro e w1 ⟨rfl, hL, hK⟩
    have cd := down_any hL n i (by rw [S3.out]; omega) (by omega) S2.out
    have cd' := Lib.hid cd
    have K1 := Lib.hid hK
    clear hL hK cd
    go_wp2_with fail
    refine cd'.out.mono ?_
    rintro e w2 ⟨b, l', rfl, hL, hp, ht, hc, hK⟩
    have L2 := Lib.hid hL
    have K2 := Lib.hid (K1.out.trans_ hK)
    have P2 := Lib.hid (hp.trans (sw_perm (l := l) (i := i) (j := n) (by rw [hn'.out]; omega) (by rw [hn'.out]; omega)))
    have T2 := Lib.hid ((ht n (Nat.le_refl _)).trans S1.out)
    rcases hc with ⟨rfl, hH⟩ | ⟨rfl, rfl, hk⟩
    · have cp := Lib.hid (last_pop L2.out hn'.out P2.out T2.out hH)
      clear hL hp ht hK hH
      go_wp2_with fail
      refine cp.out.mono ?_
      rintro e w3 hG
      have G3 := Lib.hid (hG.after K2.out)
      obtain ⟨rfl, _⟩ := hG
      rw [htv'.out]
      go_wp2_with fail
      go_ret
      have := G3.out
      rw [htv'.out] at this
      exact this
    · have cu := Lib.hid (up_any L2.out n i (by omega) (by rw [S3.out]; omega) S2.out hk)
      clear hL hp ht hK hk
      go_wp2_with fail
      refine cu.out.mono ?_
      rintro e w4 ⟨rfl, ⟨l', hL, hp, hH, ht⟩, hK⟩
      have K4 := Lib.hid (K2.out.trans_ hK)
      have cp := Lib.hid (last_pop hL hn'.out (hp.trans P2.out) ((ht n (Nat.le_refl _)).trans T2.out) hH)
      clear hL hp hH hK ht
      go_wp2_with fail
      refine cp.out.mono ?_
      rintro e w3 hG
      have G3 := Lib.hid (hG.after K4.out)
      obtain ⟨rfl, _⟩ := hG
      rw [htv'.out]
      go_wp2_with fail
      go_ret
      have := G3.out
      rw [htv'.out] at this
      exact this
end Go.Proofs.YtjmkfloaagppdaaDoor
