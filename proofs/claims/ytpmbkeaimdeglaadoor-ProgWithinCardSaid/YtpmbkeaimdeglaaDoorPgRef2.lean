/-
  concordref09.Deep, Waits by contract.
-/
import Derived.Test.YtpmbkeaimdeglaaDoorPgRef
namespace Go.Proofs.YtpmbkeaimdeglaaDoor
open Go.RowKit Go.Extern.Stop Go.Stop Go.Extern

/-! ### plainly -/
def deepL (L : List Ln) : Nat := L.foldl (fun m l => max m l.d) 0
theorem deepL_snoc (L : List Ln) (l : Ln) : deepL (L ++ [l]) = max (deepL L) l.d := by simp [deepL]
theorem fold_ge (L : List Ln) : ∀ m : Nat, m ≤ L.foldl (fun m l => max m l.d) m ∧ (∀ l ∈ L, l.d ≤ L.foldl (fun m l => max m l.d) m) ∧ ∀ M : Nat, m ≤ M → (∀ l ∈ L, l.d ≤ M) → L.foldl (fun m l => max m l.d) m ≤ M := by
  induction L with
  | nil => intro m; exact ⟨Nat.le_refl _, (fun l h => absurd h List.not_mem_nil), fun M h _ => h⟩
  | cons x t ih =>
    intro m
    obtain ⟨h1, h2, h3⟩ := ih (max m x.d)
    refine ⟨Nat.le_trans (Nat.le_max_left _ _) h1, fun l hl => ?_, fun M hm hl => h3 M (Nat.max_le.2 ⟨hm, hl x (by simp)⟩) fun l h => hl l (List.mem_cons_of_mem _ h)⟩
    rcases List.mem_cons.1 hl with rfl | hl
    · exact Nat.le_trans (Nat.le_max_right _ _) h1
    · exact h2 l hl
theorem deepL_lin (F : Fo) : deepL (lin F 1) = F.deep := by
  obtain ⟨_, h2, h3⟩ := fold_ge (lin F 1) 0
  have u := h3 F.deep (Nat.zero_le _) fun l hl => by have := (lin_deep F 1 l hl).2; omega
  refine Nat.le_antisymm u ?_
  rcases Nat.eq_zero_or_pos F.deep with h | h
  · omega
  · obtain ⟨l, hl, e⟩ := lin_deepest F 1 h
    have := h2 l hl
    unfold deepL
    omega
theorem deepL_le {F : Fo} {i : Nat} : deepL ((lin F 1).take i) ≤ F.deep := by
  obtain ⟨_, _, h3⟩ := fold_ge ((lin F 1).take i) 0
  exact h3 F.deep (Nat.zero_le _) fun l hl => by have := (lin_deep F 1 l (List.mem_of_mem_take hl)).2; omega

set_option maxRecDepth 100000 in
set_option maxHeartbeats 1000000 in
theorem rdeep_any {w : World} {v : Value} {F : Fo} (h : SlOf w v F) (few : F.size ≤ 1000) (hd : F.deep ≤ 900) :
    Calls Tryd.prog 17 #[v] w fun e w' => e = .returned (.int .i64 (F.deep : Nat)) ∧ Keeps (fun _ => False) w w' := by
  have cl := Lib.hid (lines_new h few hd)
  have wf := Lib.hid (h.wf (d := 1))
  have hll := lin_len F 1
  have dl := Lib.hid (deepL_lin F)
  have dle := Lib.hid (fun i => deepL_le (F := F) (i := i))
  obtain ⟨L, hL⟩ : ∃ L, lin F 1 = L := ⟨_, rfl⟩
  rw [hL] at cl wf hll dl dle
  clear h hL
  generalize F.deep = D at *
  go_enter Tryd.func17, Tryd.ntmps17
  go_wp2_with fail
  refine cl.out.mono ?_
  rintro e w2 ⟨u, new, rfl, hM, hA, hK2⟩
  obtain ⟨o, c, rfl, _⟩ := row_shape hM.1
  have M2 := Lib.hid hM
  have A2 := Lib.hid hA
  have K2 := Lib.hid hK2
  obtain ⟨n, hn⟩ : ∃ n, new.length = n := ⟨_, rfl⟩
  have hLn : L.length = n := by rw [← hA.len, hn]
  have hLn' := Lib.hid hLn
  have n1000 : (n : Int) ≤ 1000 := by omega
  rw [hn] at M2 ⊢
  clear hM hA hK2 hn hLn hll few
  go_wp2_with fail
  go_loop [3, 5] (fun mv iv => ∃ i : Nat, iv = .int .i64 i ∧ mv = .int .i64 (deepL (L.take i) : Nat) ∧ i ≤ n) (fun mv iv => n - (intOf iv).toNat)
  case atStart => exact ⟨0, rfl, rfl, Nat.zero_le _⟩
  case round =>
    obtain ⟨i, rfl, rfl, hi⟩ := hrel
    by_cases hlt : i < n
    · have b1 : (i : Int) < (n : Int) := by omega
      obtain ⟨l, hl⟩ : ∃ l, L[i]? = some l := ⟨_, List.getElem?_eq_getElem (by rw [hLn'.out]; exact hlt)⟩
      have hsn : deepL (L.take (i + 1)) = max (deepL (L.take i)) l.d := by rw [List.take_add_one, hl]; exact deepL_snoc _ _
      have S1 := Lib.hid hsn
      obtain ⟨g, c', b, e, hv, hat, -, -, -, -⟩ := line_cells M2.out A2.out (wf.out l (List.mem_of_getElem? hl)) hl
      rw [hLn'.out] at hv
      injection hv with hv _ hc
      subst hv
      subst hc
      have f9 := hat.d
      generalize l.d = d at *
      generalize deepL (L.take i) = m at *
      clear hl hat hsn
      by_cases hmd : m < d
      · have b2 : (m : Int) < (d : Int) := by omega
        go_wp2_with fail
        go_round
        case rel => exact ⟨i + 1, by go_num, by rw [S1.out, Nat.max_eq_right (by omega)], by omega⟩
        case measure => simp [intOf]; omega
      · have b2 : ¬ (m : Int) < (d : Int) := by omega
        go_wp2_with fail
        go_round
        case rel => exact ⟨i + 1, by go_num, by rw [S1.out, Nat.max_eq_left (by omega)], by omega⟩
        case measure => simp [intOf]; omega
    · obtain rfl : i = n := by omega
      have b1 : ¬ (i : Int) < (i : Int) := by omega
      have e1 := Lib.hid (show deepL (L.take i) = D by rw [List.take_of_length_le (by rw [hLn'.out]; exact Nat.le_refl _)]; exact dl.out)
      go_wp2_with fail
      go_ret
      exact ⟨by rw [e1.out]; rfl, K2.out⟩

set_option maxRecDepth 100000 in
set_option maxHeartbeats 1000000 in
theorem rwaits_any {w : World} {v : Value} {F : Fo} (h : SlOf w v F) (few : F.size ≤ 1000) (hd : F.deep ≤ 900) :
    Calls Tryd.prog 22 #[v] w fun e w' => e = .returned (.bool (waits F)) ∧ Keeps (fun _ => False) w w' := by
  have cl := Lib.hid (lines_new h few hd)
  have wf := Lib.hid (h.wf (d := 1))
  have hll := lin_len F 1
  obtain ⟨r, hr⟩ : ∃ r, waits F = r := ⟨_, rfl⟩
  rw [hr]
  unfold waits at hr
  obtain ⟨L, hL⟩ : ∃ L, lin F 1 = L := ⟨_, rfl⟩
  rw [hL] at cl wf hll hr
  have HR := Lib.hid hr
  clear h hL hr
  go_enter Tryd.func22, Tryd.ntmps22
  go_wp2_with fail
  refine cl.out.mono ?_
  rintro e w2 ⟨u, new, rfl, hM, hA, hK2⟩
  obtain ⟨o, c, rfl, _⟩ := row_shape hM.1
  have M2 := Lib.hid hM
  have A2 := Lib.hid hA
  have K2 := Lib.hid hK2
  obtain ⟨n, hn⟩ : ∃ n, new.length = n := ⟨_, rfl⟩
  have hLn : L.length = n := by rw [← hA.len, hn]
  have hLn' := Lib.hid hLn
  have n1000 : (n : Int) ≤ 1000 := by omega
  rw [hn] at M2 ⊢
  clear hM hA hK2 hn hLn hll few
  go_wp2_with fail
  go_loop [4] (fun iv => ∃ i : Nat, iv = .int .i64 i ∧ i ≤ n ∧ ∀ (j : Nat) (l : Ln), j < i → L[j]? = some l → l.s.k ≠ 15) (fun iv => n - (intOf iv).toNat)
  case atStart => exact ⟨0, rfl, Nat.zero_le _, fun j l h => absurd h (Nat.not_lt_zero _)⟩
  case round =>
    obtain ⟨i, rfl, hi, hk⟩ := hrel
    have K1 := Lib.hid hk
    clear hk
    by_cases hlt : i < n
    · have b1 : (i : Int) < (n : Int) := by omega
      obtain ⟨l, hl⟩ : ∃ l, L[i]? = some l := ⟨_, List.getElem?_eq_getElem (by rw [hLn'.out]; exact hlt)⟩
      obtain ⟨g, c', b, e, hv, hat, -, -, -, -⟩ := line_cells M2.out A2.out (wf.out l (List.mem_of_getElem? hl)) hl
      rw [hLn'.out] at hv
      injection hv with hv _ hc
      subst hv
      subst hc
      have f0 := hat.st.k
      have hl' := Lib.hid hl
      by_cases h15 : l.s.k = 15
      · have t1 := Lib.hid (show r = true by rw [← HR.out, List.any_eq_true]; exact ⟨l, List.mem_of_getElem? hl, by simp [h15]⟩)
        rw [h15] at f0
        clear hl hat h15
        go_wp2_with fail
        go_ret
        exact ⟨by rw [t1.out]; rfl, K2.out⟩
      · have hb : (l.s.k == 15) = false := by simpa using h15
        have h15' : Hid (∀ x, L[i]? = some x → x.s.k ≠ 15) := Lib.hid fun x hx => by
          rw [hl] at hx
          injection hx with hx
          subst hx
          exact h15
        generalize l.s.k = kk at *
        clear hl hat h15
        go_wp2_with fail
        go_round
        case rel =>
          refine ⟨i + 1, by go_num, by omega, fun j x hj hx => ?_⟩
          rcases Nat.lt_or_ge j i with h | h
          · exact K1.out j x h hx
          · obtain rfl : j = i := by omega
            exact h15'.out x hx
        case measure => simp [intOf]; omega
    · obtain rfl : i = n := by omega
      have b1 : ¬ (i : Int) < (i : Int) := by omega
      have t1 := Lib.hid (show r = false by
        rw [← HR.out, List.any_eq_false]
        intro l hl
        obtain ⟨j, hj⟩ := List.getElem?_of_mem hl
        simpa using K1.out j l (by have := (List.getElem?_eq_some_iff.1 hj).1; have := hLn'.out; omega) hj)
      go_wp2_with fail
      go_ret
      exact ⟨by rw [t1.out]; rfl, K2.out⟩
end Go.Proofs.YtpmbkeaimdeglaaDoor
