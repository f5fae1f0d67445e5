/-
  List of the program's states by contract.
-/
import Derived.Test.YtnlogilbiifmiaaMdKeys
import Derived.OwnWalk
namespace Go.Proofs.Ytnlogilbiifmiaa
open Go.RowKit Go.Maps Go.Extern.Stop Go.Stop Go.Extern

theorem mpair_lit {w : World} {b : Nat} {p : Int × Int} (h : Whole w b 51 #[.int .i64 p.1, .int .i64 p.2]) : PRow w (.slice (some ⟨b, 0, none⟩) 1 1) [p] :=
  ⟨rfl, .inr ⟨b, 1, _, rfl, Nat.zero_le _, h, Nat.le_refl _, (by decide : 1 ≤ maxLen), rfl, rfl⟩⟩

theorem look_at : ∀ {W : Tl} {i : Nat} {p : Int × Int}, UpW W → W[i]? = some p → look W p.1 = some p.2
  | q :: t, 0, p, _, h => by simp at h; subst h; obtain ⟨c, v⟩ := q; simp [look]
  | q :: t, i + 1, p, hU, h => by
    have hU' := List.pairwise_cons.1 (show List.Pairwise (· < ·) (q.1 :: t.map (·.1)) from hU)
    have h' : t[i]? = some p := by simpa using h
    have hne : p.1 ≠ q.1 := fun e => by
      have := hU'.1 p.1 (List.mem_map.2 ⟨p, List.mem_of_getElem? h', rfl⟩)
      omega
    have := look_at (W := t) hU'.2 h'
    obtain ⟨c, v⟩ := q
    simp only [look]
    rw [if_neg hne]
    exact this
  | [], i, p, _, h => by simp at h

section
variable {w : World} {s : Nat} {A : M8} {X : Nat → Prop}

set_option maxRecDepth 100000 in
set_option maxHeartbeats 1000000 in
theorem list_m (h : PM w s A X) (c : Int) (hc : A.there c) :
    Calls Try.prog 8 #[.pointer (some ⟨s, 0, none⟩), .int .i64 c] w fun e w' => ∃ u, e = .returned (.tuple #[u, .nilIface]) ∧ PRow w' u (A.col c) ∧ (∀ g, u.ownBlock = some g → w.heap.size ≤ g) ∧ Keeps (fun _ => False) w w' := by
  have ok := h.ok
  obtain ⟨vK, gC, cap, bs, h⟩ := h
  obtain ⟨b, hb, -, hM, -⟩ := h.there hc
  have cf := Lib.hid (h.found hc hb)
  have hU := (ok.col hc).1
  have few := (ok.col hc).2
  generalize A.col c = W at *
  have cs := Lib.hid (sorted_row hM hU few)
  have ck := Lib.hid (keys_m b w)
  have HM := Lib.hid hM
  have HU := Lib.hid hU
  obtain ⟨n, hn⟩ : ∃ n, W.length = n := ⟨_, rfl⟩
  have hn' := Lib.hid hn
  rw [hn] at few
  clear h hM hU hb hc ok hn
  go_enter Try.func8, Try.ntmps8
  go_wp2_with (go_at_call 16; refine cf.out.mono ?_; rintro e w' ⟨rfl, rfl⟩)
  refine ck.out.mono ?_
  rintro e w' ⟨rfl, rfl⟩
  go_wp2_with fail
  refine cs.out.mono ?_
  rintro e wS ⟨v, rfl, hrow, hnew, hK⟩
  obtain ⟨o, cc, rfl, ho⟩ := irow_cells hrow (by rw [List.length_map, hn'.out])
  have KS := Lib.hid hK
  have HC := Lib.hid ho
  clear hrow hnew hK ho
  go_wp2_with fail
  go_loopw [8, 24] (fun lv iv wr => ∃ (i : Nat) (lo : Option Addr) (lc : Nat), iv = .int .i64 i ∧ lv = .slice lo i lc ∧ i ≤ n ∧ Mine pairK wS wr (.slice lo i lc) (W.take i) ∧ Keeps (fun _ => False) wS wr) (fun lv iv _ => n - (intOf iv).toNat)
  case atStart => exact ⟨0, none, 0, rfl, rfl, Nat.zero_le _, ⟨World.ownsRow_nil .., fun g hg => by simp [Value.ownBlock] at hg⟩, Keeps.refl _ _⟩
  case round =>
    obtain ⟨i, lo, lc, rfl, rfl, hi, hM, hK⟩ := hrel
    have M1 := Lib.hid hM
    have K1 := Lib.hid hK
    have lk : (W.take i).length = i := by rw [List.length_take, hn'.out]; omega
    by_cases hlt : i < n
    · have b1 : (i : Int) < (n : Int) := by omega
      obtain ⟨g', rfl, hcl⟩ := HC.out (by omega)
      obtain ⟨d, u, hd⟩ : ∃ d u, W[i]? = some (d, u) := ⟨_, _, List.getElem?_eq_getElem (by rw [hn'.out]; exact hlt)⟩
      have q0 := hcl i d (by rw [List.getElem?_map, hd]; rfl)
      have d3 := (hK.cell (cell_lt q0) id).trans q0
      have hk := look_at HU.out hd
      simp only at hk
      have hk' := Lib.hid hk
      have T1 := Lib.hid (take_add hd)
      have HM1 := Lib.hid (HM.out.keeps (KS.out.trans hK fun _ _ => id) id)
      have wfd : (Lit.int .i64 d).wf = true := wf_key HM.out (by rw [hk]; rfl)
      clear hM hK q0 hcl hd hk
      go_wp2_with (first
        | (at_lookup; refine wpList_look _ rfl _ _ _ rfl 3 3 iE Try.underlying3 Try.underlying42 0 (zero_i _) b (look W) rfl HM1.out d rfl wfd (.int .i64 u) (by rw [hk'.out]; rfl) ?_)
        | (at_builtin; refine wpList_append_row pairK rfl _ _ rfl wS _ (W.take i) [(d, u)] rfl (M1.out.same ((Keeps.refl _ _).alloc _)) (K1.out.alloc _) _ rfl (mpair_lit (p := (d, u)) (Whole.made wr 51 #[.int .i64 ((d, u)).1, .int .i64 ((d, u)).2])) (i + 1) (by simp [lk]) (by omega) ?_; intro ao2 ac2 w2 hM hK hK3; have M2 := Lib.hid hM; have K2 := Lib.hid hK; clear hM hK hK3))
      go_roundw
      case rel =>
        exact ⟨i + 1, ao2, ac2, by go_num, rfl, by omega, by rw [T1.out]; exact M2.out, K2.out⟩
      case measure => simp [intOf]; omega
    · obtain rfl : i = n := by omega
      have b1 : ¬ (i : Int) < (i : Int) := by omega
      have ME := M1.out
      rw [List.take_of_length_le (by rw [hn'.out]; exact Nat.le_refl _)] at ME
      have ME := Lib.hid ME
      clear hM hK lk
      go_wp2_with fail
      go_ret2
      exact ⟨_, rfl, ME.out.1, fun g hg => Nat.le_trans KS.out.size (ME.out.2 g hg), KS.out.trans K1.out fun _ _ => id⟩
end
end Go.Proofs.Ytnlogilbiifmiaa
