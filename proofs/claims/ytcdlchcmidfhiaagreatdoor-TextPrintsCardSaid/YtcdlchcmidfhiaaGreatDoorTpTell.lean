/-
  word, line: a statement's line, by contract.
  What is put into a strings.Builder; tell: the lines of statements, by contract.
-/
import Derived.Test.YtcdlchcmidfhiaaGreatDoorTpStat
import Derived.Test.YtcdlchcmidfhiaaGreatDoorTpEnd
import Derived.Test.YtcdlchcmidfhiaaGreatDoorPgOneAll
import Derived.Test.YtcdlchcmidfhiaaGreatDoorTpNum
import Derived.Test.YtcdlchcmidfhiaaGreatDoorTpWord
import Derived.Lib.OthersKept

namespace Go.Proofs.YtcdlchcmidfhiaaGreatDoor
open Go.RowKit Go.Maps Go.Extern.Stop Go.Stop Go.Extern

/-- Numbers within bounds. -/
structure Bd7 (s : St7) : Prop where
  c : 0 ≤ s.c ∧ s.c < 8
  r : 0 ≤ s.r ∧ s.r ≤ 8
  ar : 0 ≤ s.ar ∧ s.ar ≤ 8
  an : -999 ≤ s.an ∧ s.an ≤ 999
  br : 0 ≤ s.br ∧ s.br ≤ 8
  bn : -999 ≤ s.bn ∧ s.bn ≤ 999
theorem rt_bd {s : St7} (h : Rt s) : Bd7 s := by
  obtain ⟨hk, hc, hr, ha, hb, hl⟩ := h
  refine ⟨?_, ?_, ?_, ?_, ?_, ?_⟩
  · split at hc <;> omega
  · split at hr <;> omega
  · split at ha <;> omega
  · split at ha <;> omega
  · split at hb <;> omega
  · split at hb <;> omega
/-- What the program writes for a word of a form. -/
def wdT (f : Str) (s : St7) : Str := if f = [67] then wrT 0 s.c else if f = [82] then wrT s.r 0 else if f = [78] then wrT s.ar s.an else if f = [65] then wrT s.ar s.an else if f = [66] then wrT s.br s.bn else f
theorem r_form : ∀ k, k < 17 → .r ∈ formT.getD k [] → inL (k : Int) [1, 4, 5, 6, 7, 9, 10] = true := by decide
theorem wd_word {s : St7} (h : Rt s) {f : Fm} (hf : f ∈ formT.getD s.k.toNat []) : wdT (fw f) s = wordT s f := by
  obtain ⟨h1, h2, h3, h4, h5, h6⟩ := rt_bd h
  cases f
  · simp only [wdT, fw, ↓reduceIte, wordT, wrT]
    exact itoa_dec _ (by omega)
  · simp only [wdT, fw, ↓reduceIte, show ([65] : Str) ≠ [67] by decide, show ([65] : Str) ≠ [82] by decide, show ([65] : Str) ≠ [78] by decide, wordT]
    exact wr_arg (by omega) (by omega)
  · simp only [wdT, fw, ↓reduceIte, show ([66] : Str) ≠ [67] by decide, show ([66] : Str) ≠ [82] by decide, show ([66] : Str) ≠ [78] by decide, show ([66] : Str) ≠ [65] by decide, wordT]
    exact wr_arg (by omega) (by omega)
  · have hk := h.k
    have hi := r_form s.k.toNat (by omega) hf
    rw [show ((s.k.toNat : Nat) : Int) = s.k by omega] at hi
    have hr := h.r
    rw [if_pos hi] at hr
    simp only [wdT, fw, ↓reduceIte, show ([82] : Str) ≠ [67] by decide, wordT, wrT, regT]
    rw [if_neg (by omega), List.append_nil, itoa_dec _ (by omega)]
    unfold decZ
    rw [if_neg (by omega)]
  · simp only [wdT, fw, ↓reduceIte, show ([78] : Str) ≠ [67] by decide, show ([78] : Str) ≠ [82] by decide, wordT]
    exact wr_arg (by omega) (by omega)
  · simp only [wdT, fw, ↓reduceIte, show ([123] : Str) ≠ [67] by decide, show ([123] : Str) ≠ [82] by decide, show ([123] : Str) ≠ [78] by decide, show ([123] : Str) ≠ [65] by decide, show ([123] : Str) ≠ [66] by decide, wordT]
theorem wd_line {s : St7} (h : Rt s) : (fmW s.k.toNat).map (fun f => wdT f s) = lineT s := by
  have hk := h.k
  obtain ⟨n1, n2, n3, n4, n5⟩ := kind_lit s.k.toNat (by omega)
  unfold fmW lineT
  rw [List.map_cons, List.map_map]
  have e1 : wdT (kindT.getD s.k.toNat []) s = kindT.getD s.k.toNat [] := by
    unfold wdT
    rw [if_neg n1, if_neg n2, if_neg n3, if_neg n4, if_neg n5]
  rw [e1]
  congr 1
  exact List.map_congr_left fun f hf => wd_word h hf

set_option maxRecDepth 100000 in
theorem word_c {w : World} (s : St7) (b e : Sl) (h : Bd7 s) (hg : GlobT w) :
    Calls Tryz.prog 60 #[.string (mkB [67]), .agg (stAgg s b e)] w fun e w' => e = .returned (.string (mkB (wrT 0 s.c))) ∧ Keeps (fun _ => False) w w' := by
  obtain ⟨h1, h2, h3, h4, h5, h6⟩ := h
  have CW := Lib.hid (fun V (k : Keeps (fun _ => False) w V) => written_any (w := V) 0 s.c (by omega) (by omega) (hg.keeps k id))
  have K1 := Lib.hid ((Keeps.refl (fun _ => False) w).alloc (.cells (stAgg s b e) 45))
  have hl := mkB_list [67]
  obtain ⟨ob, nb, cb⟩ := b
  obtain ⟨oe, ne, ce⟩ := e
  clear hg h1 h2 h3 h4 h5 h6
  simp only [stAgg, slv]
  go_enter Tryz.func60, Tryz.ntmps60
  go_wp2_with fail
  refine (CW.out _ K1.out).mono ?_
  rintro e w2 ⟨rfl, hK⟩
  have K2 := Lib.hid (K1.out.trans hK fun _ _ => id)
  clear hK CW
  go_wp2_with fail
  go_ret
  exact ⟨rfl, K2.out⟩

set_option maxRecDepth 100000 in
theorem word_r {w : World} (s : St7) (b e : Sl) (h : Bd7 s) (hg : GlobT w) :
    Calls Tryz.prog 60 #[.string (mkB [82]), .agg (stAgg s b e)] w fun e w' => e = .returned (.string (mkB (wrT s.r 0))) ∧ Keeps (fun _ => False) w w' := by
  obtain ⟨h1, h2, h3, h4, h5, h6⟩ := h
  have CW := Lib.hid (fun V (k : Keeps (fun _ => False) w V) => written_any (w := V) s.r 0 (by omega) (by omega) (hg.keeps k id))
  have K1 := Lib.hid ((Keeps.refl (fun _ => False) w).alloc (.cells (stAgg s b e) 45))
  have hl := mkB_list [82]
  obtain ⟨ob, nb, cb⟩ := b
  obtain ⟨oe, ne, ce⟩ := e
  clear hg h1 h2 h3 h4 h5 h6
  simp only [stAgg, slv]
  go_enter Tryz.func60, Tryz.ntmps60
  go_wp2_with fail
  refine (CW.out _ K1.out).mono ?_
  rintro e w2 ⟨rfl, hK⟩
  have K2 := Lib.hid (K1.out.trans hK fun _ _ => id)
  clear hK CW
  go_wp2_with fail
  go_ret
  exact ⟨rfl, K2.out⟩

set_option maxRecDepth 100000 in
theorem word_n {w : World} (s : St7) (b e : Sl) (h : Bd7 s) (hg : GlobT w) :
    Calls Tryz.prog 60 #[.string (mkB [78]), .agg (stAgg s b e)] w fun e w' => e = .returned (.string (mkB (wrT s.ar s.an))) ∧ Keeps (fun _ => False) w w' := by
  obtain ⟨h1, h2, h3, h4, h5, h6⟩ := h
  have CW := Lib.hid (fun V (k : Keeps (fun _ => False) w V) => written_any (w := V) s.ar s.an (by omega) (by omega) (hg.keeps k id))
  have K1 := Lib.hid ((Keeps.refl (fun _ => False) w).alloc (.cells (stAgg s b e) 45))
  have hl := mkB_list [78]
  obtain ⟨ob, nb, cb⟩ := b
  obtain ⟨oe, ne, ce⟩ := e
  clear hg h1 h2 h3 h4 h5 h6
  simp only [stAgg, slv]
  go_enter Tryz.func60, Tryz.ntmps60
  go_wp2_with fail
  refine (CW.out _ K1.out).mono ?_
  rintro e w2 ⟨rfl, hK⟩
  have K2 := Lib.hid (K1.out.trans hK fun _ _ => id)
  clear hK CW
  go_wp2_with fail
  go_ret
  exact ⟨rfl, K2.out⟩

set_option maxRecDepth 100000 in
theorem word_a {w : World} (s : St7) (b e : Sl) (h : Bd7 s) (hg : GlobT w) :
    Calls Tryz.prog 60 #[.string (mkB [65]), .agg (stAgg s b e)] w fun e w' => e = .returned (.string (mkB (wrT s.ar s.an))) ∧ Keeps (fun _ => False) w w' := by
  obtain ⟨h1, h2, h3, h4, h5, h6⟩ := h
  have CW := Lib.hid (fun V (k : Keeps (fun _ => False) w V) => written_any (w := V) s.ar s.an (by omega) (by omega) (hg.keeps k id))
  have K1 := Lib.hid ((Keeps.refl (fun _ => False) w).alloc (.cells (stAgg s b e) 45))
  have hl := mkB_list [65]
  obtain ⟨ob, nb, cb⟩ := b
  obtain ⟨oe, ne, ce⟩ := e
  clear hg h1 h2 h3 h4 h5 h6
  simp only [stAgg, slv]
  go_enter Tryz.func60, Tryz.ntmps60
  go_wp2_with fail
  refine (CW.out _ K1.out).mono ?_
  rintro e w2 ⟨rfl, hK⟩
  have K2 := Lib.hid (K1.out.trans hK fun _ _ => id)
  clear hK CW
  go_wp2_with fail
  go_ret
  exact ⟨rfl, K2.out⟩

set_option maxRecDepth 100000 in
theorem word_b {w : World} (s : St7) (b e : Sl) (h : Bd7 s) (hg : GlobT w) :
    Calls Tryz.prog 60 #[.string (mkB [66]), .agg (stAgg s b e)] w fun e w' => e = .returned (.string (mkB (wrT s.br s.bn))) ∧ Keeps (fun _ => False) w w' := by
  obtain ⟨h1, h2, h3, h4, h5, h6⟩ := h
  have CW := Lib.hid (fun V (k : Keeps (fun _ => False) w V) => written_any (w := V) s.br s.bn (by omega) (by omega) (hg.keeps k id))
  have K1 := Lib.hid ((Keeps.refl (fun _ => False) w).alloc (.cells (stAgg s b e) 45))
  have hl := mkB_list [66]
  obtain ⟨ob, nb, cb⟩ := b
  obtain ⟨oe, ne, ce⟩ := e
  clear hg h1 h2 h3 h4 h5 h6
  simp only [stAgg, slv]
  go_enter Tryz.func60, Tryz.ntmps60
  go_wp2_with fail
  refine (CW.out _ K1.out).mono ?_
  rintro e w2 ⟨rfl, hK⟩
  have K2 := Lib.hid (K1.out.trans hK fun _ _ => id)
  clear hK CW
  go_wp2_with fail
  go_ret
  exact ⟨rfl, K2.out⟩

set_option maxRecDepth 100000 in
theorem word_o {w : World} (f : Str) (n1 : f ≠ [67]) (n2 : f ≠ [82]) (n3 : f ≠ [78]) (n4 : f ≠ [65]) (n5 : f ≠ [66]) (s : St7) (b e : Sl) :
    Calls Tryz.prog 60 #[.string (mkB f), .agg (stAgg s b e)] w fun e w' => e = .returned (.string (mkB f)) ∧ Keeps (fun _ => False) w w' := by
  have K1 := Lib.hid ((Keeps.refl (fun _ => False) w).alloc (.cells (stAgg s b e) 45))
  have hl := mkB_list f
  obtain ⟨ob, nb, cb⟩ := b
  obtain ⟨oe, ne, ce⟩ := e
  have m1 : (f == [67]) = false := beq_eq_false_iff_ne.2 n1
  have m2 : (f == [82]) = false := beq_eq_false_iff_ne.2 n2
  have m3 : (f == [78]) = false := beq_eq_false_iff_ne.2 n3
  have m4 : (f == [65]) = false := beq_eq_false_iff_ne.2 n4
  have m5 : (f == [66]) = false := beq_eq_false_iff_ne.2 n5
  clear n1 n2 n3 n4 n5
  simp only [stAgg, slv]
  go_enter Tryz.func60, Tryz.ntmps60
  go_wp2_with fail
  go_ret
  exact ⟨rfl, K1.out⟩
theorem word_any {w : World} (f : Str) (s : St7) (b e : Sl) (h : Bd7 s) (hg : GlobT w) :
    Calls Tryz.prog 60 #[.string (mkB f), .agg (stAgg s b e)] w fun e w' => e = .returned (.string (mkB (wdT f s))) ∧ Keeps (fun _ => False) w w' := by
  unfold wdT
  by_cases n1 : f = [67]
  · subst n1; exact word_c s b e h hg
  rw [if_neg n1]
  by_cases n2 : f = [82]
  · subst n2; exact word_r s b e h hg
  rw [if_neg n2]
  by_cases n3 : f = [78]
  · subst n3; exact word_n s b e h hg
  rw [if_neg n3]
  by_cases n4 : f = [65]
  · subst n4; exact word_a s b e h hg
  rw [if_neg n4]
  by_cases n5 : f = [66]
  · subst n5; exact word_b s b e h hg
  rw [if_neg n5]
  exact word_o f n1 n2 n3 n4 n5 s b e
theorem fields_w {w : World} (k : Nat) (h0 : 0 < k) (hk : k < 17) (hg : GlobT w) :
    Calls Tryz.prog 59 #[.string (mkB (frmB k))] w fun e w' => e = .returned (.slice (some ⟨w.heap.size, 0, none⟩) (fmW k).length (fmW k).length) ∧ Whole w' w.heap.size 9 (((fmW k).map fun x => Value.string (mkB x)).toArray) ∧ Keeps (fun _ => False) w w' := by
  have hl := (frm_len k hk).1
  have hf : Lib.fields (frmB k) = fmW k := by
    have := forms_fields k hk h0
    unfold frmB
    rw [if_neg (by omega)]
    exact this
  refine (sh_strings_Fields (mkB (frmB k)) w (by rw [mkB_size]; omega) (fun j b hb => by rw [mkB_data] at hb; exact frm_ascii k hk b (List.mem_of_getElem? hb)) hg.t.spc).mono ?_
  rintro e w' ⟨rfl, rfl⟩
  rw [mkB_data, hf]
  exact ⟨rfl, Whole.made w 9 _, (Keeps.refl _ w).alloc _⟩
/-- The words, some of them written. -/
def someW (s : St7) (L : List Str) (i : Nat) : List Str := (L.take i).map (fun f => wdT f s) ++ L.drop i
theorem someW_len (s : St7) (L : List Str) (i : Nat) : (someW s L i).length = L.length := by unfold someW; simp; omega
theorem someW_at {s : St7} {L : List Str} {i : Nat} {f : Str} (h : L[i]? = some f) : (someW s L i)[i]? = some f := by
  obtain ⟨hi, rfl⟩ := List.getElem?_eq_some_iff.1 h
  unfold someW
  rw [List.getElem?_append_right (by simp; omega)]
  simp
  rw [show i - min i L.length = 0 by omega]
  simp [hi]
theorem someW_next {s : St7} {L : List Str} {i : Nat} {f : Str} (h : L[i]? = some f) : (someW s L i).set i (wdT f s) = someW s L (i + 1) := by
  obtain ⟨hi, rfl⟩ := List.getElem?_eq_some_iff.1 h
  unfold someW
  rw [List.take_add_one, List.getElem?_eq_getElem hi, List.drop_eq_getElem_cons hi]
  have hl : ((L.take i).map fun f => wdT f s).length = i := by simp; omega
  have := Lib.set_mid ((L.take i).map fun f => wdT f s) L[i] (wdT L[i] s) (L.drop (i + 1))
  rw [hl] at this
  rw [this, List.map_append, List.append_assoc]
  rfl

set_option maxRecDepth 100000 in
set_option maxHeartbeats 1000000 in
theorem line_any {w : World} (s : St7) (b e : Sl) (h : Rt s) (hg : GlobT w) :
    Calls Tryz.prog 35 #[.agg (stAgg s b e)] w fun e w' => e = .returned (.string (mkB (joinT (lineT s)))) ∧ Keeps (fun _ => False) w w' := by
  have hk := h.k
  obtain ⟨k, hkk⟩ : ∃ k : Nat, s.k = (k : Int) := ⟨s.k.toNat, by omega⟩
  have k0 : 0 < k := by omega
  have k17 : k < 17 := by omega
  have hkI : (k : Int) < 17 := by omega
  obtain ⟨m, hm⟩ : ∃ m, (fmW k).length = m := ⟨_, rfl⟩
  have m5 : m ≤ 5 := by rw [← hm]; exact (frm_len k k17).2
  have HG := Lib.hid hg
  have HB := Lib.hid (rt_bd h)
  have HL : Hid ((fmW k).map (fun f => wdT f s) = lineT s) := Lib.hid (by have := wd_line h; rw [hkk, Int.toNat_natCast] at this; exact this)
  have HM := Lib.hid hm
  have HO : Hid (∀ x ∈ lineT s, x.length ≤ 50000) := Lib.hid (by
    intro x hx
    unfold lineT at hx
    rcases List.mem_cons.1 hx with rfl | hx
    · have : ∀ j, j < 17 → (kindT.getD j []).length ≤ 6 := by decide
      have := this s.k.toNat (by omega)
      omega
    · obtain ⟨f, _, rfl⟩ := List.mem_map.1 hx
      have := word_few s f
      omega)
  have CF := Lib.hid (fun V (q : Keeps (fun _ => False) w V) => fields_w (w := V) k k0 k17 (HG.out.keeps q id))
  rw [hm] at CF
  have F1 : ∀ o1, (w.alloc o1).cell? ⟨1, k, none⟩ = some (.string (mkB (frmB k))) := fun o1 => cell_keeps (hg.t.frm k k17) ((Keeps.refl _ w).alloc _)
  obtain ⟨ob, nb, cb⟩ := b
  obtain ⟨oe, ne, ce⟩ := e
  have CW := Lib.hid (fun V (q : Keeps (fun _ => False) w V) f => word_any (w := V) f s (ob, nb, cb) (oe, ne, ce) HB.out (HG.out.keeps q id))
  obtain ⟨W1, hW1⟩ : ∃ V, V = w.alloc (.cells #[.int .i64 (k : Int), .int .i64 s.c, .int .i64 s.r, .int .i64 s.ar, .int .i64 s.an, .int .i64 s.br, .int .i64 s.bn, .slice ob nb cb, .slice oe ne ce] 45) := ⟨_, rfl⟩
  have K1 := Lib.hid (show Keeps (fun _ => False) w W1 by rw [hW1]; exact (Keeps.refl _ w).alloc _)
  have B1 := Lib.hid (show Whole W1 w.heap.size 45 (stAgg s (ob, nb, cb) (oe, ne, ce)) by rw [hW1]; simp only [stAgg, slv]; rw [hkk]; exact Whole.made w _ _)
  have hW1' := Lib.hid hW1
  have hkk' := Lib.hid hkk
  simp only [stAgg, slv] at CW ⊢
  rw [hkk] at CW ⊢
  clear h hg hk hm hW1 k0 k17 hkk
  go_enter Tryz.func35, Tryz.ntmps35
  go_wp2_with fail
  rw [← hW1'.out]
  clear F1
  refine (CF.out W1 K1.out).mono ?_
  rintro e w2 ⟨rfl, hF, hK⟩
  have K2 := Lib.hid (K1.out.trans hK fun _ _ => id)
  have B2 := Lib.hid (B1.out.keeps hK id)
  obtain ⟨fb, hfb⟩ : ∃ fb, W1.heap.size = fb := ⟨_, rfl⟩
  rw [hfb] at hF ⊢
  have hlt := Lib.hid (show w.heap.size < fb by rw [← hfb]; exact B1.out.lt)
  have F2 : Hid (Whole w2 fb 9 (((someW s (fmW k) 0).map fun x => Value.string (mkB x)).toArray)) := Lib.hid (by unfold someW; simpa using hF)
  clear hF hK CF hfb
  go_wp2_with fail
  go_loopw [13] (fun iv wr => ∃ (i : Nat), iv = .int .i64 (i : Int) ∧ i ≤ m ∧ Whole wr fb 9 (((someW s (fmW k) i).map fun x => Value.string (mkB x)).toArray) ∧ Whole wr w.heap.size 45 (stAgg s (ob, nb, cb) (oe, ne, ce)) ∧ Keeps (fun _ => False) w wr) (fun iv _ => m - (intOf iv).toNat)
  case atStart => exact ⟨0, rfl, Nat.zero_le _, F2.out, B2.out, K2.out⟩
  case round =>
    obtain ⟨i, rfl, hi, hF, hB, hK⟩ := hrel
    have F3 := Lib.hid hF
    have B3 := Lib.hid hB
    have K3 := Lib.hid hK
    clear hF hB hK
    by_cases hlt' : i < m
    · have b1 : (i : Int) < (m : Int) := by omega
      obtain ⟨f, hf⟩ : ∃ f, (fmW k)[i]? = some f := ⟨_, List.getElem?_eq_getElem (by rw [HM.out]; exact hlt')⟩
      have hf' := Lib.hid hf
      have cf : wr.cell? ⟨fb, i, none⟩ = some (.string (mkB f)) := by
        rw [F3.out.at_ i]
        have := someW_at (s := s) hf
        simp [this]
      have e0 : wr.cell? ⟨w.heap.size, 0, none⟩ = some (.int .i64 (k : Int)) := by rw [B3.out.at_ 0, ← hkk'.out]; rfl
      have e1 : wr.cell? ⟨w.heap.size, 1, none⟩ = some (.int .i64 s.c) := B3.out.at_ 1
      have e2 : wr.cell? ⟨w.heap.size, 2, none⟩ = some (.int .i64 s.r) := B3.out.at_ 2
      have e3 : wr.cell? ⟨w.heap.size, 3, none⟩ = some (.int .i64 s.ar) := B3.out.at_ 3
      have e4 : wr.cell? ⟨w.heap.size, 4, none⟩ = some (.int .i64 s.an) := B3.out.at_ 4
      have e5 : wr.cell? ⟨w.heap.size, 5, none⟩ = some (.int .i64 s.br) := B3.out.at_ 5
      have e6 : wr.cell? ⟨w.heap.size, 6, none⟩ = some (.int .i64 s.bn) := B3.out.at_ 6
      have e7 : wr.cell? ⟨w.heap.size, 7, none⟩ = some (.slice ob nb cb) := B3.out.at_ 7
      have e8 : wr.cell? ⟨w.heap.size, 8, none⟩ = some (.slice oe ne ce) := B3.out.at_ 8
      have C3 := Lib.hid (CW.out wr K3.out f)
      clear hf
      go_wp2_with fail
      refine C3.out.mono ?_
      rintro e w4 ⟨rfl, hK⟩
      have K4 := Lib.hid (K3.out.trans hK fun _ _ => id)
      have B4 := Lib.hid (B3.out.keeps hK id)
      have F4 := Lib.hid (F3.out.keeps hK id)
      have g1 : w4.cell? ⟨fb, i, none⟩ = some (.string (mkB f)) := by
        rw [F4.out.at_ i]
        have := someW_at (s := s) hf'.out
        simp [this]
      have g2 : w4.frozen? ⟨fb, i, none⟩ = false := F4.out.free i
      clear hK C3 cf e0 e1 e2 e3 e4 e5 e6 e7 e8
      go_wp2_with fail
      obtain ⟨W5, hW5⟩ : ∃ V, V = w4.setCell ⟨fb, i, none⟩ (.string (mkB (wdT f s))) := ⟨_, rfl⟩
      have K5 := Lib.hid (show Keeps (fun _ => False) w W5 by rw [hW5]; exact K4.out.setCell (p := ⟨fb, i, none⟩) (fun h => by have := hlt.out; simp at h; omega) _)
      have B5 := Lib.hid (show Whole W5 w.heap.size 45 (stAgg s (ob, nb, cb) (oe, ne, ce)) by rw [hW5]; exact B4.out.far (p := ⟨fb, i, none⟩) (fun h => by have := hlt.out; simp at h; omega) _)
      have F5 : Hid (Whole W5 fb 9 (((someW s (fmW k) (i + 1)).map fun x => Value.string (mkB x)).toArray)) := Lib.hid (by
        rw [hW5, ← someW_next hf'.out]
        have := F4.out.set_ i (.string (mkB (wdT f s)))
        simpa [List.map_set] using this)
      rw [← hW5]
      clear hW5 g1 g2
      go_roundw
      case rel => exact ⟨i + 1, by go_num, by omega, F5.out, B5.out, K5.out⟩
      case measure => simp [intOf]; omega
    · obtain rfl : i = m := by omega
      have b1 : ¬ (i : Int) < (i : Int) := by omega
      have eL : someW s (fmW k) i = lineT s := by
        unfold someW
        rw [List.take_of_length_le (by rw [HM.out]; omega), List.drop_eq_nil_of_le (by rw [HM.out]; omega), List.append_nil, HL.out]
      have hne : lineT s ≠ [] := fun e => by unfold lineT at e; cases e
      have hlen : (lineT s).length = i := by rw [← eL, someW_len, HM.out]
      have CJ := Lib.hid (joins_any10b (w := wr) 0 (.slice (some ⟨fb, 0, none⟩) i i) (lineT s) (.inr ⟨hne, fb, Nat.zero_le _, by rw [hlen], fun j x hx => by
        have := F3.out.at_ j
        rw [eL] at this
        rw [this]
        simp [hx]⟩) HO.out (by rw [hlen]; omega))
      clear eL hlen hne
      go_wp2_with fail
      refine CJ.out.mono ?_
      rintro e w4 ⟨rfl, hK⟩
      have K4 := Lib.hid (K3.out.trans hK fun _ _ => id)
      clear hK CJ
      go_wp2_with fail
      go_ret
      exact ⟨rfl, K4.out⟩
end Go.Proofs.YtcdlchcmidfhiaaGreatDoor

namespace Go.Proofs.YtcdlchcmidfhiaaGreatDoor
open Go.RowKit Go.Maps Go.Extern.Stop Go.Stop Go.Extern

/-- A builder that has these bytes; B: it, and its bytes, lie from there on. -/
def Bd (B b : Nat) (l : Str) (w : World) : Prop := Lib.IsBuilderF 52 5 B b (Lib.byteCells l) w
/-- What stays when something is put into it. -/
structure Put (B b : Nat) (w w' : World) : Prop where
  below : Below B w w'
  oth : Lib.OthersKept 5 (some b) w w'
theorem Put.refl (B b : Nat) (w : World) : Put B b w w := ⟨Below.refl _ _, Lib.OthersKept.refl _ _ _⟩
theorem Put.trans {B b : Nat} {u v w : World} (h : Put B b u v) (k : Put B b v w) : Put B b u w := ⟨h.below.trans k.below, h.oth.trans k.oth⟩
theorem Put.size {B b : Nat} {w w' : World} (h : Put B b w w') : w.heap.size ≤ w'.heap.size := h.below.size
theorem oth_of {b : Option Nat} {w w' : World} (h : Keeps (fun _ => False) w w') : Lib.OthersKept 5 b w w' := fun k o hk _ _ => by
  rw [h.block k (Array.getElem?_eq_some_iff.1 hk).1 id]
  exact hk
theorem Put.of {B b : Nat} {w w' : World} (h : Keeps (fun _ => False) w w') (hB : B ≤ w.heap.size) : Put B b w w' := ⟨h.below hB fun _ _ => id, oth_of h⟩
theorem Put.keeps {B b : Nat} {w0 w w' : World} (h : Put B b w w') (k : Keeps (fun _ => False) w0 w) (hB : w0.heap.size ≤ B) : Keeps (fun _ => False) w0 w' :=
  ⟨h.below.os.trans k.os, h.below.tape.trans k.tape, h.below.output.trans k.output, Nat.le_trans k.size h.below.size, fun x hx _ => (h.below.block x (by omega)).trans (k.block x hx id)⟩
theorem Whole.put {B b : Nat} {w w' : World} {g : Nat} {t : TypeId} {cs : Array Value} (h : Whole w g t cs) (k : Put B b w w') (hg : g ≠ b) (ht : t ≠ 5) : Whole w' g t cs :=
  k.oth g _ h (fun e => hg (Option.some.inj e)) fun c fz e => by injection e with _ e _; exact ht e
theorem byte_app (l m : Str) : Lib.byteCells l ++ Lib.byteCells m = Lib.byteCells (l ++ m) := by simp [Lib.byteCells]
theorem Bd.lt {B b : Nat} {l : Str} {w : World} (h : Bd B b l w) : b < w.heap.size := by
  rcases h with ⟨_, v, hb, _⟩ | ⟨_, v, hb, _⟩
  · exact (Array.getElem?_eq_some_iff.1 hb).1
  · exact (Array.getElem?_eq_some_iff.1 hb).1
theorem Bd.ge {B b : Nat} {l : Str} {w : World} (h : Bd B b l w) : B ≤ b := by
  rcases h with ⟨h, _⟩ | ⟨h, _⟩
  · exact h
  · exact h

theorem ws_any {w : World} {B b : Nat} {l : Str} (h : Bd B b l w) (s : Str) (hl : l.length + s.length ≤ 10000000) (hB : B ≤ w.heap.size) :
    Calls Tryz.prog 22 #[.pointer (some ⟨b, 0, none⟩), .string (mkB s)] w fun e w' => ∃ v, e = .returned v ∧ Bd B b (l ++ s) w' ∧ Put B b w w' := by
  refine (Any.Builder_WriteString_k sh_lays166 sh_Builder_Extra_166 B b (Lib.byteCells l) (mkB s) w h (by rw [Lib.byteCells_length, mkB_size]; omega) hB).mono ?_
  rintro e w' ⟨rfl, h1, h2, h3⟩
  refine ⟨_, rfl, .inr ?_, h2, h3⟩
  rw [← byte_app]
  have e1 : Lib.strCells (mkB s) = Lib.byteCells s := by unfold Lib.strCells Lib.byteCells; rw [mkB_data]
  rw [← e1]
  exact h1
theorem wb_any {w : World} {B b : Nat} {l : Str} (h : Bd B b l w) (hl : l.length ≤ 10000000) (hB : B ≤ w.heap.size) :
    Calls Tryz.prog 23 #[.pointer (some ⟨b, 0, none⟩), .int .u8 10] w fun e w' => ∃ v, e = .returned v ∧ Bd B b (l ++ [10]) w' ∧ Put B b w w' := by
  refine (Any.Builder_WriteByte_k sh_lays167 sh_Builder_Extra_167 B b (Lib.byteCells l) 10 w h (by rw [Lib.byteCells_length]; omega) hB).mono ?_
  rintro e w' ⟨rfl, h1, h2, h3⟩
  refine ⟨_, rfl, .inr ?_, h2, h3⟩
  rw [← byte_app]
  exact h1
theorem bs_any {w : World} {B b : Nat} {l : Str} (h : Bd B b l w) (hB : B ≤ w.heap.size) :
    Calls Tryz.prog 25 #[.pointer (some ⟨b, 0, none⟩)] w fun e w' => e = .returned (.string (mkB l)) ∧ Below B w w' := by
  refine (Any.Builder_String_any_k sh_lays169 sh_Builder_Extra_169 B b l w h hB).mono ?_
  rintro e w' ⟨rfl, h1, h2, h3⟩
  exact ⟨rfl, h2⟩

theorem rep_two (k : Nat) : List.replicate (2 * k) (32 : UInt8) ++ [32, 32] = List.replicate (2 * (k + 1)) 32 := by
  rw [show 2 * (k + 1) = 2 * k + 2 by omega, ← List.replicate_append_replicate]
  rfl
set_option maxRecDepth 100000 in
set_option maxHeartbeats 1000000 in
/-- One line that is put. -/
theorem put_any {w : World} {B b : Nat} {l : Str} (h : Bd B b l w) (k : Nat) (hk : k ≤ 1000) (s : Str) (hl : l.length + s.length ≤ 9000000) (hB : B ≤ w.heap.size) :
    Calls Tryz.prog 21 #[.int .i64 (k : Int), .string (mkB s), .pointer (some ⟨b, 0, none⟩)] w fun e w' => e = .returned (.tuple #[]) ∧ Bd B b (l ++ (List.replicate (2 * k) 32 ++ s ++ [10])) w' ∧ Put B b w w' := by
  have H := Lib.hid h
  have CB : Hid (∀ (V : World) (m : Str), Bd B b m V → m.length ≤ 9010000 → B ≤ V.heap.size → Calls Tryz.prog 22 #[.pointer (some ⟨b, 0, none⟩), .string ⟨#[32, 32]⟩] V fun e w' => ∃ v, e = .returned v ∧ Bd B b (m ++ [32, 32]) w' ∧ Put B b V w') := Lib.hid fun V m hm q1 q2 => ws_any hm [32, 32] (by simp; omega) q2
  have CS := Lib.hid (fun V m (hm : Bd B b m V) (q : m.length + s.length ≤ 10000000) (q2 : B ≤ V.heap.size) => ws_any hm s q q2)
  have CE := Lib.hid (fun V m (hm : Bd B b m V) (q : m.length ≤ 10000000) (q2 : B ≤ V.heap.size) => wb_any hm q q2)
  have kI : (k : Int) ≤ 1000 := by omega
  clear h
  go_enter Tryz.func21, Tryz.ntmps21
  go_wp2_with fail
  go_loopw [6] (fun iv wr => ∃ (i : Nat), iv = .int .i64 (i : Int) ∧ i ≤ k ∧ Bd B b (l ++ List.replicate (2 * i) 32) wr ∧ Put B b w wr) (fun iv _ => k - (intOf iv).toNat)
  case atStart => exact ⟨0, rfl, Nat.zero_le _, by simpa using H.out, Put.refl _ _ _⟩
  case round =>
    obtain ⟨i, rfl, hi, hD, hP⟩ := hrel
    have hz := hP.size
    have D1 := Lib.hid hD
    have P1 := Lib.hid hP
    clear hD hP
    by_cases hlt : i < k
    · have b1 : (i : Int) < (k : Int) := by omega
      have C1 := Lib.hid (CB.out wr _ D1.out (by simp; omega) (by omega))
      go_wp2_with fail
      refine C1.out.mono ?_
      rintro e w3 ⟨v, rfl, hD, hP⟩
      have D3 : Hid (Bd B b (l ++ List.replicate (2 * (i + 1)) 32) w3) := Lib.hid (by rw [← rep_two, ← List.append_assoc]; exact hD)
      have P3 := Lib.hid (P1.out.trans hP)
      clear hD hP C1
      go_wp2_with fail
      go_roundw
      case rel => exact ⟨i + 1, by go_num, by omega, D3.out, P3.out⟩
      case measure => simp [intOf]; omega
    · obtain rfl : i = k := by omega
      have b1 : ¬ (i : Int) < (i : Int) := by omega
      have C1 := Lib.hid (CS.out wr _ D1.out (by simp; omega) (by omega))
      go_wp2_with fail
      refine C1.out.mono ?_
      rintro e w3 ⟨v, rfl, hD, hP⟩
      have C2 := Lib.hid (CE.out w3 _ hD (by simp; omega) (by have := hP.size; omega))
      have P3 := Lib.hid (P1.out.trans hP)
      clear hD hP C1
      go_wp2_with fail
      refine C2.out.mono ?_
      rintro e w4 ⟨v2, rfl, hD, hP⟩
      have D4 := Lib.hid hD
      have P4 := Lib.hid (P3.out.trans hP)
      clear hD hP C2
      go_wp2_with fail
      refine bodyPost_end (results_none rfl _ _ _) rfl ⟨rfl, ?_, P4.out⟩
      have := D4.out
      rw [List.append_assoc, List.append_assoc, ← List.append_assoc (List.replicate _ _)] at this
      exact this

theorem Bd.same {B b : Nat} {l : Str} {w w' : World} (h : Bd B b l w) (k : Keeps (fun _ => False) w w') : Bd B b l w' := by
  have go : ∀ p, Lib.BuilderAtF 52 5 B b p (Lib.byteCells l) w → Lib.BuilderAtF 52 5 B b p (Lib.byteCells l) w' := fun p ⟨h1, v, h2, h3, h4⟩ => by
    refine ⟨h1, v, (k.block b (Array.getElem?_eq_some_iff.1 h2).1 id).trans h2, ⟨h3.1, ?_⟩, h4⟩
    rcases h3.2 with q | ⟨g, cap, cur, fz, e1, e2, e3, e4⟩
    · exact .inl q
    · exact .inr ⟨g, cap, cur, fz, e1, e2, (k.block g (Array.getElem?_eq_some_iff.1 e3).1 id).trans e3, e4⟩
  rcases h with h | h
  · exact .inl (go _ h)
  · exact .inr (go _ h)
theorem txt_le (F : Fo) (i d : Nat) : (txt (F.upto i) d).length ≤ (txt F d).length := by
  have key : ∀ (l : List (St7 × Fo × Fo)) (i : Nat), (txt (Fo.ofItems (l.take i)) d).length ≤ (txt (Fo.ofItems l) d).length := fun l => by
    induction l with
    | nil => intro i; simp
    | cons x t ih =>
      intro i
      obtain ⟨s, B, E⟩ := x
      cases i with
      | zero => simp [Fo.ofItems, txt_nil]
      | succ i =>
        have h1 : ∀ R, Fo.cons s B E R = (Fo.cons s B E .nil).app R := fun R => rfl
        have := ih i
        rw [List.take_succ_cons]
        simp only [Fo.ofItems]
        rw [h1, h1 (Fo.ofItems t), txt_app, txt_app, List.length_append, List.length_append]
        omega
  have := key F.items i
  rwa [Fo.of_items] at this
theorem line_end (l ln : Str) (d : Nat) : l ++ (List.replicate d 32 ++ ln ++ [10]) = l ++ lineS (d, [ln]) := by simp [lineS, joinT]

set_option maxRecDepth 100000 in
set_option maxHeartbeats 4000000 in
theorem tell_any {w0 : World} (hg : GlobT w0) : ∀ (N : Nat) (F : Fo), F.size ≤ N → ∀ (w : World) (v : Value) (B b : Nat) (l : Str) (d : Nat), SlOf w0 v F → AllOk F → Keeps (fun _ => False) w0 w → w0.heap.size ≤ B → Bd B b l w → B ≤ w.heap.size → d + F.deep ≤ 900 → l.length + (txt F (2 * d)).length ≤ 8000000 →
    Calls Tryz.prog 20 #[v, .int .i64 (d : Int), .func (.func 21) #[] #[.pointer (some ⟨b, 0, none⟩)]] w fun e w' => e = .returned (.tuple #[]) ∧ Bd B b (l ++ txt F (2 * d)) w' ∧ Put B b w w' := by
  intro N
  induction N using Nat.strongRecOn with
  | _ N ih =>
    intro F hN w v B b l d h hok hK0 hB hD hBw hd few
    have it := Lib.hid (fun i (hi : i < F.len) => h.item hi)
    obtain ⟨a, c, rfl, hfit⟩ := h.fit
    have IH := Lib.hid (fun G (hG : G.size < F.size) (hG2 : 1 + G.deep ≤ F.deep) (V : World) (q : Value) (m : Str) (hq : SlOf w0 q G) (ho : AllOk G) (k : Keeps (fun _ => False) w0 V) (hm : Bd B b m V) (hz : B ≤ V.heap.size) (hl : m.length + (txt G (2 * d + 2)).length ≤ 8000000) => by
      have := ih G.size (by omega) G (Nat.le_refl _) V q B b m (d + 1) hq ho k hB hm hz (by omega)
      rw [show 2 * (d + 1) = 2 * d + 2 by omega] at this
      exact this hl)
    have PU := Lib.hid (fun V (m ln : Str) (hm : Bd B b m V) (q : m.length + ln.length ≤ 9000000) (hz : B ≤ V.heap.size) => put_any hm d (by omega) ln q hz)
    have HG := Lib.hid hg
    have OK := Lib.hid hok
    obtain ⟨n, hn⟩ : ∃ n, F.len = n := ⟨_, rfl⟩
    rw [hn] at hfit it
    have hn' := Lib.hid (show F.items.length = n from hn)
    have few' := Lib.hid few
    have wd : IntKind.i64.wrap ((d : Int) + 1) = ((d + 1 : Nat) : Int) := by rw [show (d : Int) + 1 = ((d + 1 : Nat) : Int) by omega]; exact IntWalk.i64_in _ (by omega)
    have D0 := Lib.hid hD
    have K0 := Lib.hid hK0
    have EP : ∀ args V, (callFunc 21 args).run Tryz.prog V = .ok (.enter 21 args) V := enters_of Tryz.func21 (by kernel_rfl) rfl
    have hnI : (n : Int) ≤ 9223372036854775807 := by unfold maxLen at hfit; omega
    clear ih h hn hK0 few hN hok hg hD
    rw [show F.len = n from hn'.out]
    go_enter Tryz.func20, Tryz.ntmps20
    go_wp2_with fail
    go_loopw [10] (fun iv wr => ∃ (i : Nat), iv = .int .i64 i ∧ i ≤ n ∧ Bd B b (l ++ txt (F.upto i) (2 * d)) wr ∧ Put B b w wr) (fun iv _ => n - (intOf iv).toNat)
    case atStart => exact ⟨0, rfl, Nat.zero_le _, by rw [Fo.upto_zero, txt_nil, List.append_nil]; exact D0.out, Put.refl _ _ _⟩
    case round =>
      obtain ⟨i, rfl, hi, hD, hP⟩ := hrel
      have D1 := Lib.hid hD
      have P1 := Lib.hid hP
      have hK := hP.keeps K0.out hB
      have hz := hP.size
      by_cases hlt : i < n
      · have b1 : (i : Int) < (n : Int) := by omega
        obtain ⟨b', o, c', s, G, E, hv, hx, hat⟩ := it.out i hlt
        injection hv with hv _ hc
        subst hv
        subst hc
        obtain ⟨h7, ⟨vB, cB, oB⟩, ⟨vE, cE, oE⟩⟩ := hat
        have sz := Fo.item_size hx
        have dp := Fo.item_deep hx
        have tu := Lib.hid (txt_upto hx (2 * d))
        have t1 := Lib.hid (txt_one s G E (2 * d))
        have tl := Lib.hid (show (txt (F.upto (i + 1)) (2 * d)).length ≤ (txt F (2 * d)).length from txt_le F (i + 1) (2 * d))
        obtain ⟨o1, o2, o3, o4, o5⟩ := ok_item OK.out hx
        obtain ⟨xB, rfl, -⟩ := oB.plain
        obtain ⟨xE, rfl, xl⟩ := oE.plain
        have f7 := (hK.cell (cell_lt cB) id).trans cB
        have f8 := (hK.cell (cell_lt cE) id).trans cE
        have g7 := h7.keeps hK fun _ _ => id
        have f0 := g7.k
        have f1 := g7.c
        have f2 := g7.r
        have f3 := g7.ar
        have f4 := g7.an
        have f5 := g7.br
        have f6 := g7.bn
        have IB := Lib.hid (IH.out G (by omega) dp.1)
        have IE := Lib.hid (IH.out E (by omega) dp.2)
        have LI := Lib.hid (fun V (k : Keeps (fun _ => False) w0 V) => line_any (w := V) s xB xE o1 (HG.out.keeps k id))
        have oB := Lib.hid oB
        have oE := Lib.hid oE
        have rt := o1
        have hk := o1.k
        obtain ⟨kn, hkn⟩ : ∃ k : Nat, s.k = (k : Int) := ⟨s.k.toNat, by omega⟩
        have hkn' := Lib.hid hkn
        have CO := Lib.hid (fun V (k : Keeps (fun _ => False) w0 V) => opens_any (w := V) kn (by omega) (by omega) (HG.out.keeps k id))
        obtain ⟨m, hm⟩ : ∃ m, l ++ txt (F.upto i) (2 * d) = m := ⟨_, rfl⟩
        rw [hm] at D1
        obtain ⟨ln, hln⟩ : ∃ ln, joinT (lineT s) = ln := ⟨_, rfl⟩
        have eL : lineS (2 * d, lineT s) = List.replicate (2 * d) 32 ++ ln ++ [10] := by rw [← hln]; rfl
        have FIN0 : Hid (isBlk s.k = false → l ++ txt (F.upto (i + 1)) (2 * d) = m ++ (List.replicate (2 * d) 32 ++ ln ++ [10])) := Lib.hid fun q => by
          rw [tu.out, t1.out, ← List.append_assoc, hm, q, eL, if_neg (by simp), List.append_nil]
        have FIN1 : Hid (isBlk s.k = true → l ++ txt (F.upto (i + 1)) (2 * d) = m ++ (List.replicate (2 * d) 32 ++ ln ++ [10]) ++ txt G (2 * d + 2) ++ elseT E (2 * d) ++ (List.replicate (2 * d) 32 ++ [125] ++ [10])) := Lib.hid fun q => by
          rw [tu.out, t1.out, ← List.append_assoc, hm, q, eL, if_pos rfl]
          simp
        have TOT := Lib.hid (show (l ++ txt (F.upto (i + 1)) (2 * d)).length ≤ 8000000 by rw [List.length_append]; have := tl.out; have := few'.out; omega)
        have FEW0 : Hid (m.length + ln.length + 1 ≤ 8000000) := Lib.hid (by
          have h1 := TOT.out
          rw [tu.out, t1.out, eL, ← List.append_assoc, hm] at h1
          simp at h1
          omega)
        have FEW1 : Hid (isBlk s.k = true → (m ++ (List.replicate (2 * d) 32 ++ ln ++ [10])).length + (txt G (2 * d + 2)).length + (elseT E (2 * d)).length + 2 ≤ 8000000) := Lib.hid fun q => by
          have h1 := TOT.out
          rw [FIN1.out q] at h1
          simp at h1 ⊢
          omega
        have K1 := Lib.hid hK
        have Hz := Lib.hid hz
        have hbs : b < wr.heap.size := D1.out.lt
        have hsb : wr.heap.size ≠ b := by omega
        have hsb' := Lib.hid hsb
        have xl' := Lib.hid xl
        have o3' := Lib.hid o3
        have OG := Lib.hid o4
        have OE := Lib.hid o5
        obtain ⟨gB, nB, kB⟩ := xB
        obtain ⟨gE, nE, kE⟩ := xE
        obtain ⟨W1, hW1⟩ : ∃ V, V = wr.alloc (.cells #[.int .i64 s.k, .int .i64 s.c, .int .i64 s.r, .int .i64 s.ar, .int .i64 s.an, .int .i64 s.br, .int .i64 s.bn, .slice gB nB kB, .slice gE nE kE] 45) := ⟨_, rfl⟩
        have J1 := Lib.hid (show Keeps (fun _ => False) wr W1 by rw [hW1]; exact (Keeps.refl _ wr).alloc _)
        have S1 := Lib.hid (show Whole W1 wr.heap.size 45 (stAgg s (gB, nB, kB) (gE, nE, kE)) by rw [hW1]; exact Whole.made wr _ _)
        have L1 := Lib.hid (LI.out W1 (hK.trans J1.out fun _ _ => id))
        have hW1' := Lib.hid hW1
        rw [hln] at L1
        clear hD hP hK hz h7 cB cE hx g7 sz dp hkn hW1 xl o1 o2 o3 o4 o5 rt hk hm hln eL hsb
        simp only [slv] at f7 f8
        simp only [stAgg, slv] at L1
        go_wp2_with fail
        rw [← hW1'.out]
        refine L1.out.mono ?_
        rintro e w2 ⟨rfl, hK⟩
        have J2 := Lib.hid (J1.out.trans hK fun _ _ => id)
        have S2 := Lib.hid (S1.out.keeps hK id)
        have D2 := Lib.hid (D1.out.same J2.out)
        have Q2 := Lib.hid (Put.of (b := b) J2.out (Nat.le_trans hBw Hz.out))
        have C2 := Lib.hid (PU.out w2 m ln D2.out (by have := FEW0.out; omega) (Nat.le_trans hBw (Nat.le_trans Hz.out J2.out.size)))
        clear hK L1 f0 f1 f2 f3 f4 f5 f6 f7 f8
        go_wp2_with fail
        refine C2.out.mono ?_
        rintro e w3 ⟨rfl, hD, hP⟩
        have Q3 := Lib.hid (Q2.out.trans hP)
        have S3 := Lib.hid (S2.out.put hP hsb'.out (by decide))
        have D3 := Lib.hid hD
        have K3 := Lib.hid (Q3.out.keeps K1.out hB)
        have CO3 := Lib.hid (CO.out w3 K3.out)
        have c0 : w3.cell? ⟨wr.heap.size, 0, none⟩ = some (.int .i64 (kn : Int)) := by rw [S3.out.at_ 0, ← hkn'.out]; rfl
        have z3 := Lib.hid (Nat.le_trans hBw (Nat.le_trans Hz.out Q3.out.size))
        clear hD hP C2
        go_wp2_with fail
        refine CO3.out.mono ?_
        rintro e w' ⟨rfl, hw'⟩
        rw [hw']
        clear hw' CO3 c0
        rw [← hkn'.out]
        cases hb : isBlk s.k with
        | false =>
          have FE := Lib.hid (FIN0.out hb)
          clear hb
          go_wp2_with fail
          go_roundw
          case rel => exact ⟨i + 1, by go_num, by omega, by rw [FE.out]; exact D3.out, P1.out.trans Q3.out⟩
          case measure => simp [intOf]; omega
        | true =>
          have FE := Lib.hid (FIN1.out hb)
          have FW := Lib.hid (FEW1.out hb)
          have c7 : w3.cell? ⟨wr.heap.size, 7, none⟩ = some (.slice gB nB kB) := S3.out.at_ 7
          have CB := Lib.hid (IB.out w3 (.slice gB nB kB) _ oB.out OG.out K3.out D3.out z3.out (by have := FW.out; omega))
          clear hb
          go_wp2_with fail
          refine CB.out.mono ?_
          rintro e w4 ⟨rfl, hD, hP⟩
          have Q4 := Lib.hid (Q3.out.trans hP)
          have S4 := Lib.hid (S3.out.put hP hsb'.out (by decide))
          have D4 := Lib.hid hD
          have K4 := Lib.hid (Q4.out.keeps K1.out hB)
          have z4 := Lib.hid (Nat.le_trans hBw (Nat.le_trans Hz.out Q4.out.size))
          have c8 : w4.cell? ⟨wr.heap.size, 8, none⟩ = some (.slice gE nE kE) := S4.out.at_ 8
          clear hD hP CB c7
          by_cases hE : nE = 0
          · have eN : E = .nil := by
              have h0 : nE = E.len := xl'.out
              cases E with
              | nil => rfl
              | cons a b c d => simp [Fo.len, Fo.items] at h0; omega
            have eT : elseT E (2 * d) = [] := by rw [eN]; rfl
            have C5 := Lib.hid (PU.out w4 _ [125] D4.out (by have := FW.out; rw [List.length_append]; simp at this ⊢; omega) z4.out)
            have FE' := Lib.hid FE.out
            rw [eT, List.append_nil] at FE'
            have b2 : ¬ (0 : Int) < (nE : Int) := by omega
            clear eN eT
            subst hE
            go_wp2_with fail
            refine C5.out.mono ?_
            rintro e w5 ⟨rfl, hD, hP⟩
            have Q5 := Lib.hid (Q4.out.trans hP)
            have D5 := Lib.hid hD
            clear hD hP C5
            go_wp2_with fail
            go_roundw
            case rel => exact ⟨i + 1, by go_num, by omega, by rw [FE'.out]; exact D5.out, P1.out.trans Q5.out⟩
            case measure => simp [intOf]; omega
          · have b2 : (0 : Int) < (nE : Int) := by omega
            have eT : elseT E (2 * d) = List.replicate (2 * d) 32 ++ [125, 32, 101, 108, 115, 101, 32, 123] ++ [10] ++ txt E (2 * d + 2) := by
              have h0 : nE = E.len := xl'.out
              cases E with
              | nil => simp [Fo.len, Fo.items] at h0; omega
              | cons a b c d => simp [elseT]
            have FE' := Lib.hid FE.out
            have FW' := Lib.hid FW.out
            rw [eT] at FE' FW'
            have C5 := Lib.hid (PU.out w4 _ [125, 32, 101, 108, 115, 101, 32, 123] D4.out (by have := FW'.out; rw [List.length_append]; simp at this ⊢; omega) z4.out)
            clear eT hE
            go_wp2_with fail
            refine C5.out.mono ?_
            rintro e w5 ⟨rfl, hD, hP⟩
            have Q5 := Lib.hid (Q4.out.trans hP)
            have S5 := Lib.hid (S4.out.put hP hsb'.out (by decide))
            have D5 := Lib.hid hD
            have K5 := Lib.hid (Q5.out.keeps K1.out hB)
            have z5 := Lib.hid (Nat.le_trans hBw (Nat.le_trans Hz.out Q5.out.size))
            have c9 : w5.cell? ⟨wr.heap.size, 8, none⟩ = some (.slice gE nE kE) := S5.out.at_ 8
            have C6 := Lib.hid (IE.out w5 (.slice gE nE kE) _ oE.out OE.out K5.out D5.out z5.out (by have := FW'.out; simp at this ⊢; omega))
            clear hD hP C5 c8
            go_wp2_with fail
            refine C6.out.mono ?_
            rintro e w6 ⟨rfl, hD, hP⟩
            have Q6 := Lib.hid (Q5.out.trans hP)
            have D6 := Lib.hid hD
            have z6 := Lib.hid (Nat.le_trans hBw (Nat.le_trans Hz.out Q6.out.size))
            have C7 := Lib.hid (PU.out w6 _ [125] D6.out (by have := FW'.out; simp at this ⊢; omega) z6.out)
            clear hD hP C6 c9
            go_wp2_with fail
            refine C7.out.mono ?_
            rintro e w7 ⟨rfl, hD, hP⟩
            have Q7 := Lib.hid (Q6.out.trans hP)
            have D7 := Lib.hid hD
            clear hD hP C7
            go_wp2_with fail
            go_roundw
            case rel => exact ⟨i + 1, by go_num, by omega, by rw [FE'.out]; have := D7.out; simp only [List.append_assoc] at this ⊢; exact this, P1.out.trans Q7.out⟩
            case measure => simp [intOf]; omega
      · obtain rfl : i = n := by omega
        have b1 : ¬ (i : Int) < (i : Int) := by omega
        have ul : F.upto i = F := Fo.upto_all (by unfold Fo.len; rw [hn'.out]; exact Nat.le_refl _)
        rw [ul] at D1
        clear hD hP ul hK
        go_wp2_with fail
        exact bodyPost_end (results_none rfl _ _ _) rfl ⟨rfl, D1.out, P1.out⟩
end Go.Proofs.YtcdlchcmidfhiaaGreatDoor
