/-
  take: a word for a word of a form, by contract.
  formed, statement: a line's words as a statement, by contract.
  statement: a line's words as a statement, by contract.
-/
import Derived.Test.YtcdlchcmidfhiaaGreatDoorTpRead
import Derived.Test.YtcdlchcmidfhiaaGreatDoorTpStmt

namespace Go.Proofs.YtcdlchcmidfhiaaGreatDoor
open Go.RowKit Go.Maps Go.Extern.Stop Go.Stop Go.Extern

/-- A statement without blocks, its cells. -/
def stC (s : St7) : Array Value := #[.int .i64 s.k, .int .i64 s.c, .int .i64 s.r, .int .i64 s.ar, .int .i64 s.an, .int .i64 s.br, .int .i64 s.bn, .slice none 0 0, .slice none 0 0]

set_option maxRecDepth 100000 in
set_option maxHeartbeats 1000000 in
theorem take_c {w : World} (W : Str) (s : St7) (b : Nat) (hW : W.length ≤ 20000) (h : Whole w b 45 (stC s)) (hg : GlobT w) :
    Calls Tryz.prog 83 #[.string (mkB [67]), .string (mkB W), .pointer (some ⟨b, 0, none⟩)] w fun e w' => e = .returned (.bool (tkB [67] W)) ∧ Whole w' b 45 (stC (tkS [67] W s)) ∧ Keeps (fun k => k = b) w w' := by
  have CR := Lib.hid (read_any (w := w) W hW hg)
  have H := Lib.hid h
  have hlt := Lib.hid h.lt
  have eB : tkB [67] W = (rdOk W && cnt W) := rfl
  have eS : tkS [67] W s = { s with c := rdN W } := rfl
  rw [eB, eS]
  
  obtain ⟨R, hR⟩ : ∃ R : Nat, rdR W = R := ⟨_, rfl⟩
  obtain ⟨N, hN⟩ : ∃ N, rdN W = N := ⟨_, rfl⟩
  obtain ⟨ok, hok⟩ : ∃ ok, rdOk W = ok := ⟨_, rfl⟩
  have R0 : (0 : Int) ≤ (R : Int) := by omega
  have ec : cnt W = ((R == 0) && decide (0 ≤ N)) := by unfold cnt; rw [hR, hN]
  rw [hR, hN, hok] at CR
  try simp only [hN, hok, ec]
  clear h hg hN hok eB eS ec hR
  have hl := mkB_list [67]
  go_enter Tryz.func83, Tryz.ntmps83
  go_wp2_with fail
  refine CR.out.mono ?_
  rintro e w1 ⟨rfl, hK⟩
  have H1 := Lib.hid (H.out.keeps hK id)
  have K1 := Lib.hid (hK.mono (T := fun k => k = b) fun _ _ h => h.elim)
  have hb : b < w1.heap.size := by have := hlt.out; have := hK.size; omega
  have hbn : b ≠ w1.heap.size := by omega
  clear hK CR
  have g1 : w1.cell? ⟨b, 1, none⟩ = some (.int .i64 s.c) := H1.out.at_ 1
  have f1 : w1.frozen? ⟨b, 1, none⟩ = false := H1.out.free 1
  rcases Nat.eq_zero_or_pos R with hz | hz <;> cases ok
  all_goals (first | subst hz | have hz' : ((R : Int) == 0) = false := by simp; omega)
  all_goals go_wp2_with fail
  all_goals go_ret
  all_goals exact ⟨by first | (simp; done) | (simp; omega), by first | exact ((H1.out.set_ 1 _).alloc _) | exact ((H1.out.alloc _).set_ 1 _), by first | exact ((K1.out.setCell (p := ⟨b, 1, none⟩) (fun _ => rfl) _).alloc _) | exact ((K1.out.alloc _).setCell (p := ⟨b, 1, none⟩) (fun _ => rfl) _)⟩

set_option maxRecDepth 100000 in
set_option maxHeartbeats 1000000 in
theorem take_r {w : World} (W : Str) (s : St7) (b : Nat) (hW : W.length ≤ 20000) (h : Whole w b 45 (stC s)) (hg : GlobT w) :
    Calls Tryz.prog 83 #[.string (mkB [82]), .string (mkB W), .pointer (some ⟨b, 0, none⟩)] w fun e w' => e = .returned (.bool (tkB [82] W)) ∧ Whole w' b 45 (stC (tkS [82] W s)) ∧ Keeps (fun k => k = b) w w' := by
  have CR := Lib.hid (read_any (w := w) W hW hg)
  have H := Lib.hid h
  have hlt := Lib.hid h.lt
  have eB : tkB [82] W = (rdOk W && decide (0 < rdR W) && (rdN W == 0)) := rfl
  have eS : tkS [82] W s = { s with r := rdR W } := rfl
  rw [eB, eS]
  
  obtain ⟨R, hR⟩ : ∃ R : Nat, rdR W = R := ⟨_, rfl⟩
  obtain ⟨N, hN⟩ : ∃ N, rdN W = N := ⟨_, rfl⟩
  obtain ⟨ok, hok⟩ : ∃ ok, rdOk W = ok := ⟨_, rfl⟩
  have R0 : (0 : Int) ≤ (R : Int) := by omega
  have e0 : W = W := rfl
  rw [hR, hN, hok] at CR
  try simp only [hR, hN, hok]
  clear h hg hN hok eB eS e0 hR
  have hl := mkB_list [82]
  go_enter Tryz.func83, Tryz.ntmps83
  go_wp2_with fail
  refine CR.out.mono ?_
  rintro e w1 ⟨rfl, hK⟩
  have H1 := Lib.hid (H.out.keeps hK id)
  have K1 := Lib.hid (hK.mono (T := fun k => k = b) fun _ _ h => h.elim)
  have hb : b < w1.heap.size := by have := hlt.out; have := hK.size; omega
  have hbn : b ≠ w1.heap.size := by omega
  clear hK CR
  have g2 : w1.cell? ⟨b, 2, none⟩ = some (.int .i64 s.r) := H1.out.at_ 2
  have f2 : w1.frozen? ⟨b, 2, none⟩ = false := H1.out.free 2
  rcases Nat.eq_zero_or_pos R with hz | hz <;> cases ok
  all_goals (first | (subst hz; have hz' : ¬ (0 : Int) < ((0 : Nat) : Int) := by omega) | have hz' : (0 : Int) < (R : Int) := by omega)
  all_goals go_wp2_with fail
  all_goals go_ret
  all_goals exact ⟨by first | (simp; done) | (simp; omega), by first | exact ((H1.out.set_ 2 _).alloc _) | exact ((H1.out.alloc _).set_ 2 _), by first | exact ((K1.out.setCell (p := ⟨b, 2, none⟩) (fun _ => rfl) _).alloc _) | exact ((K1.out.alloc _).setCell (p := ⟨b, 2, none⟩) (fun _ => rfl) _)⟩

set_option maxRecDepth 100000 in
set_option maxHeartbeats 1000000 in
theorem take_n {w : World} (W : Str) (s : St7) (b : Nat) (hW : W.length ≤ 20000) (h : Whole w b 45 (stC s)) (hg : GlobT w) :
    Calls Tryz.prog 83 #[.string (mkB [78]), .string (mkB W), .pointer (some ⟨b, 0, none⟩)] w fun e w' => e = .returned (.bool (tkB [78] W)) ∧ Whole w' b 45 (stC (tkS [78] W s)) ∧ Keeps (fun k => k = b) w w' := by
  have CR := Lib.hid (read_any (w := w) W hW hg)
  have H := Lib.hid h
  have hlt := Lib.hid h.lt
  have eB : tkB [78] W = (rdOk W && cnt W) := rfl
  have eS : tkS [78] W s = { s with ar := rdR W, an := rdN W } := rfl
  rw [eB, eS]
  
  obtain ⟨R, hR⟩ : ∃ R : Nat, rdR W = R := ⟨_, rfl⟩
  obtain ⟨N, hN⟩ : ∃ N, rdN W = N := ⟨_, rfl⟩
  obtain ⟨ok, hok⟩ : ∃ ok, rdOk W = ok := ⟨_, rfl⟩
  have R0 : (0 : Int) ≤ (R : Int) := by omega
  have ec : cnt W = ((R == 0) && decide (0 ≤ N)) := by unfold cnt; rw [hR, hN]
  rw [hR, hN, hok] at CR
  try simp only [hR, hN, hok, ec]
  clear h hg hN hok eB eS ec hR
  have hl := mkB_list [78]
  go_enter Tryz.func83, Tryz.ntmps83
  go_wp2_with fail
  refine CR.out.mono ?_
  rintro e w1 ⟨rfl, hK⟩
  have H1 := Lib.hid (H.out.keeps hK id)
  have K1 := Lib.hid (hK.mono (T := fun k => k = b) fun _ _ h => h.elim)
  have hb : b < w1.heap.size := by have := hlt.out; have := hK.size; omega
  have hbn : b ≠ w1.heap.size := by omega
  clear hK CR
  have g3 : w1.cell? ⟨b, 3, none⟩ = some (.int .i64 s.ar) := H1.out.at_ 3
  have f3 : w1.frozen? ⟨b, 3, none⟩ = false := H1.out.free 3
  have g4 : w1.cell? ⟨b, 4, none⟩ = some (.int .i64 s.an) := H1.out.at_ 4
  have f4 : w1.frozen? ⟨b, 4, none⟩ = false := H1.out.free 4
  rcases Nat.eq_zero_or_pos R with hz | hz <;> cases ok
  all_goals (first | subst hz | have hz' : ((R : Int) == 0) = false := by simp; omega)
  all_goals go_wp2_with fail
  all_goals go_ret
  all_goals exact ⟨by first | (simp; done) | (simp; omega), by first | exact (((H1.out.set_ 3 _).set_ 4 _).alloc _) | exact (((H1.out.alloc _).set_ 3 _).set_ 4 _), by first | exact (((K1.out.setCell (p := ⟨b, 3, none⟩) (fun _ => rfl) _).setCell (p := ⟨b, 4, none⟩) (fun _ => rfl) _).alloc _) | exact (((K1.out.alloc _).setCell (p := ⟨b, 3, none⟩) (fun _ => rfl) _).setCell (p := ⟨b, 4, none⟩) (fun _ => rfl) _)⟩

set_option maxRecDepth 100000 in
set_option maxHeartbeats 1000000 in
theorem take_a {w : World} (W : Str) (s : St7) (b : Nat) (hW : W.length ≤ 20000) (h : Whole w b 45 (stC s)) (hg : GlobT w) :
    Calls Tryz.prog 83 #[.string (mkB [65]), .string (mkB W), .pointer (some ⟨b, 0, none⟩)] w fun e w' => e = .returned (.bool (tkB [65] W)) ∧ Whole w' b 45 (stC (tkS [65] W s)) ∧ Keeps (fun k => k = b) w w' := by
  have CR := Lib.hid (read_any (w := w) W hW hg)
  have H := Lib.hid h
  have hlt := Lib.hid h.lt
  have eB : tkB [65] W = rdOk W := rfl
  have eS : tkS [65] W s = { s with ar := rdR W, an := rdN W } := rfl
  rw [eB, eS]
  
  obtain ⟨R, hR⟩ : ∃ R : Nat, rdR W = R := ⟨_, rfl⟩
  obtain ⟨N, hN⟩ : ∃ N, rdN W = N := ⟨_, rfl⟩
  obtain ⟨ok, hok⟩ : ∃ ok, rdOk W = ok := ⟨_, rfl⟩
  have R0 : (0 : Int) ≤ (R : Int) := by omega
  have e0 : W = W := rfl
  rw [hR, hN, hok] at CR
  try simp only [hR, hN, hok]
  clear h hg hN hok eB eS e0 hR
  have hl := mkB_list [65]
  go_enter Tryz.func83, Tryz.ntmps83
  go_wp2_with fail
  refine CR.out.mono ?_
  rintro e w1 ⟨rfl, hK⟩
  have H1 := Lib.hid (H.out.keeps hK id)
  have K1 := Lib.hid (hK.mono (T := fun k => k = b) fun _ _ h => h.elim)
  have hb : b < w1.heap.size := by have := hlt.out; have := hK.size; omega
  have hbn : b ≠ w1.heap.size := by omega
  clear hK CR
  have g3 : w1.cell? ⟨b, 3, none⟩ = some (.int .i64 s.ar) := H1.out.at_ 3
  have f3 : w1.frozen? ⟨b, 3, none⟩ = false := H1.out.free 3
  have g4 : w1.cell? ⟨b, 4, none⟩ = some (.int .i64 s.an) := H1.out.at_ 4
  have f4 : w1.frozen? ⟨b, 4, none⟩ = false := H1.out.free 4
  rcases Nat.eq_zero_or_pos R with hz | hz
  all_goals (first | subst hz | have hz' : ((R : Int) == 0) = false := by simp; omega)
  all_goals go_wp2_with fail
  all_goals go_ret
  all_goals exact ⟨by first | (simp; done) | (simp; omega), by first | exact (((H1.out.set_ 3 _).set_ 4 _).alloc _) | exact (((H1.out.alloc _).set_ 3 _).set_ 4 _), by first | exact (((K1.out.setCell (p := ⟨b, 3, none⟩) (fun _ => rfl) _).setCell (p := ⟨b, 4, none⟩) (fun _ => rfl) _).alloc _) | exact (((K1.out.alloc _).setCell (p := ⟨b, 3, none⟩) (fun _ => rfl) _).setCell (p := ⟨b, 4, none⟩) (fun _ => rfl) _)⟩

set_option maxRecDepth 100000 in
set_option maxHeartbeats 1000000 in
theorem take_b {w : World} (W : Str) (s : St7) (b : Nat) (hW : W.length ≤ 20000) (h : Whole w b 45 (stC s)) (hg : GlobT w) :
    Calls Tryz.prog 83 #[.string (mkB [66]), .string (mkB W), .pointer (some ⟨b, 0, none⟩)] w fun e w' => e = .returned (.bool (tkB [66] W)) ∧ Whole w' b 45 (stC (tkS [66] W s)) ∧ Keeps (fun k => k = b) w w' := by
  have CR := Lib.hid (read_any (w := w) W hW hg)
  have H := Lib.hid h
  have hlt := Lib.hid h.lt
  have eB : tkB [66] W = rdOk W := rfl
  have eS : tkS [66] W s = { s with br := rdR W, bn := rdN W } := rfl
  rw [eB, eS]
  
  obtain ⟨R, hR⟩ : ∃ R : Nat, rdR W = R := ⟨_, rfl⟩
  obtain ⟨N, hN⟩ : ∃ N, rdN W = N := ⟨_, rfl⟩
  obtain ⟨ok, hok⟩ : ∃ ok, rdOk W = ok := ⟨_, rfl⟩
  have R0 : (0 : Int) ≤ (R : Int) := by omega
  have e0 : W = W := rfl
  rw [hR, hN, hok] at CR
  try simp only [hR, hN, hok]
  clear h hg hN hok eB eS e0 hR
  have hl := mkB_list [66]
  go_enter Tryz.func83, Tryz.ntmps83
  go_wp2_with fail
  refine CR.out.mono ?_
  rintro e w1 ⟨rfl, hK⟩
  have H1 := Lib.hid (H.out.keeps hK id)
  have K1 := Lib.hid (hK.mono (T := fun k => k = b) fun _ _ h => h.elim)
  have hb : b < w1.heap.size := by have := hlt.out; have := hK.size; omega
  have hbn : b ≠ w1.heap.size := by omega
  clear hK CR
  have g5 : w1.cell? ⟨b, 5, none⟩ = some (.int .i64 s.br) := H1.out.at_ 5
  have f5 : w1.frozen? ⟨b, 5, none⟩ = false := H1.out.free 5
  have g6 : w1.cell? ⟨b, 6, none⟩ = some (.int .i64 s.bn) := H1.out.at_ 6
  have f6 : w1.frozen? ⟨b, 6, none⟩ = false := H1.out.free 6
  rcases Nat.eq_zero_or_pos R with hz | hz
  all_goals (first | subst hz | have hz' : ((R : Int) == 0) = false := by simp; omega)
  all_goals go_wp2_with fail
  all_goals go_ret
  all_goals exact ⟨by first | (simp; done) | (simp; omega), by first | exact (((H1.out.set_ 5 _).set_ 6 _).alloc _) | exact (((H1.out.alloc _).set_ 5 _).set_ 6 _), by first | exact (((K1.out.setCell (p := ⟨b, 5, none⟩) (fun _ => rfl) _).setCell (p := ⟨b, 6, none⟩) (fun _ => rfl) _).alloc _) | exact (((K1.out.alloc _).setCell (p := ⟨b, 5, none⟩) (fun _ => rfl) _).setCell (p := ⟨b, 6, none⟩) (fun _ => rfl) _)⟩

set_option maxRecDepth 100000 in
set_option maxHeartbeats 1000000 in
theorem take_o {w : World} (f : Str) (n1 : f ≠ [67]) (n2 : f ≠ [82]) (n3 : f ≠ [78]) (n4 : f ≠ [65]) (n5 : f ≠ [66]) (W : Str) (s : St7) (b : Nat) (hW : W.length ≤ 20000) (h : Whole w b 45 (stC s)) (hg : GlobT w) :
    Calls Tryz.prog 83 #[.string (mkB f), .string (mkB W), .pointer (some ⟨b, 0, none⟩)] w fun e w' => e = .returned (.bool (tkB f W)) ∧ Whole w' b 45 (stC (tkS f W s)) ∧ Keeps (fun k => k = b) w w' := by
  have CR := Lib.hid (read_any (w := w) W hW hg)
  have H := Lib.hid h
  have hlt := Lib.hid h.lt
  have eB : tkB f W = (W == f) := by unfold tkB; rw [if_neg n1, if_neg n2, if_neg n3, if_neg n4, if_neg n5]
  have eS : tkS f W s = s := by unfold tkS; rw [if_neg n1, if_neg n2, if_neg n3, if_neg n4, if_neg n5]
  rw [eB, eS]
  
  obtain ⟨R, hR⟩ : ∃ R : Nat, rdR W = R := ⟨_, rfl⟩
  obtain ⟨N, hN⟩ : ∃ N, rdN W = N := ⟨_, rfl⟩
  obtain ⟨ok, hok⟩ : ∃ ok, rdOk W = ok := ⟨_, rfl⟩
  have R0 : (0 : Int) ≤ (R : Int) := by omega
  have e0 : W = W := rfl
  rw [hR, hN, hok] at CR
  clear hR
  clear h hg hN hok eB eS e0
  have hl := mkB_list f
  go_enter Tryz.func83, Tryz.ntmps83
  go_wp2_with fail
  refine CR.out.mono ?_
  rintro e w1 ⟨rfl, hK⟩
  have H1 := Lib.hid (H.out.keeps hK id)
  have K1 := Lib.hid (hK.mono (T := fun k => k = b) fun _ _ h => h.elim)
  have hb : b < w1.heap.size := by have := hlt.out; have := hK.size; omega
  have hbn : b ≠ w1.heap.size := by omega
  clear hK CR
  have m1 : (f == [67]) = false := beq_eq_false_iff_ne.2 n1
  have m2 : (f == [82]) = false := beq_eq_false_iff_ne.2 n2
  have m3 : (f == [78]) = false := beq_eq_false_iff_ne.2 n3
  have m4 : (f == [65]) = false := beq_eq_false_iff_ne.2 n4
  have m5 : (f == [66]) = false := beq_eq_false_iff_ne.2 n5
  clear n1 n2 n3 n4 n5
  rcases Nat.eq_zero_or_pos R with hz | hz
  all_goals (first | subst hz | have hz' : ((R : Int) == 0) = false := by simp; omega)
  all_goals go_wp2_with fail
  all_goals go_ret
  all_goals exact ⟨by simp [mkB_list], H1.out.alloc _, K1.out.alloc _⟩

theorem take_any {w : World} (f W : Str) (s : St7) (b : Nat) (hW : W.length ≤ 20000) (h : Whole w b 45 (stC s)) (hg : GlobT w) :
    Calls Tryz.prog 83 #[.string (mkB f), .string (mkB W), .pointer (some ⟨b, 0, none⟩)] w fun e w' => e = .returned (.bool (tkB f W)) ∧ Whole w' b 45 (stC (tkS f W s)) ∧ Keeps (fun k => k = b) w w' := by
  by_cases n1 : f = [67]
  · subst n1; exact take_c W s b hW h hg
  by_cases n2 : f = [82]
  · subst n2; exact take_r W s b hW h hg
  by_cases n3 : f = [78]
  · subst n3; exact take_n W s b hW h hg
  by_cases n4 : f = [65]
  · subst n4; exact take_a W s b hW h hg
  by_cases n5 : f = [66]
  · subst n5; exact take_b W s b hW h hg
  exact take_o f n1 n2 n3 n4 n5 W s b hW h hg
end Go.Proofs.YtcdlchcmidfhiaaGreatDoor

namespace Go.Proofs.YtcdlchcmidfhiaaGreatDoor
open Go.RowKit Go.Maps Go.Extern.Stop Go.Stop Go.Extern

/-- Strings, from a block's first cell on. -/
def StrsAt (w : World) (b : Nat) (ws : List Str) : Prop := ∀ (j : Nat) (x : Str), ws[j]? = some x → w.cell? ⟨b, j, none⟩ = some (.string (mkB x))
theorem StrsAt.keeps {w w' : World} {b : Nat} {ws : List Str} {S : Nat → Prop} (h : StrsAt w b ws) (k : Keeps S w w') (hS : ¬ S b) : StrsAt w' b ws :=
  fun j x hx => (World.cell?_of_block (w := w) (k.block _ (World.block_lt_of_cell? _ _ (h j x hx)) hS)).trans (h j x hx)
theorem frm_ascii : ∀ k, k < 17 → ∀ b ∈ frmB k, b.toNat < 128 := by decide
theorem frm_len : ∀ k, k < 17 → (frmB k).length ≤ 20 ∧ (fmW k).length ≤ 5 := by decide
theorem fields_any {w : World} (k : Nat) (h0 : 0 < k) (hk : k < 17) (hg : GlobT w) :
    Calls Tryz.prog 59 #[.string (mkB (frmB k))] w fun e w' => e = .returned (.slice (some ⟨w.heap.size, 0, none⟩) (fmW k).length (fmW k).length) ∧ StrsAt w' w.heap.size (fmW k) ∧ Keeps (fun _ => False) w w' := by
  have hl := (frm_len k hk).1
  have hf : Lib.fields (frmB k) = fmW k := by
    have := forms_fields k hk h0
    unfold frmB
    rw [if_neg (by omega)]
    exact this
  refine (sh_strings_Fields (mkB (frmB k)) w (by rw [mkB_size]; omega) (fun j b hb => by rw [mkB_data] at hb; exact frm_ascii k hk b (List.mem_of_getElem? hb)) hg.t.spc).mono ?_
  rintro e w' ⟨rfl, rfl⟩
  rw [mkB_data, hf]
  refine ⟨rfl, fun j x hx => ?_, (Keeps.refl _ w).alloc _⟩
  have hW := Whole.made w 9 ((fmW k).map fun l => Value.string ⟨l.toArray⟩).toArray
  rw [hW.at_ j]
  simp [hx]
  rfl
theorem frm_drop {fs ws : List Str} {i : Nat} {f W : Str} (hf : fs[i]? = some f) (hw : ws[i]? = some W) (s : St7) : frm (fs.drop i) (ws.drop i) s = if tkB f W then frm (fs.drop (i + 1)) (ws.drop (i + 1)) (tkS f W s) else none := by
  obtain ⟨h1, rfl⟩ := List.getElem?_eq_some_iff.1 hf
  obtain ⟨h2, rfl⟩ := List.getElem?_eq_some_iff.1 hw
  rw [List.drop_eq_getElem_cons h1, List.drop_eq_getElem_cons h2]
  rfl

theorem put9 {w : World} {b : Nat} {s : St7} (h : Whole w b 45 (stC s)) (u : St7) : Whole (((((((((w.setCell ⟨b, 0, none⟩ (.int .i64 u.k)).setCell ⟨b, 1, none⟩ (.int .i64 u.c)).setCell ⟨b, 2, none⟩ (.int .i64 u.r)).setCell ⟨b, 3, none⟩ (.int .i64 u.ar)).setCell ⟨b, 4, none⟩ (.int .i64 u.an)).setCell ⟨b, 5, none⟩ (.int .i64 u.br)).setCell ⟨b, 6, none⟩ (.int .i64 u.bn)).setCell ⟨b, 7, none⟩ (.slice none 0 0)).setCell ⟨b, 8, none⟩ (.slice none 0 0)) b 45 (stC u) := by
  have := ((((((((h.set_ 0 (.int .i64 u.k)).set_ 1 (.int .i64 u.c)).set_ 2 (.int .i64 u.r)).set_ 3 (.int .i64 u.ar)).set_ 4 (.int .i64 u.an)).set_ 5 (.int .i64 u.br)).set_ 6 (.int .i64 u.bn)).set_ 7 (.slice none 0 0)).set_ 8 (.slice none 0 0)
  simpa [stC] using this
theorem put9K {w0 w : World} {b : Nat} {S : Nat → Prop} (h : Keeps S w0 w) (u : St7) (hb : b < w0.heap.size → S b) : Keeps S w0 (((((((((w.setCell ⟨b, 0, none⟩ (.int .i64 u.k)).setCell ⟨b, 1, none⟩ (.int .i64 u.c)).setCell ⟨b, 2, none⟩ (.int .i64 u.r)).setCell ⟨b, 3, none⟩ (.int .i64 u.ar)).setCell ⟨b, 4, none⟩ (.int .i64 u.an)).setCell ⟨b, 5, none⟩ (.int .i64 u.br)).setCell ⟨b, 6, none⟩ (.int .i64 u.bn)).setCell ⟨b, 7, none⟩ (.slice none 0 0)).setCell ⟨b, 8, none⟩ (.slice none 0 0)) :=
  ((((((((h.setCell (p := ⟨b, 0, none⟩) hb _).setCell (p := ⟨b, 1, none⟩) hb _).setCell (p := ⟨b, 2, none⟩) hb _).setCell (p := ⟨b, 3, none⟩) hb _).setCell (p := ⟨b, 4, none⟩) hb _).setCell (p := ⟨b, 5, none⟩) hb _).setCell (p := ⟨b, 6, none⟩) hb _).setCell (p := ⟨b, 7, none⟩) hb _).setCell (p := ⟨b, 8, none⟩) hb _

set_option maxRecDepth 100000 in
set_option maxHeartbeats 1000000 in
theorem formed_any {w : World} (k : Nat) (h0 : 0 < k) (hk : k < 17) (ws : List Str) (b c : Nat) (h : StrsAt w b ws) (hl : ∀ x ∈ ws, x.length ≤ 20000) (hn : ws.length ≤ 30000) (hg : GlobT w) :
    Calls Tryz.prog 71 #[.int .i64 (k : Int), .slice (some ⟨b, 0, none⟩) ws.length c] w fun e w' => ∃ s ok, e = .returned (.tuple #[.agg (stC s), .bool ok]) ∧ fmd k ws = (if ok then some s else none) ∧ Keeps (fun _ => False) w w' := by
  obtain ⟨n, hnn⟩ : ∃ n, ws.length = n := ⟨_, rfl⟩
  obtain ⟨m, hm⟩ : ∃ m, (fmW k).length = m := ⟨_, rfl⟩
  have m5 : m ≤ 5 := by rw [← hm]; exact (frm_len k hk).2
  have HG := Lib.hid hg
  have HS := Lib.hid h
  have HN := Lib.hid hnn
  have HM := Lib.hid hm
  have HL := Lib.hid hl
  have hkI : (k : Int) < 17 := by omega
  have CF := Lib.hid (fun V (q : Keeps (fun _ => False) w V) => fields_any (w := V) k h0 hk (HG.out.keeps q id))
  rw [hm] at CF
  have F0 : w.cell? ⟨1, k, none⟩ = some (.string (mkB (frmB k))) := hg.t.frm k hk
  have F1 : ∀ o1 o2, ((w.alloc o1).alloc o2).cell? ⟨1, k, none⟩ = some (.string (mkB (frmB k))) := fun o1 o2 => cell_keeps F0 (((Keeps.refl _ w).alloc _).alloc _)
  rw [hnn]
  have n2 : n ≤ 30000 := by omega
  clear hg h hl hnn hm hn F0
  go_enter Tryz.func71, Tryz.ntmps71
  go_wp2_with fail
  obtain ⟨W2, hW2⟩ : ∃ V, V = (w.alloc (.cells #[.int .i64 0, .int .i64 0, .int .i64 0, .int .i64 0, .int .i64 0, .int .i64 0, .int .i64 0, .slice none 0 0, .slice none 0 0] 45)).alloc (.cells #[.int .i64 (k : Int), .int .i64 0, .int .i64 0, .int .i64 0, .int .i64 0, .int .i64 0, .int .i64 0, .slice none 0 0, .slice none 0 0] 45) := ⟨_, rfl⟩
  have K2 := Lib.hid (show Keeps (fun _ => False) w W2 by rw [hW2]; exact ((Keeps.refl _ w).alloc _).alloc _)
  have A2 := Lib.hid (show Whole W2 w.heap.size 45 (stC st0) by rw [hW2]; exact (Whole.made w _ _).alloc _)
  have B2 := Lib.hid (show Whole W2 (w.heap.size + 1) 45 (stC (stK0 k)) by rw [hW2]; have := Whole.made (w.alloc (.cells (stC st0) 45)) 45 (stC (stK0 k)); rw [World.size_alloc] at this; exact this)
  have z2 : w.heap.size + 1 < W2.heap.size := B2.out.lt
  rw [← hW2]
  clear hW2 F1
  refine (CF.out W2 K2.out).mono ?_
  rintro e w3 ⟨rfl, hF, hK⟩
  have K3 := Lib.hid (K2.out.trans hK fun _ _ => id)
  have A3 := Lib.hid (A2.out.keeps hK id)
  have B3 := Lib.hid (B2.out.keeps hK id)
  have F3 := Lib.hid hF
  have S3 := Lib.hid (HS.out.keeps K3.out id)
  have z3 : W2.heap.size < w3.heap.size ∨ m = 0 := by
    rcases Nat.eq_zero_or_pos m with q | q
    · exact .inr q
    · obtain ⟨x, hx⟩ : ∃ x, (fmW k)[0]? = some x := ⟨_, List.getElem?_eq_getElem (by rw [HM.out]; exact q)⟩
      exact .inl (World.block_lt_of_cell? _ _ (hF 0 x hx))
  clear hF hK CF
  obtain ⟨r, hr⟩ : ∃ r, stK0 k = r := ⟨_, rfl⟩
  have ek : r.k = (k : Int) := by rw [← hr]; rfl
  obtain ⟨r, hr⟩ : ∃ r, stK0 k = r := ⟨_, rfl⟩
  have ek : r.k = (k : Int) := by rw [← hr]; rfl
  obtain ⟨r, hr⟩ : ∃ r, stK0 k = r := ⟨_, rfl⟩
  have ek : r.k = (k : Int) := by rw [← hr]; rfl
  obtain ⟨r, hr⟩ : ∃ r, stK0 k = r := ⟨_, rfl⟩
  have ek : r.k = (k : Int) := by rw [← hr]; rfl
  by_cases hnm : n = m
  · subst hnm
    have FE : Hid (fmd k ws = frm ((fmW k).drop 0) (ws.drop 0) r) := Lib.hid (by unfold fmd; rw [HN.out, HM.out, if_pos rfl, hr]; rfl)
    rw [hr] at B3
    have q0 : ((n : Int) == (n : Int)) = true := by simp
    clear hr B2 A2 ek
    go_wp2_with fail
    obtain ⟨sb, hsb⟩ : ∃ sb, w.heap.size + 1 = sb := ⟨_, rfl⟩
    obtain ⟨fb, hfb⟩ : ∃ fb, W2.heap.size = fb := ⟨_, rfl⟩
    rw [hsb] at B3 z2 ⊢
    rw [hfb] at F3 z3 z2 ⊢
    have LR := Lib.hid (And.intro (show w.heap.size < sb by omega) (show sb < fb by omega))
    clear hsb hfb z2
    go_loopw [24] (fun iv wr => ∃ (i : Nat) (t : St7), iv = .int .i64 (i : Int) ∧ i ≤ n ∧ fmd k ws = frm ((fmW k).drop i) (ws.drop i) t ∧ Whole wr sb 45 (stC t) ∧ Whole wr w.heap.size 45 (stC st0) ∧ StrsAt wr fb (fmW k) ∧ StrsAt wr b ws ∧ Keeps (fun _ => False) w wr) (fun iv _ => n - (intOf iv).toNat)
    case atStart => exact ⟨0, r, rfl, Nat.zero_le _, FE.out, B3.out, A3.out, F3.out, S3.out, K3.out⟩
    case round =>
      obtain ⟨i, t, rfl, hi, hfr, hB, hA, hF, hS, hK⟩ := hrel
      have I1 := Lib.hid hfr
      have B4 := Lib.hid hB
      have A4 := Lib.hid hA
      have F4 := Lib.hid hF
      have S4 := Lib.hid hS
      have K4 := Lib.hid hK
      clear hfr hB hA hF hS hK
      by_cases hlt : i < n
      · have b1 : (i : Int) < (n : Int) := by omega
        obtain ⟨f, hf⟩ : ∃ f, (fmW k)[i]? = some f := ⟨_, List.getElem?_eq_getElem (by rw [HM.out]; exact hlt)⟩
        obtain ⟨W, hW⟩ : ∃ W, ws[i]? = some W := ⟨_, List.getElem?_eq_getElem (by rw [HN.out]; exact hlt)⟩
        have cf : wr.cell? ⟨fb, i, none⟩ = some (.string (mkB f)) := F4.out i f hf
        have cw : wr.cell? ⟨b, i, none⟩ = some (.string (mkB W)) := S4.out i W hW
        have CT := Lib.hid (take_any (w := wr) f W t sb (HL.out W (List.mem_of_getElem? hW)) B4.out (HG.out.keeps K4.out id))
        have FD := Lib.hid (frm_drop hf hW t)
        clear hf hW
        cases htk : tkB f W with
        | true =>
          rw [htk] at CT FD
          go_wp2_with fail
          refine CT.out.mono ?_
          rintro e w5 ⟨rfl, hB, hK⟩
          have B5 := Lib.hid hB
          have A5 := Lib.hid (A4.out.keeps hK (by have := LR.out; omega))
          have F5 := Lib.hid (F4.out.keeps hK (by have := LR.out; omega))
          have K5 := Lib.hid (K4.out.trans hK fun x hx e => by have := LR.out; omega)
          have S5 := Lib.hid (HS.out.keeps K5.out id)
          have I5 : Hid (fmd k ws = frm ((fmW k).drop (i + 1)) (ws.drop (i + 1)) (tkS f W t)) := Lib.hid (by rw [I1.out, FD.out, if_pos trivial])
          clear hB hK CT htk
          go_wp2_with fail
          go_roundw
          case rel => exact ⟨i + 1, tkS f W t, by go_num, by omega, I5.out, B5.out, A5.out, F5.out, S5.out, K5.out⟩
          case measure => simp [intOf]; omega
        | false =>
          rw [htk] at CT FD
          go_wp2_with fail
          refine CT.out.mono ?_
          rintro e w5 ⟨rfl, hB, hK⟩
          obtain ⟨u, hu⟩ : ∃ u, tkS f W t = u := ⟨_, rfl⟩
          rw [hu] at hB
          have B5 := Lib.hid hB
          have A5 := Lib.hid (A4.out.keeps hK (by have := LR.out; omega))
          have K5 := Lib.hid (K4.out.trans hK fun x hx e => by have := LR.out; omega)
          have I5 : Hid (fmd k ws = none) := Lib.hid (by rw [I1.out, FD.out, if_neg (by simp)])
          clear hB hK CT htk hu
          have bc0 : w5.cell? ⟨sb, 0, none⟩ = some (.int .i64 (u.k)) := B5.out.at_ 0
          have bc1 : w5.cell? ⟨sb, 1, none⟩ = some (.int .i64 (u.c)) := B5.out.at_ 1
          have bc2 : w5.cell? ⟨sb, 2, none⟩ = some (.int .i64 (u.r)) := B5.out.at_ 2
          have bc3 : w5.cell? ⟨sb, 3, none⟩ = some (.int .i64 (u.ar)) := B5.out.at_ 3
          have bc4 : w5.cell? ⟨sb, 4, none⟩ = some (.int .i64 (u.an)) := B5.out.at_ 4
          have bc5 : w5.cell? ⟨sb, 5, none⟩ = some (.int .i64 (u.br)) := B5.out.at_ 5
          have bc6 : w5.cell? ⟨sb, 6, none⟩ = some (.int .i64 (u.bn)) := B5.out.at_ 6
          have bc7 : w5.cell? ⟨sb, 7, none⟩ = some (.slice none 0 0) := B5.out.at_ 7
          have bc8 : w5.cell? ⟨sb, 8, none⟩ = some (.slice none 0 0) := B5.out.at_ 8
          have ac0 : w5.cell? ⟨w.heap.size, 0, none⟩ = some (.int .i64 (st0.k)) := A5.out.at_ 0
          have af0 : w5.frozen? ⟨w.heap.size, 0, none⟩ = false := A5.out.free 0
          have ac1 : w5.cell? ⟨w.heap.size, 1, none⟩ = some (.int .i64 (st0.c)) := A5.out.at_ 1
          have af1 : w5.frozen? ⟨w.heap.size, 1, none⟩ = false := A5.out.free 1
          have ac2 : w5.cell? ⟨w.heap.size, 2, none⟩ = some (.int .i64 (st0.r)) := A5.out.at_ 2
          have af2 : w5.frozen? ⟨w.heap.size, 2, none⟩ = false := A5.out.free 2
          have ac3 : w5.cell? ⟨w.heap.size, 3, none⟩ = some (.int .i64 (st0.ar)) := A5.out.at_ 3
          have af3 : w5.frozen? ⟨w.heap.size, 3, none⟩ = false := A5.out.free 3
          have ac4 : w5.cell? ⟨w.heap.size, 4, none⟩ = some (.int .i64 (st0.an)) := A5.out.at_ 4
          have af4 : w5.frozen? ⟨w.heap.size, 4, none⟩ = false := A5.out.free 4
          have ac5 : w5.cell? ⟨w.heap.size, 5, none⟩ = some (.int .i64 (st0.br)) := A5.out.at_ 5
          have af5 : w5.frozen? ⟨w.heap.size, 5, none⟩ = false := A5.out.free 5
          have ac6 : w5.cell? ⟨w.heap.size, 6, none⟩ = some (.int .i64 (st0.bn)) := A5.out.at_ 6
          have af6 : w5.frozen? ⟨w.heap.size, 6, none⟩ = false := A5.out.free 6
          have ac7 : w5.cell? ⟨w.heap.size, 7, none⟩ = some (.slice none 0 0) := A5.out.at_ 7
          have af7 : w5.frozen? ⟨w.heap.size, 7, none⟩ = false := A5.out.free 7
          have ac8 : w5.cell? ⟨w.heap.size, 8, none⟩ = some (.slice none 0 0) := A5.out.at_ 8
          have af8 : w5.frozen? ⟨w.heap.size, 8, none⟩ = false := A5.out.free 8
          go_wp2_with fail
          obtain ⟨W6, hW6⟩ : ∃ V, V = (((((((((w5.setCell ⟨w.heap.size, 0, none⟩ (.int .i64 u.k)).setCell ⟨w.heap.size, 1, none⟩ (.int .i64 u.c)).setCell ⟨w.heap.size, 2, none⟩ (.int .i64 u.r)).setCell ⟨w.heap.size, 3, none⟩ (.int .i64 u.ar)).setCell ⟨w.heap.size, 4, none⟩ (.int .i64 u.an)).setCell ⟨w.heap.size, 5, none⟩ (.int .i64 u.br)).setCell ⟨w.heap.size, 6, none⟩ (.int .i64 u.bn)).setCell ⟨w.heap.size, 7, none⟩ (.slice none 0 0)).setCell ⟨w.heap.size, 8, none⟩ (.slice none 0 0)) := ⟨_, rfl⟩
          have A6 := Lib.hid (show Whole W6 w.heap.size 45 (stC u) by rw [hW6]; exact put9 A5.out u)
          have K6 := Lib.hid (show Keeps (fun _ => False) w W6 by rw [hW6]; exact put9K K5.out u (fun h => absurd h (Nat.lt_irrefl _)))
          rw [← hW6]
          have zc0 : W6.cell? ⟨w.heap.size, 0, none⟩ = some (.int .i64 (u.k)) := A6.out.at_ 0
          have zc1 : W6.cell? ⟨w.heap.size, 1, none⟩ = some (.int .i64 (u.c)) := A6.out.at_ 1
          have zc2 : W6.cell? ⟨w.heap.size, 2, none⟩ = some (.int .i64 (u.r)) := A6.out.at_ 2
          have zc3 : W6.cell? ⟨w.heap.size, 3, none⟩ = some (.int .i64 (u.ar)) := A6.out.at_ 3
          have zc4 : W6.cell? ⟨w.heap.size, 4, none⟩ = some (.int .i64 (u.an)) := A6.out.at_ 4
          have zc5 : W6.cell? ⟨w.heap.size, 5, none⟩ = some (.int .i64 (u.br)) := A6.out.at_ 5
          have zc6 : W6.cell? ⟨w.heap.size, 6, none⟩ = some (.int .i64 (u.bn)) := A6.out.at_ 6
          have zc7 : W6.cell? ⟨w.heap.size, 7, none⟩ = some (.slice none 0 0) := A6.out.at_ 7
          have zc8 : W6.cell? ⟨w.heap.size, 8, none⟩ = some (.slice none 0 0) := A6.out.at_ 8
          exact bodyPost_ret (v := .tuple #[.agg (stC u), .bool false]) (by simp [results, Tryz.results71, go_sem, stC, zc0, zc1, zc2, zc3, zc4, zc5, zc6, zc7, zc8]) rfl (by first | exact ⟨_, _, rfl, I5.out, K6.out⟩ | exact ⟨_, .inr ⟨rfl, I5.out, K6.out⟩⟩ | exact ⟨_, .inl ⟨rfl, I5.out, K6.out⟩⟩)
      · obtain rfl : i = n := by omega
        have b1 : ¬ (i : Int) < (i : Int) := by omega
        have I5 : Hid (fmd k ws = some t) := Lib.hid (by rw [I1.out, List.drop_eq_nil_of_le (by rw [HM.out]; omega), List.drop_eq_nil_of_le (by rw [HN.out]; omega)]; rfl)
        have bc0 : wr.cell? ⟨sb, 0, none⟩ = some (.int .i64 (t.k)) := B4.out.at_ 0
        have bc1 : wr.cell? ⟨sb, 1, none⟩ = some (.int .i64 (t.c)) := B4.out.at_ 1
        have bc2 : wr.cell? ⟨sb, 2, none⟩ = some (.int .i64 (t.r)) := B4.out.at_ 2
        have bc3 : wr.cell? ⟨sb, 3, none⟩ = some (.int .i64 (t.ar)) := B4.out.at_ 3
        have bc4 : wr.cell? ⟨sb, 4, none⟩ = some (.int .i64 (t.an)) := B4.out.at_ 4
        have bc5 : wr.cell? ⟨sb, 5, none⟩ = some (.int .i64 (t.br)) := B4.out.at_ 5
        have bc6 : wr.cell? ⟨sb, 6, none⟩ = some (.int .i64 (t.bn)) := B4.out.at_ 6
        have bc7 : wr.cell? ⟨sb, 7, none⟩ = some (.slice none 0 0) := B4.out.at_ 7
        have bc8 : wr.cell? ⟨sb, 8, none⟩ = some (.slice none 0 0) := B4.out.at_ 8
        have ac0 : wr.cell? ⟨w.heap.size, 0, none⟩ = some (.int .i64 (st0.k)) := A4.out.at_ 0
        have af0 : wr.frozen? ⟨w.heap.size, 0, none⟩ = false := A4.out.free 0
        have ac1 : wr.cell? ⟨w.heap.size, 1, none⟩ = some (.int .i64 (st0.c)) := A4.out.at_ 1
        have af1 : wr.frozen? ⟨w.heap.size, 1, none⟩ = false := A4.out.free 1
        have ac2 : wr.cell? ⟨w.heap.size, 2, none⟩ = some (.int .i64 (st0.r)) := A4.out.at_ 2
        have af2 : wr.frozen? ⟨w.heap.size, 2, none⟩ = false := A4.out.free 2
        have ac3 : wr.cell? ⟨w.heap.size, 3, none⟩ = some (.int .i64 (st0.ar)) := A4.out.at_ 3
        have af3 : wr.frozen? ⟨w.heap.size, 3, none⟩ = false := A4.out.free 3
        have ac4 : wr.cell? ⟨w.heap.size, 4, none⟩ = some (.int .i64 (st0.an)) := A4.out.at_ 4
        have af4 : wr.frozen? ⟨w.heap.size, 4, none⟩ = false := A4.out.free 4
        have ac5 : wr.cell? ⟨w.heap.size, 5, none⟩ = some (.int .i64 (st0.br)) := A4.out.at_ 5
        have af5 : wr.frozen? ⟨w.heap.size, 5, none⟩ = false := A4.out.free 5
        have ac6 : wr.cell? ⟨w.heap.size, 6, none⟩ = some (.int .i64 (st0.bn)) := A4.out.at_ 6
        have af6 : wr.frozen? ⟨w.heap.size, 6, none⟩ = false := A4.out.free 6
        have ac7 : wr.cell? ⟨w.heap.size, 7, none⟩ = some (.slice none 0 0) := A4.out.at_ 7
        have af7 : wr.frozen? ⟨w.heap.size, 7, none⟩ = false := A4.out.free 7
        have ac8 : wr.cell? ⟨w.heap.size, 8, none⟩ = some (.slice none 0 0) := A4.out.at_ 8
        have af8 : wr.frozen? ⟨w.heap.size, 8, none⟩ = false := A4.out.free 8
        go_wp2_with fail
        obtain ⟨W6, hW6⟩ : ∃ V, V = (((((((((wr.setCell ⟨w.heap.size, 0, none⟩ (.int .i64 t.k)).setCell ⟨w.heap.size, 1, none⟩ (.int .i64 t.c)).setCell ⟨w.heap.size, 2, none⟩ (.int .i64 t.r)).setCell ⟨w.heap.size, 3, none⟩ (.int .i64 t.ar)).setCell ⟨w.heap.size, 4, none⟩ (.int .i64 t.an)).setCell ⟨w.heap.size, 5, none⟩ (.int .i64 t.br)).setCell ⟨w.heap.size, 6, none⟩ (.int .i64 t.bn)).setCell ⟨w.heap.size, 7, none⟩ (.slice none 0 0)).setCell ⟨w.heap.size, 8, none⟩ (.slice none 0 0)) := ⟨_, rfl⟩
        have A6 := Lib.hid (show Whole W6 w.heap.size 45 (stC t) by rw [hW6]; exact put9 A4.out t)
        have K6 := Lib.hid (show Keeps (fun _ => False) w W6 by rw [hW6]; exact put9K K4.out t (fun h => absurd h (Nat.lt_irrefl _)))
        rw [← hW6]
        have zc0 : W6.cell? ⟨w.heap.size, 0, none⟩ = some (.int .i64 (t.k)) := A6.out.at_ 0
        have zc1 : W6.cell? ⟨w.heap.size, 1, none⟩ = some (.int .i64 (t.c)) := A6.out.at_ 1
        have zc2 : W6.cell? ⟨w.heap.size, 2, none⟩ = some (.int .i64 (t.r)) := A6.out.at_ 2
        have zc3 : W6.cell? ⟨w.heap.size, 3, none⟩ = some (.int .i64 (t.ar)) := A6.out.at_ 3
        have zc4 : W6.cell? ⟨w.heap.size, 4, none⟩ = some (.int .i64 (t.an)) := A6.out.at_ 4
        have zc5 : W6.cell? ⟨w.heap.size, 5, none⟩ = some (.int .i64 (t.br)) := A6.out.at_ 5
        have zc6 : W6.cell? ⟨w.heap.size, 6, none⟩ = some (.int .i64 (t.bn)) := A6.out.at_ 6
        have zc7 : W6.cell? ⟨w.heap.size, 7, none⟩ = some (.slice none 0 0) := A6.out.at_ 7
        have zc8 : W6.cell? ⟨w.heap.size, 8, none⟩ = some (.slice none 0 0) := A6.out.at_ 8
        exact bodyPost_ret (v := .tuple #[.agg (stC t), .bool true]) (by simp [results, Tryz.results71, go_sem, stC, zc0, zc1, zc2, zc3, zc4, zc5, zc6, zc7, zc8]) rfl (by first | exact ⟨_, _, rfl, I5.out, K6.out⟩ | exact ⟨_, .inr ⟨rfl, I5.out, K6.out⟩⟩ | exact ⟨_, .inl ⟨rfl, I5.out, K6.out⟩⟩)
  · have FE : Hid (fmd k ws = none) := Lib.hid (by unfold fmd; rw [HN.out, HM.out, if_neg hnm])
    rw [hr] at B3
    have q0 : ((n : Int) == (m : Int)) = false := by simp; omega
    clear hr B2 A2 ek
    have bc0 : w3.cell? ⟨(w.heap.size + 1), 0, none⟩ = some (.int .i64 (r.k)) := B3.out.at_ 0
    have bc1 : w3.cell? ⟨(w.heap.size + 1), 1, none⟩ = some (.int .i64 (r.c)) := B3.out.at_ 1
    have bc2 : w3.cell? ⟨(w.heap.size + 1), 2, none⟩ = some (.int .i64 (r.r)) := B3.out.at_ 2
    have bc3 : w3.cell? ⟨(w.heap.size + 1), 3, none⟩ = some (.int .i64 (r.ar)) := B3.out.at_ 3
    have bc4 : w3.cell? ⟨(w.heap.size + 1), 4, none⟩ = some (.int .i64 (r.an)) := B3.out.at_ 4
    have bc5 : w3.cell? ⟨(w.heap.size + 1), 5, none⟩ = some (.int .i64 (r.br)) := B3.out.at_ 5
    have bc6 : w3.cell? ⟨(w.heap.size + 1), 6, none⟩ = some (.int .i64 (r.bn)) := B3.out.at_ 6
    have bc7 : w3.cell? ⟨(w.heap.size + 1), 7, none⟩ = some (.slice none 0 0) := B3.out.at_ 7
    have bc8 : w3.cell? ⟨(w.heap.size + 1), 8, none⟩ = some (.slice none 0 0) := B3.out.at_ 8
    have ac0 : w3.cell? ⟨w.heap.size, 0, none⟩ = some (.int .i64 (st0.k)) := A3.out.at_ 0
    have af0 : w3.frozen? ⟨w.heap.size, 0, none⟩ = false := A3.out.free 0
    have ac1 : w3.cell? ⟨w.heap.size, 1, none⟩ = some (.int .i64 (st0.c)) := A3.out.at_ 1
    have af1 : w3.frozen? ⟨w.heap.size, 1, none⟩ = false := A3.out.free 1
    have ac2 : w3.cell? ⟨w.heap.size, 2, none⟩ = some (.int .i64 (st0.r)) := A3.out.at_ 2
    have af2 : w3.frozen? ⟨w.heap.size, 2, none⟩ = false := A3.out.free 2
    have ac3 : w3.cell? ⟨w.heap.size, 3, none⟩ = some (.int .i64 (st0.ar)) := A3.out.at_ 3
    have af3 : w3.frozen? ⟨w.heap.size, 3, none⟩ = false := A3.out.free 3
    have ac4 : w3.cell? ⟨w.heap.size, 4, none⟩ = some (.int .i64 (st0.an)) := A3.out.at_ 4
    have af4 : w3.frozen? ⟨w.heap.size, 4, none⟩ = false := A3.out.free 4
    have ac5 : w3.cell? ⟨w.heap.size, 5, none⟩ = some (.int .i64 (st0.br)) := A3.out.at_ 5
    have af5 : w3.frozen? ⟨w.heap.size, 5, none⟩ = false := A3.out.free 5
    have ac6 : w3.cell? ⟨w.heap.size, 6, none⟩ = some (.int .i64 (st0.bn)) := A3.out.at_ 6
    have af6 : w3.frozen? ⟨w.heap.size, 6, none⟩ = false := A3.out.free 6
    have ac7 : w3.cell? ⟨w.heap.size, 7, none⟩ = some (.slice none 0 0) := A3.out.at_ 7
    have af7 : w3.frozen? ⟨w.heap.size, 7, none⟩ = false := A3.out.free 7
    have ac8 : w3.cell? ⟨w.heap.size, 8, none⟩ = some (.slice none 0 0) := A3.out.at_ 8
    have af8 : w3.frozen? ⟨w.heap.size, 8, none⟩ = false := A3.out.free 8
    go_wp2_with fail
    obtain ⟨W6, hW6⟩ : ∃ V, V = (((((((((w3.setCell ⟨w.heap.size, 0, none⟩ (.int .i64 r.k)).setCell ⟨w.heap.size, 1, none⟩ (.int .i64 r.c)).setCell ⟨w.heap.size, 2, none⟩ (.int .i64 r.r)).setCell ⟨w.heap.size, 3, none⟩ (.int .i64 r.ar)).setCell ⟨w.heap.size, 4, none⟩ (.int .i64 r.an)).setCell ⟨w.heap.size, 5, none⟩ (.int .i64 r.br)).setCell ⟨w.heap.size, 6, none⟩ (.int .i64 r.bn)).setCell ⟨w.heap.size, 7, none⟩ (.slice none 0 0)).setCell ⟨w.heap.size, 8, none⟩ (.slice none 0 0)) := ⟨_, rfl⟩
    have A6 := Lib.hid (show Whole W6 w.heap.size 45 (stC r) by rw [hW6]; exact put9 A3.out r)
    have K6 := Lib.hid (show Keeps (fun _ => False) w W6 by rw [hW6]; exact put9K K3.out r (fun h => absurd h (Nat.lt_irrefl _)))
    rw [← hW6]
    have zc0 : W6.cell? ⟨w.heap.size, 0, none⟩ = some (.int .i64 (r.k)) := A6.out.at_ 0
    have zc1 : W6.cell? ⟨w.heap.size, 1, none⟩ = some (.int .i64 (r.c)) := A6.out.at_ 1
    have zc2 : W6.cell? ⟨w.heap.size, 2, none⟩ = some (.int .i64 (r.r)) := A6.out.at_ 2
    have zc3 : W6.cell? ⟨w.heap.size, 3, none⟩ = some (.int .i64 (r.ar)) := A6.out.at_ 3
    have zc4 : W6.cell? ⟨w.heap.size, 4, none⟩ = some (.int .i64 (r.an)) := A6.out.at_ 4
    have zc5 : W6.cell? ⟨w.heap.size, 5, none⟩ = some (.int .i64 (r.br)) := A6.out.at_ 5
    have zc6 : W6.cell? ⟨w.heap.size, 6, none⟩ = some (.int .i64 (r.bn)) := A6.out.at_ 6
    have zc7 : W6.cell? ⟨w.heap.size, 7, none⟩ = some (.slice none 0 0) := A6.out.at_ 7
    have zc8 : W6.cell? ⟨w.heap.size, 8, none⟩ = some (.slice none 0 0) := A6.out.at_ 8
    exact bodyPost_ret (v := .tuple #[.agg (stC r), .bool false]) (by simp [results, Tryz.results71, go_sem, stC, zc0, zc1, zc2, zc3, zc4, zc5, zc6, zc7, zc8]) rfl (by first | exact ⟨_, _, rfl, FE.out, K6.out⟩ | exact ⟨_, .inr ⟨rfl, FE.out, K6.out⟩⟩ | exact ⟨_, .inl ⟨rfl, FE.out, K6.out⟩⟩)
end Go.Proofs.YtcdlchcmidfhiaaGreatDoor

namespace Go.Proofs.YtcdlchcmidfhiaaGreatDoor
open Go.RowKit Go.Maps Go.Extern.Stop Go.Stop Go.Extern

set_option maxRecDepth 100000 in
set_option maxHeartbeats 1000000 in
theorem stat_any {w : World} (ws : List Str) (b c : Nat) (h : StrsAt w b ws) (hl : ∀ x ∈ ws, x.length ≤ 20000) (hn : ws.length ≤ 30000) (hg : GlobT w) :
    Calls Tryz.prog 52 #[.slice (some ⟨b, 0, none⟩) ws.length c] w fun e w' => ∃ s ok, e = .returned (.tuple #[.agg (stC s), .bool ok]) ∧ stmtT ws = (if ok then some s else none) ∧ Keeps (fun _ => False) w w' := by
  obtain ⟨n, hnn⟩ : ∃ n, ws.length = n := ⟨_, rfl⟩
  have HG := Lib.hid hg
  have HS := Lib.hid h
  have CF := Lib.hid (fun V (q : Keeps (fun _ => False) w V) (k : Nat) (h0 : 0 < k) (hk : k < 17) => formed_any (w := V) k h0 hk ws b c (HS.out.keeps q id) hl hn (HG.out.keeps q id))
  rw [hnn] at CF ⊢
  clear hg h hl hn hnn
  go_enter Tryz.func52, Tryz.ntmps52
  go_wp2_with fail
  have A1 := Whole.made w 45 (stC st0)
  have K1 := (Keeps.refl (fun _ => False) w).alloc (.cells (stC st0) 45)
  go_loopw [4] (fun iv wr => ∃ (k : Nat), iv = .int .i64 (k : Int) ∧ 0 < k ∧ k ≤ 17 ∧ (∀ j, j < k → 0 < j → fmd j ws = none) ∧ Whole wr w.heap.size 45 (stC st0) ∧ Keeps (fun _ => False) w wr) (fun iv _ => 17 - (intOf iv).toNat)
  case atStart => exact ⟨1, rfl, by omega, by omega, fun j h1 h2 => by omega, A1, K1⟩
  case round =>
    obtain ⟨k, rfl, h0, h17, hno, hA, hK⟩ := hrel
    have N1 := Lib.hid hno
    have A4 := Lib.hid hA
    have K4 := Lib.hid hK
    clear hno hA hK A1 K1
    by_cases hlt : k < 17
    · have b1 : (k : Int) < 17 := by omega
      have C1 := Lib.hid (CF.out wr K4.out k h0 hlt)
      go_wp2_with fail
      refine C1.out.mono ?_
      rintro e w5 ⟨u, ok, rfl, hf, hK⟩
      have K5 := Lib.hid (K4.out.trans hK fun _ _ => id)
      have A5 := Lib.hid (A4.out.keeps hK id)
      clear hK C1
      simp only [stC]
      cases ok with
      | true =>
        have FE : Hid (stmtT ws = some u) := Lib.hid (stmt_hit hlt h0 (by rw [hf]; rfl))
        clear hf
        obtain ⟨W7, hW7⟩ : ∃ V, V = w5.alloc (.cells (stC u) 45) := ⟨_, rfl⟩
        have K7 := Lib.hid (show Keeps (fun _ => False) w W7 by rw [hW7]; exact K5.out.alloc _)
        have A7 := Lib.hid (show Whole W7 w.heap.size 45 (stC st0) by rw [hW7]; exact A5.out.alloc _)
        have hlt5 : w.heap.size < w5.heap.size := A5.out.lt
        clear hW7
        have ac0 : w5.cell? ⟨w.heap.size, 0, none⟩ = some (.int .i64 (st0.k)) := A5.out.at_ 0
        have af0 : w5.frozen? ⟨w.heap.size, 0, none⟩ = false := A5.out.free 0
        have ac1 : w5.cell? ⟨w.heap.size, 1, none⟩ = some (.int .i64 (st0.c)) := A5.out.at_ 1
        have af1 : w5.frozen? ⟨w.heap.size, 1, none⟩ = false := A5.out.free 1
        have ac2 : w5.cell? ⟨w.heap.size, 2, none⟩ = some (.int .i64 (st0.r)) := A5.out.at_ 2
        have af2 : w5.frozen? ⟨w.heap.size, 2, none⟩ = false := A5.out.free 2
        have ac3 : w5.cell? ⟨w.heap.size, 3, none⟩ = some (.int .i64 (st0.ar)) := A5.out.at_ 3
        have af3 : w5.frozen? ⟨w.heap.size, 3, none⟩ = false := A5.out.free 3
        have ac4 : w5.cell? ⟨w.heap.size, 4, none⟩ = some (.int .i64 (st0.an)) := A5.out.at_ 4
        have af4 : w5.frozen? ⟨w.heap.size, 4, none⟩ = false := A5.out.free 4
        have ac5 : w5.cell? ⟨w.heap.size, 5, none⟩ = some (.int .i64 (st0.br)) := A5.out.at_ 5
        have af5 : w5.frozen? ⟨w.heap.size, 5, none⟩ = false := A5.out.free 5
        have ac6 : w5.cell? ⟨w.heap.size, 6, none⟩ = some (.int .i64 (st0.bn)) := A5.out.at_ 6
        have af6 : w5.frozen? ⟨w.heap.size, 6, none⟩ = false := A5.out.free 6
        have ac7 : w5.cell? ⟨w.heap.size, 7, none⟩ = some (.slice none 0 0) := A5.out.at_ 7
        have af7 : w5.frozen? ⟨w.heap.size, 7, none⟩ = false := A5.out.free 7
        have ac8 : w5.cell? ⟨w.heap.size, 8, none⟩ = some (.slice none 0 0) := A5.out.at_ 8
        have af8 : w5.frozen? ⟨w.heap.size, 8, none⟩ = false := A5.out.free 8
        go_wp2_with fail
        obtain ⟨W6, hW6⟩ : ∃ V, V = (((((((((w5.setCell ⟨w.heap.size, 0, none⟩ (.int .i64 u.k)).setCell ⟨w.heap.size, 1, none⟩ (.int .i64 u.c)).setCell ⟨w.heap.size, 2, none⟩ (.int .i64 u.r)).setCell ⟨w.heap.size, 3, none⟩ (.int .i64 u.ar)).setCell ⟨w.heap.size, 4, none⟩ (.int .i64 u.an)).setCell ⟨w.heap.size, 5, none⟩ (.int .i64 u.br)).setCell ⟨w.heap.size, 6, none⟩ (.int .i64 u.bn)).setCell ⟨w.heap.size, 7, none⟩ (.slice none 0 0)).setCell ⟨w.heap.size, 8, none⟩ (.slice none 0 0)).alloc (.cells #[.int .i64 u.k, .int .i64 u.c, .int .i64 u.r, .int .i64 u.ar, .int .i64 u.an, .int .i64 u.br, .int .i64 u.bn, .slice none 0 0, .slice none 0 0] 45) := ⟨_, rfl⟩
        have A6 := Lib.hid (show Whole W6 w.heap.size 45 (stC u) by rw [hW6]; exact (put9 A5.out u).alloc _)
        have K6 := Lib.hid (show Keeps (fun _ => False) w W6 by rw [hW6]; exact (put9K K5.out u (fun h => absurd h (Nat.lt_irrefl _))).alloc _)
        rw [← hW6]
        have zc0 : W6.cell? ⟨w.heap.size, 0, none⟩ = some (.int .i64 (u.k)) := A6.out.at_ 0
        have zc1 : W6.cell? ⟨w.heap.size, 1, none⟩ = some (.int .i64 (u.c)) := A6.out.at_ 1
        have zc2 : W6.cell? ⟨w.heap.size, 2, none⟩ = some (.int .i64 (u.r)) := A6.out.at_ 2
        have zc3 : W6.cell? ⟨w.heap.size, 3, none⟩ = some (.int .i64 (u.ar)) := A6.out.at_ 3
        have zc4 : W6.cell? ⟨w.heap.size, 4, none⟩ = some (.int .i64 (u.an)) := A6.out.at_ 4
        have zc5 : W6.cell? ⟨w.heap.size, 5, none⟩ = some (.int .i64 (u.br)) := A6.out.at_ 5
        have zc6 : W6.cell? ⟨w.heap.size, 6, none⟩ = some (.int .i64 (u.bn)) := A6.out.at_ 6
        have zc7 : W6.cell? ⟨w.heap.size, 7, none⟩ = some (.slice none 0 0) := A6.out.at_ 7
        have zc8 : W6.cell? ⟨w.heap.size, 8, none⟩ = some (.slice none 0 0) := A6.out.at_ 8
        exact bodyPost_ret (v := .tuple #[.agg (stC u), .bool true]) (by simp [results, Tryz.results52, go_sem, stC, zc0, zc1, zc2, zc3, zc4, zc5, zc6, zc7, zc8]) rfl (by first | exact ⟨_, _, rfl, FE.out, K6.out⟩ | exact ⟨_, .inr ⟨rfl, FE.out, K6.out⟩⟩ | exact ⟨_, .inl ⟨rfl, FE.out, K6.out⟩⟩)
      | false =>
        have FE : fmd k ws = none := by rw [hf]; rfl
        have N5 := Lib.hid (show ∀ j, j < k + 1 → 0 < j → fmd j ws = none from fun j h1 h2 => by
          rcases Nat.lt_or_ge j k with q | q
          · exact N1.out j q h2
          · obtain rfl : j = k := by omega
            exact FE)
        clear hf FE
        go_wp2_with fail
        go_roundw
        case rel => exact ⟨k + 1, by go_num, by omega, by omega, N5.out, A5.out.alloc _, K5.out.alloc _⟩
        case measure => simp [intOf]; omega
    · have b1 : ¬ (k : Int) < 17 := by omega
      have FE : Hid (stmtT ws = none) := Lib.hid (stmt_miss fun j h1 h2 => N1.out j (by omega) h2)
      have ac0 : wr.cell? ⟨w.heap.size, 0, none⟩ = some (.int .i64 (st0.k)) := A4.out.at_ 0
      have af0 : wr.frozen? ⟨w.heap.size, 0, none⟩ = false := A4.out.free 0
      have ac1 : wr.cell? ⟨w.heap.size, 1, none⟩ = some (.int .i64 (st0.c)) := A4.out.at_ 1
      have af1 : wr.frozen? ⟨w.heap.size, 1, none⟩ = false := A4.out.free 1
      have ac2 : wr.cell? ⟨w.heap.size, 2, none⟩ = some (.int .i64 (st0.r)) := A4.out.at_ 2
      have af2 : wr.frozen? ⟨w.heap.size, 2, none⟩ = false := A4.out.free 2
      have ac3 : wr.cell? ⟨w.heap.size, 3, none⟩ = some (.int .i64 (st0.ar)) := A4.out.at_ 3
      have af3 : wr.frozen? ⟨w.heap.size, 3, none⟩ = false := A4.out.free 3
      have ac4 : wr.cell? ⟨w.heap.size, 4, none⟩ = some (.int .i64 (st0.an)) := A4.out.at_ 4
      have af4 : wr.frozen? ⟨w.heap.size, 4, none⟩ = false := A4.out.free 4
      have ac5 : wr.cell? ⟨w.heap.size, 5, none⟩ = some (.int .i64 (st0.br)) := A4.out.at_ 5
      have af5 : wr.frozen? ⟨w.heap.size, 5, none⟩ = false := A4.out.free 5
      have ac6 : wr.cell? ⟨w.heap.size, 6, none⟩ = some (.int .i64 (st0.bn)) := A4.out.at_ 6
      have af6 : wr.frozen? ⟨w.heap.size, 6, none⟩ = false := A4.out.free 6
      have ac7 : wr.cell? ⟨w.heap.size, 7, none⟩ = some (.slice none 0 0) := A4.out.at_ 7
      have af7 : wr.frozen? ⟨w.heap.size, 7, none⟩ = false := A4.out.free 7
      have ac8 : wr.cell? ⟨w.heap.size, 8, none⟩ = some (.slice none 0 0) := A4.out.at_ 8
      have af8 : wr.frozen? ⟨w.heap.size, 8, none⟩ = false := A4.out.free 8
      go_wp2_with fail
      obtain ⟨W6, hW6⟩ : ∃ V, V = (((((((((wr.setCell ⟨w.heap.size, 0, none⟩ (.int .i64 0)).setCell ⟨w.heap.size, 1, none⟩ (.int .i64 0)).setCell ⟨w.heap.size, 2, none⟩ (.int .i64 0)).setCell ⟨w.heap.size, 3, none⟩ (.int .i64 0)).setCell ⟨w.heap.size, 4, none⟩ (.int .i64 0)).setCell ⟨w.heap.size, 5, none⟩ (.int .i64 0)).setCell ⟨w.heap.size, 6, none⟩ (.int .i64 0)).setCell ⟨w.heap.size, 7, none⟩ (.slice none 0 0)).setCell ⟨w.heap.size, 8, none⟩ (.slice none 0 0)) := ⟨_, rfl⟩
      have A6 := Lib.hid (show Whole W6 w.heap.size 45 (stC st0) by rw [hW6]; exact put9 A4.out st0)
      have K6 := Lib.hid (show Keeps (fun _ => False) w W6 by rw [hW6]; exact put9K K4.out st0 (fun h => absurd h (Nat.lt_irrefl _)))
      rw [← hW6]
      have zc0 : W6.cell? ⟨w.heap.size, 0, none⟩ = some (.int .i64 (st0.k)) := A6.out.at_ 0
      have zc1 : W6.cell? ⟨w.heap.size, 1, none⟩ = some (.int .i64 (st0.c)) := A6.out.at_ 1
      have zc2 : W6.cell? ⟨w.heap.size, 2, none⟩ = some (.int .i64 (st0.r)) := A6.out.at_ 2
      have zc3 : W6.cell? ⟨w.heap.size, 3, none⟩ = some (.int .i64 (st0.ar)) := A6.out.at_ 3
      have zc4 : W6.cell? ⟨w.heap.size, 4, none⟩ = some (.int .i64 (st0.an)) := A6.out.at_ 4
      have zc5 : W6.cell? ⟨w.heap.size, 5, none⟩ = some (.int .i64 (st0.br)) := A6.out.at_ 5
      have zc6 : W6.cell? ⟨w.heap.size, 6, none⟩ = some (.int .i64 (st0.bn)) := A6.out.at_ 6
      have zc7 : W6.cell? ⟨w.heap.size, 7, none⟩ = some (.slice none 0 0) := A6.out.at_ 7
      have zc8 : W6.cell? ⟨w.heap.size, 8, none⟩ = some (.slice none 0 0) := A6.out.at_ 8
      exact bodyPost_ret (v := .tuple #[.agg (stC st0), .bool false]) (by simp [results, Tryz.results52, go_sem, stC, zc0, zc1, zc2, zc3, zc4, zc5, zc6, zc7, zc8]) rfl (by first | exact ⟨_, _, rfl, FE.out, K6.out⟩ | exact ⟨_, .inr ⟨rfl, FE.out, K6.out⟩⟩ | exact ⟨_, .inl ⟨rfl, FE.out, K6.out⟩⟩)
end Go.Proofs.YtcdlchcmidfhiaaGreatDoor
