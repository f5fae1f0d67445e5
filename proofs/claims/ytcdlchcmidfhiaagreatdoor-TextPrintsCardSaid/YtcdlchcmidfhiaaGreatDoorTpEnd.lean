/-
  FieldsFunc at blanks, Cut at a line's end, the reader's next, ended; by contract.
  ended, opens, hasElse, by contract.
-/
import Derived.Test.YtcdlchcmidfhiaaGreatDoorTpStat
import Derived.Lib.IndexLaws

namespace Go.Proofs.YtcdlchcmidfhiaaGreatDoor
open Go.RowKit Go.Maps Go.Extern.Stop Go.Stop Go.Extern

set_option maxRecDepth 100000 in
theorem blank_any (V : World) (x : Nat) : Calls Tryz.prog 70 #[.int .i32 (x : Int)] V fun e w' => e = .returned (.bool (isBl x)) ∧ w' = V := by
  have hb : ((x : Int) == 32) = isBl x := by
    unfold isBl
    by_cases h : x = 32
    · subst h; rfl
    · have h1 : ¬ (x : Int) = 32 := by omega
      rw [beq_eq_false_iff_ne.2 h, beq_eq_false_iff_ne.2 h1]
  go_enter Tryz.func70, Tryz.ntmps70
  go_wp2_with fail
  go_ret
  exact ⟨rfl, rfl⟩
theorem ff_any {w : World} (S : Str) (hl : S.length ≤ 90000) :
    Calls Tryz.prog 69 #[.string (mkB S), .func (.func 70) #[] #[]] w fun e w' => ∃ b, e = .returned (.slice (some ⟨b, 0, none⟩) (wordsT S).length (wordsT S).length) ∧ StrsAt w' b (wordsT S) ∧ w.heap.size ≤ b ∧ Keeps (fun _ => False) w w' := by
  have eg : ∀ args w, (callFunc 70 args).run Tryz.prog w = .ok (.enter 70 args) w := enters_of Tryz.func70 (by kernel_rfl) rfl
  refine (sh_strings_FieldsFunc_runes 70 #[] eg isBl (mkB S) w (by rw [mkB_size]; omega) (fun V x _ _ => (blank_any V x).mono fun e w' ⟨h1, h2⟩ => ⟨h1, 0, by rw [h2]; rfl⟩)).mono ?_
  rintro e w' ⟨b, rfl, hs, hr, hb⟩
  rw [fields_words] at hr ⊢
  rw [List.length_map] at hr ⊢
  refine ⟨b, rfl, fun j x hx => ?_, hs, keeps_below hb⟩
  have := World.ownsRow.cells hr rfl j (.string (mkB x)) (by simp [hx])
  by_cases h0 : j = 0 <;> simpa [Addr.add, h0] using this

theorem str_to (l : Str) (b : Nat) (h2 : b ≤ l.length) (w : World) : (Instr.slice 9 (.string (mkB l)) none (some (.int .i64 (b : Int))) none).run Tryz.prog w = .ok (.string (mkB (l.take b))) w := by
  rw [run_slice_string_h (P := Tryz.prog) w 9 (mkB l) Tryz.underlying9 .i64 (b : Int) (by omega) (by rw [mkB_size]; omega)]
  simp only [Int.toNat_natCast]
  rw [mkB_extract, List.drop_zero, Nat.sub_zero]

/-- What lies ahead of the first line's end, and what behind it. -/
def CutTo (S B A : Str) : Prop := (S ≠ [] → linesT S = B :: linesT A ∧ A.length < S.length) ∧ B.length ≤ S.length
set_option maxRecDepth 100000 in
theorem cut_any {w : World} (S : Str) (hl : S.length ≤ 90000) :
    Calls Tryz.prog 68 #[.string (mkB S), .string ⟨#[10]⟩] w fun e w' => ∃ B A b, e = .returned (.tuple #[.string (mkB B), .string (mkB A), .bool b]) ∧ CutTo S B A ∧ Keeps (fun _ => False) w w' := by
  have CI := Lib.hid (fun V => sh_stringslite_Index_one (mkB S) 10 V)
  rw [mkB_data] at CI
  suffices CC : Calls Tryz.prog 82 #[.string (mkB S), .string ⟨#[10]⟩] w fun e w' => ∃ B A b, e = .returned (.tuple #[.string (mkB B), .string (mkB A), .bool b]) ∧ CutTo S B A ∧ Keeps (fun _ => False) w w' by
    have CC' := Lib.hid CC
    clear CC CI
    go_enter Tryz.func68, Tryz.ntmps68
    go_wp2_with fail
    refine CC'.out.mono ?_
    rintro e w2 ⟨B, A, b, rfl, h1, h2⟩
    have H := Lib.hid (And.intro h1 h2)
    clear h1 h2
    go_wp2_with fail
    go_ret3
    exact ⟨B, A, b, rfl, H.out⟩
  have hge := Lib.indexByte_ge S 10
  by_cases hm : Lib.indexByte S 10 = -1
  · have hn := Lib.indexByte_none hm
    have C : Hid (CutTo S S []) := Lib.hid ⟨fun h0 => ⟨cut_miss h0 fun hc => by obtain ⟨j, hj⟩ := List.getElem?_of_mem hc; exact hn j hj, by cases S with | nil => exact absurd rfl h0 | cons x t => simp⟩, Nat.le_refl _⟩
    rw [hm] at CI
    clear hm hn hge
    go_enter Tryz.func82, Tryz.ntmps82
    go_wp2_with fail
    refine (CI.out _).mono ?_
    rintro e w2 ⟨rfl, rfl⟩
    go_wp2_with fail
    go_ret3
    exact ⟨S, [], false, rfl, C.out, Keeps.refl _ _⟩
  · obtain ⟨n, hn⟩ : ∃ n : Nat, Lib.indexByte S 10 = n := ⟨(Lib.indexByte S 10).toNat, by omega⟩
    obtain ⟨h1, h2⟩ := Lib.indexByte_some hn
    have hlt := (List.getElem?_eq_some_iff.1 h1).1
    have C : Hid (CutTo S (S.take n) (S.drop (n + 1))) := Lib.hid ⟨fun _ => ⟨cut_hit h1 h2, by rw [List.length_drop]; omega⟩, by rw [List.length_take]; omega⟩
    have c1 := str_to S n (by omega)
    have c2 := str_from S (n + 1) (by omega)
    have e2 : ((n + 1 : Nat) : Int) = (n : Int) + 1 := by omega
    rw [e2] at c2
    have z1 : (⟨#[10]⟩ : ByteArray).size = 1 := rfl
    have n9 : (n : Int) ≤ 90000 := by omega
    rw [hn] at CI
    clear hm hge h1 h2 hlt hn e2
    go_enter Tryz.func82, Tryz.ntmps82
    go_wp2_with fail
    refine (CI.out _).mono ?_
    rintro e w2 ⟨rfl, rfl⟩
    go_wp2_with fail
    go_region
    go_wp2_with fail
    go_ret3
    exact ⟨_, _, true, rfl, C.out, (Keeps.refl _ _).drew⟩

/-! ### the next line that has words -/
theorem split_few {b : UInt8} : ∀ (s cur : Str), ∀ x ∈ splitAll b cur s, x.length ≤ cur.length + s.length
  | [], cur, x, h => by simp [splitAll] at h; subst h; omega
  | y :: t, cur, x, h => by
    simp only [splitAll] at h
    split at h
    · rcases List.mem_cons.1 h with rfl | h
      · omega
      · have := split_few t [] x h; simp at this ⊢; omega
    · have := split_few t _ x h; simp at this ⊢; omega
theorem split_cnt {b : UInt8} : ∀ (s cur : Str), (splitAll b cur s).length ≤ s.length + 1
  | [], cur => by simp [splitAll]
  | x :: s, cur => by
    simp only [splitAll]
    split
    · have := split_cnt (b := b) s []; simp; omega
    · have := split_cnt (b := b) s (cur ++ [x]); simp; omega
theorem wordsT_few (l : Str) : (∀ x ∈ wordsT l, x.length ≤ l.length) ∧ (wordsT l).length ≤ l.length + 1 := by
  unfold wordsT
  refine ⟨fun x hx => ?_, ?_⟩
  · have := split_few l [] x (List.mem_filter.1 hx).1
    simpa using this
  · have h1 := split_cnt (b := 32) l []
    have h2 := List.length_filter_le (fun w : Str => !w.isEmpty) (splitAll 32 [] l)
    omega
def rdC (S : Str) (i : Nat) : Array Value := #[.string (mkB S), .int .i64 (i : Int)]
/-- How many bytes the reader has left. -/
def restN (r : Nat) (w : World) : Nat := match w.cell? ⟨r, 0, none⟩ with
  | some (.string s) => s.size
  | _ => 0
/-- A line's words, as next tells them. -/
def WordsAt (B : Nat) (w : World) (v : Value) (ws : List Str) : Prop := (ws = [] ∧ v = .slice none 0 0) ∨ (ws ≠ [] ∧ ∃ b, B ≤ b ∧ v = .slice (some ⟨b, 0, none⟩) ws.length ws.length ∧ StrsAt w b ws)
def NextOk (S : Str) (i : Nat) (r : Nat) (w : World) (e : Ending) (w' : World) : Prop := ∃ ws S' j v, e = .returned v ∧ NextTo S i ws S' j ∧ S'.length ≤ S.length ∧ (ws ≠ [] → j + S'.length ≤ i + S.length) ∧ Whole w' r 71 (rdC S' j) ∧ Keeps (fun k => k = r) w w' ∧ WordsAt w.heap.size w' v ws ∧ (∀ x ∈ ws, x.length ≤ S.length) ∧ ws.length ≤ S.length + 1

set_option maxRecDepth 100000 in
set_option maxHeartbeats 1000000 in
theorem tnext_any {w : World} (S : Str) (i r : Nat) (hl : i + S.length ≤ 50000) (h : Whole w r 71 (rdC S i)) :
    Calls Tryz.prog 50 #[.pointer (some ⟨r, 0, none⟩)] w (NextOk S i r w) := by
  have H := Lib.hid h
  have H0 := Lib.hid h.lt
  clear h
  go_enter Tryz.func50, Tryz.ntmps50
  go_wp2_with fail
  go_loopw [] (fun wr => ∃ (S1 : Str) (i1 : Nat), (∀ ws T j, NextTo S1 i1 ws T j → NextTo S i ws T j) ∧ S1.length ≤ S.length ∧ i1 + S1.length ≤ i + S.length ∧ Whole wr r 71 (rdC S1 i1) ∧ Keeps (fun k => k = r) w wr) (fun wr => restN r wr)
  case atStart => exact ⟨S, i, fun _ _ _ q => q, Nat.le_refl _, Nat.le_refl _, H.out, Keeps.refl _ _⟩
  case round =>
    obtain ⟨S1, i1, hn, hs, hsum, hW, hK⟩ := hrel
    have N1 := Lib.hid hn
    have W1 := Lib.hid hW
    have K1 := Lib.hid hK
    clear hn hW hK
    have c0 : wr.cell? ⟨r, 0, none⟩ = some (.string (mkB S1)) := W1.out.at_ 0
    have c1 : wr.cell? ⟨r, 1, none⟩ = some (.int .i64 (i1 : Int)) := W1.out.at_ 1
    have f0 : wr.frozen? ⟨r, 0, none⟩ = false := W1.out.free 0
    have f1 : wr.frozen? ⟨r, 1, none⟩ = false := W1.out.free 1
    have sn := str_none S1
    have b9 : (i1 : Int) ≤ 50000 := by omega
    have w64 : IntKind.i64.wrap ((i1 : Int) + 1) = (i1 : Int) + 1 := IntWalk.i64_in _ (by omega)
    have MR : Hid (restN r wr = S1.length) := Lib.hid (by unfold restN; rw [c0]; exact mkB_size S1)
    by_cases h0 : S1 = []
    · have q0 : S1.isEmpty = true := by rw [h0]; rfl
      rw [q0] at sn
      have E1 := Lib.hid (N1.out [] [] (i1 + 1) (by rw [h0]; exact next_end i1))
      have HE := Lib.hid h0
      clear q0 h0
      go_wp2_with fail
      go_ret
      refine ⟨[], [], i1 + 1, _, rfl, E1.out, Nat.zero_le _, (fun h => absurd rfl h), ?_, K1.out.setCell (p := ⟨r, 1, none⟩) (fun _ => rfl) _, .inl ⟨rfl, rfl⟩, (fun x hx => by cases hx), Nat.zero_le _⟩
      have h2 := W1.out.set_ 1 (.int .i64 ((i1 : Int) + 1))
      rw [HE.out] at h2
      exact h2
    · have q0 : S1.isEmpty = false := by cases S1 with | nil => exact absurd rfl h0 | cons x t => rfl
      rw [q0] at sn
      have CC := Lib.hid (cut_any (w := wr) S1 (by omega))
      have H1 := Lib.hid h0
      clear q0 h0
      go_wp2_with fail
      refine CC.out.mono ?_
      rintro e w3 ⟨B, A, fd, rfl, hC, hK⟩
      obtain ⟨⟨e1, e2⟩, e3⟩ : (linesT S1 = B :: linesT A ∧ A.length < S1.length) ∧ B.length ≤ S1.length := ⟨hC.1 H1.out, hC.2⟩
      have NC := Lib.hid (next_cut (i := i1) e1 e2)
      have K3 := Lib.hid (K1.out.trans hK fun _ _ => False.elim)
      have W3 := Lib.hid (W1.out.keeps hK id)
      have d0 : w3.cell? ⟨r, 0, none⟩ = some (.string (mkB S1)) := W3.out.at_ 0
      have d1 : w3.cell? ⟨r, 1, none⟩ = some (.int .i64 (i1 : Int)) := W3.out.at_ 1
      have g0 : w3.frozen? ⟨r, 0, none⟩ = false := W3.out.free 0
      have g1 : w3.frozen? ⟨r, 1, none⟩ = false := W3.out.free 1
      have CF := Lib.hid (fun V => ff_any (w := V) B (by omega))
      have hwf := wordsT_few B
      clear hC hK e1 CC
      go_wp2_with fail
      obtain ⟨W4, hW4⟩ : ∃ V, V = (w3.setCell ⟨r, 0, none⟩ (.string (mkB A))).setCell ⟨r, 1, none⟩ (.int .i64 ((i1 : Int) + 1)) := ⟨_, rfl⟩
      have K4 := Lib.hid (show Keeps (fun k => k = r) w W4 by rw [hW4]; exact (K3.out.setCell (p := ⟨r, 0, none⟩) (fun _ => rfl) _).setCell (p := ⟨r, 1, none⟩) (fun _ => rfl) _)
      have R4 := Lib.hid (show Whole W4 r 71 (rdC A (i1 + 1)) by rw [hW4]; exact (W3.out.set_ 0 (.string (mkB A))).set_ 1 (.int .i64 ((i1 : Int) + 1)))
      rw [← hW4]
      clear hW4 d0 d1 g0 g1 c0 c1 f0 f1
      refine (CF.out W4).mono ?_
      rintro e w5 ⟨b, rfl, hF, hb, hK⟩
      have hB := Nat.le_trans K4.out.size hb
      have K5 := Lib.hid (K4.out.trans hK fun _ _ => False.elim)
      have R5 := Lib.hid (R4.out.keeps hK id)
      have F5 := Lib.hid hF
      clear hK hF CF hb
      obtain ⟨ws, hws⟩ : ∃ ws, wordsT B = ws := ⟨_, rfl⟩
      rw [hws] at hwf F5 NC ⊢
      obtain ⟨n, hn⟩ : ∃ n, ws.length = n := ⟨_, rfl⟩
      have HN := Lib.hid hn
      have HF := Lib.hid hwf
      rw [hn]
      clear hws hwf hn
      by_cases hz : n = 0
      · have hwe : ws = [] := List.eq_nil_of_length_eq_zero (by rw [HN.out]; exact hz)
        have NX := Lib.hid (fun us T j (q : NextTo A (i1 + 1) us T j) => N1.out us T j (NC.out.2 hwe us T j q))
        subst hz
        clear hwe
        go_wp2_with fail
        go_roundw
        case rel => exact ⟨A, i1 + 1, NX.out, by omega, by omega, R5.out, K5.out⟩
        case measure =>
          have ha : restN r w5 = A.length := by
            have := R5.out.at_ 0
            unfold restN
            rw [this]
            exact mkB_size A
          rw [ha, MR.out]
          exact e2
      · have b0 : (0 : Int) < (n : Int) := by omega
        have hwe : ws ≠ [] := fun e => hz (by rw [← HN.out, e]; rfl)
        have NX := Lib.hid (N1.out _ _ _ (NC.out.1 hwe))
        have HW := Lib.hid hwe
        clear hwe hz
        go_wp2_with fail
        go_ret
        refine ⟨ws, A, i1 + 1, .slice (some ⟨b, 0, none⟩) n n, rfl, NX.out, by omega, (fun _ => by omega), R5.out, K5.out, .inr ⟨HW.out, b, hB, by rw [HN.out], F5.out⟩, fun x hx => ?_, ?_⟩
        · have := HF.out.1 x hx; omega
        · have := HF.out.2; omega
end Go.Proofs.YtcdlchcmidfhiaaGreatDoor

namespace Go.Proofs.YtcdlchcmidfhiaaGreatDoor
open Go.RowKit Go.Maps Go.Extern.Stop Go.Stop Go.Extern

theorem join_few {m : Nat} : ∀ (ws : List Str), (∀ x ∈ ws, x.length ≤ m) → (joinT ws).length ≤ ws.length * (m + 1)
  | [], _ => by simp [joinT]
  | [w], h => by have := h w (by simp); simp [joinT]; omega
  | w :: x :: t, h => by
    have h1 := h w (by simp)
    have h2 := join_few (x :: t) fun y hy => h y (List.mem_cons_of_mem _ hy)
    have e : (w :: x :: t).length * (m + 1) = (x :: t).length * (m + 1) + (m + 1) := by rw [List.length_cons (a := w), Nat.add_mul, Nat.one_mul]
    rw [e]
    simp only [joinT, List.length_append, List.length_cons] at h2 ⊢
    omega
/-- strings.Join of words, one blank between. -/
theorem joins_any10b {w : World} (B : Nat) (v : Value) (ws : List Str) (h : WordsAt B w v ws) (hl : ∀ x ∈ ws, x.length ≤ 50000) (hn : ws.length ≤ 50001) :
    Calls Tryz.prog 61 #[v, .string ⟨#[32]⟩] w fun e w' => e = .returned (.string (mkB (joinT ws))) ∧ Keeps (fun _ => False) w w' := by
  rcases h with ⟨rfl, rfl⟩ | ⟨hne, b, _, rfl, hS⟩
  · refine (sh_strings_Join_none none 0 ⟨#[32]⟩ w).mono ?_
    rintro e w' ⟨rfl, rfl⟩
    exact ⟨rfl, Keeps.refl _ _⟩
  · have h0 : 0 < ws.length := List.length_pos_iff.2 hne
    have em : (ws.map mkB).map (·.data.toList) = ws := by
      rw [List.map_map]
      exact (List.map_congr_left fun x _ => mkB_data x).trans (List.map_id _)
    have hj := join_few (m := 50000) ws hl
    have hj2 : ws.length * (50000 + 1) ≤ 50001 * (50000 + 1) := Nat.mul_le_mul hn (Nat.le_refl _)
    have hb : b < w.heap.size := World.block_lt_of_cell? _ _ (hS 0 ws[0] (List.getElem?_eq_getElem h0))
    have := sh_strings_Join b 0 ws.length (ws.map mkB) ⟨#[32]⟩ w (fun j x hx => by
      rw [List.getElem?_map] at hx
      obtain ⟨y, hy, rfl⟩ := Option.map_eq_some_iff.1 hx
      rw [Nat.zero_add]
      exact hS j y hy) hb (by rw [List.length_map]; omega) (by rw [List.length_map]; exact Nat.le_refl _) (by rw [em]; show (Lib.join ws [32]).length ≤ _; rw [join_lib]; omega)
    rw [List.length_map, em] at this
    refine this.mono ?_
    rintro e w' ⟨rfl, hb⟩
    refine ⟨?_, keeps_below hb⟩
    show _ = Ending.returned (.string (mkB (joinT ws)))
    rw [← join_lib]
    rfl
theorem else_join : joinT elseW = [125, 32, 101, 108, 115, 101, 32, 123] := rfl
theorem wo_else : Wo elseW := by unfold Wo; decide
theorem wo_end : Wo endW := by unfold Wo; decide
theorem wo_nil : Wo [] := by unfold Wo; decide
set_option maxRecDepth 100000 in
theorem ended_any {w : World} (B : Nat) (v : Value) (ws : List Str) (h : WordsAt B w v ws) (ho : Wo ws) (hl : ∀ x ∈ ws, x.length ≤ 50000) (hn : ws.length ≤ 50001) :
    Calls Tryz.prog 51 #[v] w fun e w' => e = .returned (.int .i64 (endN ws : Nat)) ∧ Keeps (fun _ => False) w w' := by
  have CJ := Lib.hid (joins_any10b B v ws h hl hn)
  have e1 : (joinT ws == []) = decide (ws = []) := by
    rw [Bool.eq_iff_iff]
    simp only [beq_iff_eq, decide_eq_true_eq]
    exact join_eq ho wo_nil
  have e2 : (joinT ws == [125, 32, 101, 108, 115, 101, 32, 123]) = decide (ws = elseW) := by
    rw [Bool.eq_iff_iff]
    simp only [beq_iff_eq, decide_eq_true_eq]
    exact join_eq ho wo_else
  have e3 : (joinT ws == [125]) = decide (ws = endW) := by
    rw [Bool.eq_iff_iff]
    simp only [beq_iff_eq, decide_eq_true_eq]
    exact join_eq ho wo_end
  have ee : endN ws = if ws = [] then 1 else if ws = elseW then 2 else if ws = endW then 3 else 0 := rfl
  have em : (joinT ws).isEmpty = decide (ws = []) := by rw [← e1]; cases joinT ws <;> rfl
  have ml := mkB_list (joinT ws)
  generalize joinT ws = T at *
  rw [ee]
  clear h ho hl hn ee
  by_cases h1 : ws = []
  · rw [decide_eq_true h1] at e1 em
    rw [if_pos h1]
    clear e2 e3 h1
    go_enter Tryz.func51, Tryz.ntmps51
    go_wp2_with fail
    refine CJ.out.mono ?_
    rintro e w2 ⟨rfl, hK⟩
    have K2 := Lib.hid hK
    clear hK CJ
    go_wp2_with fail
    go_ret
    exact ⟨rfl, K2.out⟩
  rw [decide_eq_false h1] at e1 em
  rw [if_neg h1]
  by_cases h2 : ws = elseW
  · rw [decide_eq_true h2] at e2
    rw [if_pos h2]
    clear e3 h1 h2
    go_enter Tryz.func51, Tryz.ntmps51
    go_wp2_with fail
    refine CJ.out.mono ?_
    rintro e w2 ⟨rfl, hK⟩
    have K2 := Lib.hid hK
    clear hK CJ
    go_wp2_with fail
    go_ret
    exact ⟨rfl, K2.out⟩
  rw [decide_eq_false h2] at e2
  rw [if_neg h2]
  by_cases h3 : ws = endW
  · rw [decide_eq_true h3] at e3
    rw [if_pos h3]
    clear h1 h2 h3
    go_enter Tryz.func51, Tryz.ntmps51
    go_wp2_with fail
    refine CJ.out.mono ?_
    rintro e w2 ⟨rfl, hK⟩
    have K2 := Lib.hid hK
    clear hK CJ
    go_wp2_with fail
    go_ret
    exact ⟨rfl, K2.out⟩
  rw [decide_eq_false h3] at e3
  rw [if_neg h3]
  clear h1 h2 h3
  go_enter Tryz.func51, Tryz.ntmps51
  go_wp2_with fail
  refine CJ.out.mono ?_
  rintro e w2 ⟨rfl, hK⟩
  have K2 := Lib.hid hK
  clear hK CJ
  go_wp2_with fail
  go_ret
  exact ⟨rfl, K2.out⟩

/-! ### what may follow -/
theorem blk_suffix : ∀ k, k < 17 → 0 < k → (1 ≤ (frmB k).length ∧ ((frmB k).drop ((frmB k).length - 1) == [123]) = isBlk (k : Int)) := by decide
set_option maxRecDepth 100000 in
theorem opens_any {w : World} (k : Nat) (h0 : 0 < k) (hk : k < 17) (hg : GlobT w) :
    Calls Tryz.prog 36 #[.int .i64 (k : Int)] w fun e w' => e = .returned (.bool (isBlk (k : Int))) ∧ w' = w := by
  obtain ⟨h1, h2⟩ := blk_suffix k hk h0
  have h20 := (frm_len k hk).1
  have F0 : w.cell? ⟨1, k, none⟩ = some (.string (mkB (frmB k))) := hg.t.frm k hk
  have kI : (k : Int) < 17 := by omega
  generalize frmB k = F at *
  generalize isBlk (k : Int) = q at *
  have hz := mkB_size F
  obtain ⟨n, hn⟩ : ∃ n, F.length = n := ⟨_, rfl⟩
  rw [hn] at hz h1 h2 h20
  have L1 : Hid (∀ V : World, Calls Tryz.prog 81 #[.string (mkB F), .string ⟨#[123]⟩] V fun e w' => e = .returned (.bool q) ∧ w' = V) := Lib.hid fun V => by
    have w1 : wrap64 ((n : Int) - 1) = (n : Int) - 1 := IntWalk.wrap64_in _ (by omega)
    have x1 : (mkB F).extract (n - 1) n = mkB (F.drop (n - 1)) := by
      rw [mkB_extract, List.take_of_length_le (by rw [List.length_drop]; omega)]
    have ml := mkB_list (F.drop (n - 1))
    have z1 : (⟨#[123]⟩ : ByteArray).size = 1 := rfl
    have n1 : (1 : Int) ≤ (n : Int) := by omega
    generalize F.drop (n - 1) = D at *
    clear hn F0 hg
    go_enter Tryz.func81, Tryz.ntmps81
    go_wp2_with fail
    go_ret
    exact ⟨rfl, rfl⟩
  have L2 : Hid (∀ V : World, Calls Tryz.prog 62 #[.string (mkB F), .string ⟨#[123]⟩] V fun e w' => e = .returned (.bool q) ∧ w' = V) := Lib.hid fun V => by
    clear hn F0 hg h2
    go_enter Tryz.func62, Tryz.ntmps62
    go_wp2_with fail
    refine (L1.out _).mono ?_
    rintro e w2 ⟨rfl, rfl⟩
    go_wp2_with fail
    go_ret
    exact ⟨rfl, rfl⟩
  clear L1 hn h1 h2 hg hz h20
  go_enter Tryz.func36, Tryz.ntmps36
  go_wp2_with fail
  refine (L2.out _).mono ?_
  rintro e w2 ⟨rfl, rfl⟩
  go_wp2_with fail
  go_ret
  exact ⟨rfl, rfl⟩
/-- May an Else be there? -/
def hasE (k : Int) : Bool := (k == 11) || (k == 14)
set_option maxRecDepth 100000 in
theorem hasElse_any {w : World} (k : Int) :
    Calls Tryz.prog 72 #[.int .i64 k] w fun e w' => e = .returned (.bool (hasE k)) ∧ w' = w := by
  unfold hasE
  go_enter Tryz.func72, Tryz.ntmps72
  go_wp2_with fail
  all_goals go_ret
  all_goals exact ⟨by simp_all, rfl⟩
end Go.Proofs.YtcdlchcmidfhiaaGreatDoor
