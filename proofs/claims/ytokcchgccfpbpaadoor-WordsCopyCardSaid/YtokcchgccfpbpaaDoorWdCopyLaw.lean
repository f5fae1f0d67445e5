/-
  WordsCopy: called with any three lists of accesses, concordlaw01.WordsCopy returns true and changes nothing. The row lists the library's variable errors.errorType; the card ties it to the program's text.
-/
import Derived.Test.YtokcchgccfpbpaaDoorWdDo
import Derived.Test.YtokcchgccfpbpaaDoorWdCopy
import Derived.Test.YtokcchgccfpbpaaDoorWdAlive
import Derived.Test.YtokcchgccfpbpaaDoorWdArgs
import Derived.Test.YtokcchgccfpbpaaDoorRows
import Derived.Deep.RegionHeld3
namespace Go.Proofs.YtokcchgccfpbpaaDoor
open Go.RowKit Go.Extern.Stop Go.Stop Go.Extern

theorem copy_many1 (a : Option Addr) (len cap : Nat) (b : Option Addr) (len2 cap2 : Nat) (c : Option Addr) (len3 cap3 : Nat) (hl : 60 < len) (hm : len ≤ maxLen) (w : World) :
    Calls Tryd.prog 3 #[.slice a len cap, .slice b len2 cap2, .slice c len3 cap3] w fun e w' => e = .returned (.bool true) ∧ Below w.heap.size w w' := by
  have hl' := Lib.hid hl
  have hm' := Lib.hid hm
  clear hl hm
  go_enter Tryd.func3, Tryd.ntmps3
  go_wp2_with (first
    | (go_at_call 4; refine (play_many a len cap hl'.out hm'.out _).mono ?_; rintro e w1 ⟨rfl, hK⟩; have k1 := Lib.hid hK; clear hK)
    | (go_at_call 5; refine (alive_any _).mono ?_; rintro e w2 ⟨rfl, hK⟩; have k2 := Lib.hid hK; clear hK))
  go_ret
  exact ⟨rfl, (k1.out.trans_ k2.out).below (Nat.le_refl _) (fun _ _ h => h)⟩

theorem copy_many2 (a : Option Addr) (len cap : Nat) (b : Option Addr) (len2 cap2 : Nat) (c : Option Addr) (len3 cap3 : Nat) (hl : len ≤ 60) (h2 : (60 : Int) < len2 ∨ ¬ (60 : Int) < len2 ∧ (60 : Int) < len3) (w : World) (hin : Acts w a len) :
    Calls Tryd.prog 3 #[.slice a len cap, .slice b len2 cap2, .slice c len3 cap3] w fun e w' => e = .returned (.bool true) ∧ Below w.heap.size w w' := by
  have hl' := Lib.hid hl
  have hin' := Lib.hid hin
  clear hl hin
  rcases h2 with h2 | ⟨h2, h3⟩
  all_goals
    go_enter Tryd.func3, Tryd.ntmps3
    go_wp2_with (first
      | (go_at_call 4; refine (play_all a len cap hl'.out _ hin'.out).mono ?_; rintro e w1 ⟨ar, bw, ws, cnt, rfl, hA, hn, hc, ha, hb, hK⟩; have k1 := Lib.hid hK; clear hA hn hc ha hb hK)
      | (go_at_call 5; refine (alive_any _).mono ?_; rintro e w2 ⟨rfl, hK⟩; have k2 := Lib.hid hK; clear hK))
    go_ret
    exact ⟨rfl, (k1.out.trans_ k2.out).below (Nat.le_refl _) (fun _ _ h => h)⟩

/-- Same of two slices of the same words is true, whatever their capacities. -/
theorem same_caps (g h : Nat) (ws : List Int) (c d : Nat) (w : World) (h1 : ∀ k, k < ws.length → w.cell? ⟨g, k, none⟩ = some (.int .u64 (ws.getD k 0))) (h2 : ∀ k, k < ws.length → w.cell? ⟨h, k, none⟩ = some (.int .u64 (ws.getD k 0))) (hn : ws.length ≤ 16384) :
    Calls Tryd.prog 7 #[.slice (some ⟨g, 0, none⟩) ws.length c, .slice (some ⟨h, 0, none⟩) ws.length d] w fun e w' => e = .returned (.bool true) ∧ Keeps (fun _ => False) w w' := by
  have h1' := Lib.hid h1
  have h2' := Lib.hid h2
  clear h1 h2
  go_enter Tryd.func7, Tryd.ntmps7
  go_wp2
  go_loopw [5] (fun i wr => ∃ k n : Nat, k ≤ ws.length ∧ i = .int .i64 k ∧ wr = w.drewN n) (fun i _ => ws.length - (intOf i).toNat)
  case atStart => exact ⟨0, 0, by omega, rfl, rfl⟩
  case round =>
    obtain ⟨k, n, hk, rfl, rfl⟩ := hrel
    by_cases hlt : k < ws.length
    · have c1 := h1'.out k hlt
      have c2 := h2'.out k hlt
      generalize ws.getD k 0 = x at c1 c2
      go_wp2
      go_quiet (fail)
      go_wp2
      go_roundw
      case rel => exact ⟨k + 1, _, by omega, by go_num, rfl⟩
      case measure => simp [intOf]; omega
    · go_wp2
      go_ret
      exact ⟨rfl, (Keeps.refl _ w).drewN n⟩

theorem whole_words {w : World} {g : Nat} {ws : List Int} (h : Whole w g 35 (wordCells ws)) : ∀ k, k < ws.length → w.cell? ⟨g, k, none⟩ = some (.int .u64 (ws.getD k 0)) :=
  fun k hk => (h.at_ k).trans (wordCells_at ws k hk)

/-- The document's arena r: its words, its list of accesses va. -/
def RefAt (w : World) (r lo : Nat) (ws : List Int) (va : Value) (g c : Nat) : Prop :=
  Whole w r 34 #[.slice (some ⟨g, 0, none⟩) ws.length c, va] ∧ w.ownsRow lo 35 1 (.slice (some ⟨g, 0, none⟩) ws.length c) ws.length (wordVals ws) ∧ lo ≤ r ∧ lo ≤ g

theorem RefAt.keeps {w w' : World} {r lo s g c : Nat} {ws : List Int} {va : Value} {cs : Array Value} {S : Nat → Prop} (h : RefAt w r lo ws va g c) (k : Keeps S w w') (hS : ∀ x, lo ≤ x → x < w.heap.size → S x → x = s) (hs : Whole w s 34 cs) (hrs : r ≠ s) : RefAt w' r lo ws va g c := by
  obtain ⟨h1, h2, h3, h4⟩ := h
  refine ⟨h1.keeps k fun hx => hrs (hS r h3 h1.lt hx), ownsRow_keeps h2 k fun b hb hx => ?_, h3, h4⟩
  have hb2 := h2.lt b hb
  have := hS b hb2.1 hb2.2 hx
  exact own_whole_ne h2 hs (by decide) (by rw [hb, this])
theorem RefAt.kept {w w' : World} {r lo g c : Nat} {ws : List Int} {va : Value} (h : RefAt w r lo ws va g c) (k : Keeps (fun _ => False) w w') : RefAt w' r lo ws va g c :=
  ⟨h.1.keeps k id, ownsRow_keeps h.2.1 k fun _ _ h => h, h.2.2⟩
theorem RefAt.ref {w : World} {r lo B g c : Nat} {ws : List Int} (h : RefAt w r lo ws (.slice none 0 0) g c) (hB : lo ≤ B) : Ref w r lo B ws 0 :=
  ⟨g, c, _, [], h.1, h.2.1, World.ownsRow_nil w B _ 5, h.2.2.1, hB⟩
theorem Ref.at_ {w : World} {r lo B m : Nat} {ws : List Int} (h : Ref w r lo B ws m) : ∃ va g c, RefAt w r lo ws va g c := by
  obtain ⟨g, c, va, xs, h1, h2, h3, h4, h5⟩ := h
  exact ⟨va, g, c, h1, h2, h4, (h2.lt g rfl).1⟩
theorem RefAt.cells {w : World} {r lo g c : Nat} {ws : List Int} {va : Value} (h : RefAt w r lo ws va g c) : ∀ k, k < ws.length → w.cell? ⟨g, k, none⟩ = some (.int .u64 (ws.getD k 0)) :=
  fun k hk => (h.2.1.cellAt k (by omega)).trans (by simp [wordVals, List.getD, hk])
theorem RefAt.new {w : World} {lo g : Nat} {ws : List Int} (h : Whole w g 35 (wordCells ws)) (hg : lo ≤ g) (hl : lo ≤ w.heap.size) (hn : ws.length ≤ 16384) :
    RefAt (w.alloc (.cells #[.slice (some ⟨g, 0, none⟩) ws.length ws.length, .slice none 0 0] 34)) w.heap.size lo ws (.slice none 0 0) g ws.length := by
  refine ⟨Whole.made w _ _, World.ownsRow.alloc ⟨by simp [wordVals], .inr ⟨g, ws.length, wordCells ws, rfl, hg, h, Nat.le_refl _, by unfold maxLen; omega, by simp [wordCells], ?_⟩⟩ _, hl, hg⟩
  simp only [wordCells, wordVals, Nat.mul_one]
  exact List.take_of_length_le (by simp)

theorem either_none {a bw r B : Nat} {u v w : World} (h : Keeps (fun _ => False) u v) (k : Keeps (Either a bw r B) v w) (ha : u.heap.size ≤ a) (hb : u.heap.size ≤ bw) (hr : u.heap.size ≤ r) (hB : u.heap.size ≤ B) : Keeps (fun _ => False) u w :=
  h.trans k fun x hx hT => by
    rcases hT with (rfl | rfl) | rfl | hT <;> omega

/-- What stands before the last line: two arenas and the document's two, with the same words each. -/
def Fin (w : World) (ar aw br bw r s lo : Nat) (ws1 ws2 : List Int) (c1 m1 gr cr gs cs : Nat) (c2 : Nat) (w' : World) : Prop :=
  Arena w' ar aw ws1 c1 ∧ Arena w' br bw ws2 c2 ∧ (∃ va, RefAt w' r lo ws1 va gr cr) ∧ (∃ va, RefAt w' s lo ws2 va gs cs) ∧ Keeps (fun _ => False) w w' ∧ m1 = m1
section
variable {w : World} {ar aw br bw r s lo : Nat} {ws1 ws2 : List Int} {c1 m1 gr cr gs cs c2 : Nat} {w1 w2 : World}
theorem Fin.keeps (h : Fin w ar aw br bw r s lo ws1 ws2 c1 m1 gr cr gs cs c2 w1) (K : Keeps (fun _ => False) w1 w2) : Fin w ar aw br bw r s lo ws1 ws2 c1 m1 gr cr gs cs c2 w2 := by
  obtain ⟨h1, h2, ⟨va, h3⟩, ⟨vb, h4⟩, h5, h6⟩ := h
  exact ⟨h1.keeps K id id, h2.keeps K id id, ⟨va, h3.kept K⟩, ⟨vb, h4.kept K⟩, h5.trans_ K, h6⟩
theorem Fin.drew (h : Fin w ar aw br bw r s lo ws1 ws2 c1 m1 gr cr gs cs c2 w1) : Fin w ar aw br bw r s lo ws1 ws2 c1 m1 gr cr gs cs c2 w1.drew := h.keeps (Keeps.refl (fun _ => False) w1).drew
theorem Fin.r0 (h : Fin w ar aw br bw r s lo ws1 ws2 c1 m1 gr cr gs cs c2 w1) : w1.cell? ⟨r, 0, none⟩ = some (.slice (some ⟨gr, 0, none⟩) ws1.length cr) := by
  obtain ⟨_, _, ⟨va, h3⟩, _⟩ := h
  exact h3.1.at_ 0
theorem Fin.s0 (h : Fin w ar aw br bw r s lo ws1 ws2 c1 m1 gr cr gs cs c2 w1) : w1.cell? ⟨s, 0, none⟩ = some (.slice (some ⟨gs, 0, none⟩) ws2.length cs) := by
  obtain ⟨_, _, _, ⟨va, h4⟩, _⟩ := h
  exact h4.1.at_ 0
/-- A row of words that a call has just told. -/
def Row (g : Nat) (ws : List Int) (w : World) : Prop := Whole w g 35 (wordCells ws)
theorem Row.drew {g : Nat} {ws : List Int} (h : Row g ws w1) : Row g ws w1.drew := h
theorem fin_words_a (h : Fin w ar aw br bw r s lo ws1 ws2 c1 m1 gr cr gs cs c2 w1) :
    Calls Tryd.prog 8 #[.pointer (some ⟨ar, 0, none⟩)] w1 fun e w' => ∃ g, e = .returned (.slice (some ⟨g, 0, none⟩) ws1.length ws1.length) ∧ w'.cell? ⟨r, 0, none⟩ = some (.slice (some ⟨gr, 0, none⟩) ws1.length cr) ∧ w'.cell? ⟨s, 0, none⟩ = some (.slice (some ⟨gs, 0, none⟩) ws2.length cs) ∧ Fin w ar aw br bw r s lo ws1 ws2 c1 m1 gr cr gs cs c2 w' ∧ Row g ws1 w' := by
  refine (words_there ar aw ws1 c1 w1 h.1).mono ?_
  rintro e w' ⟨g, rfl, hW, _, hK⟩
  exact ⟨g, rfl, (h.keeps hK).r0, (h.keeps hK).s0, h.keeps hK, hW⟩
theorem fin_words_b (h : Fin w ar aw br bw r s lo ws1 ws2 c1 m1 gr cr gs cs c2 w1) :
    Calls Tryd.prog 8 #[.pointer (some ⟨br, 0, none⟩)] w1 fun e w' => ∃ g, e = .returned (.slice (some ⟨g, 0, none⟩) ws2.length ws2.length) ∧ w'.cell? ⟨r, 0, none⟩ = some (.slice (some ⟨gr, 0, none⟩) ws1.length cr) ∧ w'.cell? ⟨s, 0, none⟩ = some (.slice (some ⟨gs, 0, none⟩) ws2.length cs) ∧ Fin w ar aw br bw r s lo ws1 ws2 c1 m1 gr cr gs cs c2 w' ∧ Row g ws2 w' := by
  refine (words_there br bw ws2 c2 w1 h.2.1).mono ?_
  rintro e w' ⟨g, rfl, hW, _, hK⟩
  exact ⟨g, rfl, (h.keeps hK).r0, (h.keeps hK).s0, h.keeps hK, hW⟩
theorem fin_same_a {g : Nat} (h : Fin w ar aw br bw r s lo ws1 ws2 c1 m1 gr cr gs cs c2 w1) (hW : Row g ws1 w1) :
    Calls Tryd.prog 7 #[.slice (some ⟨g, 0, none⟩) ws1.length ws1.length, .slice (some ⟨gr, 0, none⟩) ws1.length cr] w1 fun e w' => e = .returned (.bool true) ∧ w'.cell? ⟨r, 0, none⟩ = some (.slice (some ⟨gr, 0, none⟩) ws1.length cr) ∧ w'.cell? ⟨s, 0, none⟩ = some (.slice (some ⟨gs, 0, none⟩) ws2.length cs) ∧ Fin w ar aw br bw r s lo ws1 ws2 c1 m1 gr cr gs cs c2 w' := by
  have hf := h
  obtain ⟨h1, _, ⟨va, h3⟩, _⟩ := h
  refine (same_caps g gr ws1 _ cr w1 (whole_words hW) h3.cells h1.2.2.2).mono ?_
  rintro e w' ⟨rfl, hK⟩
  exact ⟨rfl, (hf.keeps hK).r0, (hf.keeps hK).s0, hf.keeps hK⟩
theorem fin_same_b {g : Nat} (h : Fin w ar aw br bw r s lo ws1 ws2 c1 m1 gr cr gs cs c2 w1) (hW : Row g ws2 w1) :
    Calls Tryd.prog 7 #[.slice (some ⟨g, 0, none⟩) ws2.length ws2.length, .slice (some ⟨gs, 0, none⟩) ws2.length cs] w1 fun e w' => e = .returned (.bool true) ∧ w'.cell? ⟨r, 0, none⟩ = some (.slice (some ⟨gr, 0, none⟩) ws1.length cr) ∧ w'.cell? ⟨s, 0, none⟩ = some (.slice (some ⟨gs, 0, none⟩) ws2.length cs) ∧ Fin w ar aw br bw r s lo ws1 ws2 c1 m1 gr cr gs cs c2 w' := by
  have hf := h
  obtain ⟨_, h1, _, ⟨va, h3⟩, _⟩ := h
  refine (same_caps g gs ws2 _ cs w1 (whole_words hW) h3.cells h1.2.2.2).mono ?_
  rintro e w' ⟨rfl, hK⟩
  exact ⟨rfl, (hf.keeps hK).r0, (hf.keeps hK).s0, hf.keeps hK⟩
theorem fin_alive (h : Fin w ar aw br bw r s lo ws1 ws2 c1 m1 gr cr gs cs c2 w1) :
    Calls Tryd.prog 5 #[] w1 fun e w' => e = .returned (.bool true) ∧ w'.cell? ⟨r, 0, none⟩ = some (.slice (some ⟨gr, 0, none⟩) ws1.length cr) ∧ w'.cell? ⟨s, 0, none⟩ = some (.slice (some ⟨gs, 0, none⟩) ws2.length cs) ∧ Fin w ar aw br bw r s lo ws1 ws2 c1 m1 gr cr gs cs c2 w' := by
  refine (alive_any w1).mono ?_
  rintro e w' ⟨rfl, hK⟩
  exact ⟨rfl, (h.keeps hK).r0, (h.keeps hK).s0, h.keeps hK⟩
end

set_option maxRecDepth 100000 in
set_option maxHeartbeats 4000000 in
theorem copy_all (a : Option Addr) (len cap : Nat) (b : Option Addr) (len2 cap2 : Nat) (c : Option Addr) (len3 cap3 : Nat) (hl : len ≤ 60) (hl2 : len2 ≤ 60) (hl3 : len3 ≤ 60) (w : World) (hg : Glob w) (hin : Acts w a len) (hin2 : Acts w b len2) (hin3 : Acts w c len3) :
    Calls Tryd.prog 3 #[.slice a len cap, .slice b len2 cap2, .slice c len3 cap3] w fun e w' => e = .returned (.bool true) ∧ Below w.heap.size w w' := by
  have hl' := Lib.hid hl
  have t2 : ¬ (60 : Int) < len2 := by omega
  have t3 : ¬ (60 : Int) < len3 := by omega
  have hin' := Lib.hid hin
  have hin2' := Lib.hid hin2
  have hin3' := Lib.hid hin3
  have hg' := Lib.hid hg
  clear hl hin hin2 hin3 hg
  go_enter Tryd.func3, Tryd.ntmps3
  go_wp2_with fail
  refine (play_all a len cap hl'.out _ hin'.out).mono ?_
  rintro e w1 ⟨ar, aw, ws, cnt, rfl, hA, hn, hc, ha, hb, hK⟩
  have a1 := Lib.hid hA
  have k1 := Lib.hid hK
  have la := Lib.hid ha
  have lb := Lib.hid hb
  have hc' := Lib.hid hc
  have hn' := Lib.hid hn
  have h16 := Lib.hid (show ws.length ≤ 16384 by omega)
  clear hA hK ha hb hc hn
  go_wp2_with fail
  refine (copy_there ar aw ws cnt _ a1.out).mono ?_
  rintro e w2 ⟨br, bw, rfl, hA, ha, hb, hK⟩
  have b2 := Lib.hid hA
  have a2 := Lib.hid (a1.out.keeps hK id id)
  have k2 := Lib.hid (k1.out.trans_ hK)
  have lab := Lib.hid (show w1.heap.size ≤ br ∧ w1.heap.size ≤ bw from ⟨ha, hb⟩)
  have s1 := Lib.hid a1.out.lt
  have k1s := Lib.hid (show w.heap.size ≤ w1.heap.size from k1.out.size)
  clear hA hK ha hb
  go_wp2_with fail
  refine (words_there ar aw ws cnt _ a2.out).mono ?_
  rintro e w3 ⟨g3, rfl, hW, hg3, hK⟩
  have W3 := Lib.hid hW
  have a3 := Lib.hid (a2.out.keeps hK id id)
  have b3 := Lib.hid (b2.out.keeps hK id id)
  have k3 := Lib.hid (k2.out.trans_ hK)
  clear hW hg3 hK
  go_wp2_with fail
  refine (words_there br bw ws cnt _ b3.out).mono ?_
  rintro e w4 ⟨g4, rfl, hW, hg4, hK⟩
  have W4 := Lib.hid hW
  have W34 := Lib.hid (W3.out.keeps hK id)
  have a4 := Lib.hid (a3.out.keeps hK id id)
  have b4 := Lib.hid (b3.out.keeps hK id id)
  have k4 := Lib.hid (k3.out.trans_ hK)
  clear hW hg4 hK
  go_wp2_with fail
  refine (same_yes g3 g4 ws _ W34.out W4.out h16.out).mono ?_
  rintro e w5 ⟨rfl, hK⟩
  have a5 := Lib.hid (a4.out.keeps hK id id)
  have b5 := Lib.hid (b4.out.keeps hK id id)
  have k5 := Lib.hid (k4.out.trans_ hK)
  clear hK
  go_wp2_with fail
  refine (count_there ar aw ws cnt _ a5.out).mono ?_
  rintro e w' ⟨rfl, rfl⟩
  go_wp2_with fail
  refine (count_there br bw ws cnt _ b5.out).mono ?_
  rintro e w' ⟨rfl, rfl⟩
  go_wp2_with fail
  refine (words_there ar aw ws cnt _ a5.out).mono ?_
  rintro e w6 ⟨g6, rfl, hW, hg6, hK⟩
  have W6 := Lib.hid hW
  have a6 := Lib.hid (a5.out.keeps hK id id)
  have b6 := Lib.hid (b5.out.keeps hK id id)
  have k6 := Lib.hid (k5.out.trans_ hK)
  have lo6 := Lib.hid (show w5.heap.size ≤ g6 ∧ w5.heap.size ≤ w6.heap.size from ⟨hg6, hK.size⟩)
  have R6 := Lib.hid (RefAt.new W6.out lo6.out.1 lo6.out.2 h16.out)
  clear hW hg6 hK
  go_wp2_with fail
  refine (words_there ar aw ws cnt _ (a6.out.alloc _)).mono ?_
  rintro e w7 ⟨g7, rfl, hW, hg7, hK⟩
  have W7 := Lib.hid hW
  have hK7 := ((Keeps.refl (fun _ => False) w6).alloc (.cells #[.slice (some ⟨g6, 0, none⟩) ws.length ws.length, .slice none 0 0] 34)).trans_ hK
  have a7 := Lib.hid (a6.out.keeps hK7 id id)
  have b7 := Lib.hid (b6.out.keeps hK7 id id)
  have k7 := Lib.hid (k6.out.trans_ hK7)
  have R7 := Lib.hid (R6.out.kept hK)
  have lo7 := Lib.hid (show w6.heap.size < w7.heap.size ∧ w6.heap.size < g7 from ⟨by have := hK.size; simp at this; omega, by simp at hg7; omega⟩)
  clear hW hg7 hK hK7
  go_wp2_with fail
  have KO := (Keeps.refl (fun _ => False) w7).alloc (.cells #[.slice (some ⟨g7, 0, none⟩) ws.length ws.length, .slice none 0 0] 34)
  have aO := Lib.hid (a7.out.keeps KO id id)
  have bO := Lib.hid (b7.out.keeps KO id id)
  have kO := Lib.hid (k7.out.trans_ KO)
  have RO := Lib.hid (R7.out.kept KO)
  have SO := Lib.hid (RefAt.new W7.out (lo := w5.heap.size) (by have := lo7.out; have := lo6.out; omega) (by have := lo7.out; have := lo6.out; omega) h16.out)
  have zO := Lib.hid (show (w7.alloc (.cells #[.slice (some ⟨g7, 0, none⟩) ws.length ws.length, .slice none 0 0] 34)).heap.size = w7.heap.size + 1 by simp)
  have s5 := Lib.hid (show ar < w5.heap.size ∧ aw < w5.heap.size ∧ br < w5.heap.size ∧ bw < w5.heap.size from ⟨a5.out.lt.1, a5.out.lt.2, b5.out.lt.1, b5.out.lt.2⟩)
  have z5 := Lib.hid (show w.heap.size ≤ w5.heap.size from k5.out.size)
  clear a1 k1 a2 b2 k2 W3 a3 b3 k3 W4 W34 a4 b4 k4 a5 b5 k5 W6 a6 b6 k6 R6 W7 a7 b7 k7 R7 KO
  generalize w7.alloc (.cells #[.slice (some ⟨g7, 0, none⟩) ws.length ws.length, .slice none 0 0] 34) = wo at aO bO kO RO SO zO ⊢
  go_loopw [59] (fun i wr => ∃ (k cn m : Nat) (ws1 : List Int), k ≤ len2 ∧ i = .int .i64 k ∧ Both wr ar aw w6.heap.size w5.heap.size wo.heap.size ws1 cn m ∧ ws1.length = ws.length ∧ cn ≤ cnt + k ∧ m ≤ k ∧ Keeps (Either ar aw w6.heap.size wo.heap.size) wo wr) (fun i _ => len2 - (intOf i).toNat)
  case atStart =>
    have q5 := s5.out
    have ql := lo6.out
    have q7 := lo7.out
    have qz := zO.out
    exact ⟨0, cnt, 0, ws, by omega, rfl, ⟨aO.out, RO.out.ref (by omega), by omega, by omega, Nat.le_refl _⟩, rfl, by omega, by omega, Keeps.refl _ _⟩
  case round =>
    obtain ⟨k, cn, m, ws1, hk, rfl, hB, hws1, hcn, hm, hK⟩ := hrel
    have B1 := Lib.hid hB
    have K1 := Lib.hid hK
    have L1 := Lib.hid hws1
    have C1 := Lib.hid hcn
    have M1 := Lib.hid hm
    have kW := Lib.hid (either_none kO.out hK la.out lb.out (by have := z5.out; have := lo6.out; omega) kO.out.size)
    clear hB hK hws1 hcn hm
    by_cases hlt : k < len2
    · obtain ⟨b0, off, rfl, hc⟩ := (hin2'.out.keeps kW.out (fun _ _ h => h)).at_ (by omega)
      obtain ⟨kd, t, o, n, c0, c1, c2, c3⟩ := hc k hlt
      clear hc
      have hb := cell_lt c0
      go_wp2_with fail
      refine (both_any ar aw w6.heap.size w5.heap.size wo.heap.size ws1 cn m kd t o n (by have := C1.out; have := hc'.out; omega) (by have := M1.out; omega) _ ((hg'.out.keeps kW.out id).keeps ((Keeps.refl (fun _ => False) wr).alloc _) id) (B1.out.alloc _)).mono ?_
      rintro e w8 ⟨rfl, ⟨ws2, cn2, m2, hB2, hl2, hc2, hm2⟩, hK2⟩
      have B2 := Lib.hid hB2
      have L2 := Lib.hid hl2
      have C2 := Lib.hid hc2
      have M2 := Lib.hid hm2
      have K2 := Lib.hid ((K1.out.alloc _).trans_ hK2)
      clear hB2 hl2 hc2 hm2 hK2
      go_wp2_with fail
      go_roundw
      case rel => exact ⟨k + 1, cn2, m2, ws2, by omega, by go_num, B2.out, L2.out.trans L1.out, by have := C2.out; have := C1.out; omega, by have := M2.out; have := M1.out; omega, K2.out⟩
      case measure => simp [intOf]; omega
    · obtain ⟨wp, hwp⟩ : ∃ wp : World, wp = wr := ⟨_, rfl⟩
      subst hwp
      have bP := Lib.hid (bO.out.keeps K1.out (by
        have q5 := s5.out
        have ql := lo6.out
        have q7 := lo7.out
        have qz := zO.out
        have qa := s1.out
        have qb := lab.out
        have qn := aO.out.ne_
        rintro ((h | h) | h | h) <;> omega) (by
        have q5 := s5.out
        have ql := lo6.out
        have q7 := lo7.out
        have qz := zO.out
        have qa := s1.out
        have qb := lab.out
        rintro ((h | h) | h | h) <;> omega))
      have sP := Lib.hid (SO.out.keeps K1.out (s := w6.heap.size) (by
        have q5 := s5.out
        intro x hx hx2 hE
        rcases hE with (h | h) | h | h <;> omega) RO.out.1 (by have := lo7.out; omega))
      have rP := Lib.hid B1.out.2.1
      go_wp2_with fail
      go_loopw [71] (fun i wr => ∃ (j cn2 m2 : Nat) (ws2 : List Int), j ≤ len3 ∧ i = .int .i64 j ∧ Both wr br bw w7.heap.size w5.heap.size wp.heap.size ws2 cn2 m2 ∧ ws2.length = ws.length ∧ cn2 ≤ cnt + j ∧ m2 ≤ j ∧ Keeps (Either br bw w7.heap.size wp.heap.size) wp wr) (fun i _ => len3 - (intOf i).toNat)
      case atStart =>
        have q5 := s5.out
        have ql := lo6.out
        have q7 := lo7.out
        have qz := zO.out
        have qk := K1.out.size
        exact ⟨0, cnt, 0, ws, by omega, rfl, ⟨bP.out, sP.out.ref (by omega), by omega, by omega, Nat.le_refl _⟩, rfl, by omega, by omega, Keeps.refl _ _⟩
      case round =>
        obtain ⟨j, cn2, m2, ws2, hj, rfl, hB, hws2, hcn, hm, hK⟩ := hrel
        have B2 := Lib.hid hB
        have K2 := Lib.hid hK
        have L2 := Lib.hid hws2
        have C2 := Lib.hid hcn
        have M2 := Lib.hid hm
        have kV := Lib.hid (either_none kW.out hK (by have := k1s.out; have := lab.out; omega) (by have := k1s.out; have := lab.out; omega) (by have := z5.out; have := lo6.out; have := lo7.out; omega) kW.out.size)
        clear hB hK hws2 hcn hm
        by_cases hlt2 : j < len3
        · obtain ⟨b0, off, rfl, hc⟩ := (hin3'.out.keeps kV.out (fun _ _ h => h)).at_ (by omega)
          obtain ⟨kd, t, o, n, c0, c1, c2, c3⟩ := hc j hlt2
          clear hc
          have hb := cell_lt c0
          go_wp2_with fail
          refine (both_any br bw w7.heap.size w5.heap.size wp.heap.size ws2 cn2 m2 kd t o n (by have := C2.out; have := hc'.out; omega) (by have := M2.out; omega) _ ((hg'.out.keeps kV.out id).keeps ((Keeps.refl (fun _ => False) wr).alloc _) id) (B2.out.alloc _)).mono ?_
          rintro e w8 ⟨rfl, ⟨ws3, cn3, m3, hB2, hl2, hc2, hm2⟩, hK2⟩
          have B3 := Lib.hid hB2
          have L3 := Lib.hid hl2
          have C3 := Lib.hid hc2
          have M3 := Lib.hid hm2
          have K3 := Lib.hid ((K2.out.alloc _).trans_ hK2)
          clear hB2 hl2 hc2 hm2 hK2
          go_wp2_with fail
          go_roundw
          case rel => exact ⟨j + 1, cn3, m3, ws3, by omega, by go_num, B3.out, L3.out.trans L2.out, by have := C3.out; have := C2.out; omega, by have := M3.out; have := M2.out; omega, K3.out⟩
          case measure => simp [intOf]; omega
        · obtain ⟨va, gr, cr, hR⟩ := rP.out.at_
          obtain ⟨vb, gs, cs, hS⟩ := B2.out.2.1.at_
          have aF := B1.out.1.keeps K2.out (by
            have q5 := s5.out
            have ql := lo6.out
            have q7 := lo7.out
            have qz := zO.out
            have qa := s1.out
            have qb := lab.out
            have qk := K1.out.size
            rintro ((h | h) | h | h) <;> omega) (by
            have q5 := s5.out
            have ql := lo6.out
            have q7 := lo7.out
            have qz := zO.out
            have qa := s1.out
            have qb := lab.out
            have qk := K1.out.size
            rintro ((h | h) | h | h) <;> omega)
          have rF := hR.keeps K2.out (s := w7.heap.size) (by
            have q5 := s5.out
            intro x hx hx2 hE
            rcases hE with (h | h) | h | h <;> omega) sP.out.1 (by have := lo7.out; omega)
          have f1 : Fin w ar aw br bw w6.heap.size w7.heap.size w5.heap.size ws1 ws2 cn 0 gr cr gs cs cn2 wr := ⟨aF, B2.out.1, ⟨va, rF⟩, ⟨vb, hS⟩, kV.out, rfl⟩
          have e1 := f1.r0
          have e2 := f1.s0
          clear va vb hR hS aF rF
          go_wp2_with fail
          go_region_held3 (fun w' => w'.cell? ⟨w6.heap.size, 0, none⟩ = some (.slice (some ⟨gr, 0, none⟩) ws1.length cr) ∧ w'.cell? ⟨w7.heap.size, 0, none⟩ = some (.slice (some ⟨gs, 0, none⟩) ws2.length cs) ∧ Fin w ar aw br bw w6.heap.size w7.heap.size w5.heap.size ws1 ws2 cn 0 gr cr gs cs cn2 w') (first | exact ⟨e1, e2, f1⟩ | exact ⟨e1, e2, f1.drew⟩ | exact ⟨u1, u2, u5f⟩ | exact ⟨u1, u2, u5f.drew⟩ | exact ⟨v1, v2, v5f⟩ | exact ⟨v1, v2, v5f.drew⟩ | exact ⟨x1, x2, x5f⟩ | exact ⟨x1, x2, x5f.drew⟩ | exact ⟨y1, y2, y5f⟩ | exact ⟨y1, y2, y5f.drew⟩ | exact ⟨z1, z2, z5f⟩ | exact ⟨z1, z2, z5f.drew⟩) (first | (go_at_call_of 8 (Value.pointer (some ⟨ar, 0, none⟩)); refine (fin_words_a (w := w) (ar := ar) (aw := aw) (br := br) (bw := bw) (r := w6.heap.size) (s := w7.heap.size) (lo := w5.heap.size) (ws1 := ws1) (ws2 := ws2) (c1 := cn) (m1 := 0) (gr := gr) (cr := cr) (gs := gs) (cs := cs) (c2 := cn2) ?_).mono ?_; (first | exact z5f | exact z5f.drew | exact y5f | exact y5f.drew | exact x5f | exact x5f.drew | exact v5f | exact v5f.drew | exact u5f | exact u5f.drew | exact f1 | exact f1.drew); rintro e w8 ⟨g8, rfl, u1, u2, u5f, u5r⟩) | (go_at_call_of 8 (Value.pointer (some ⟨br, 0, none⟩)); refine (fin_words_b (w := w) (ar := ar) (aw := aw) (br := br) (bw := bw) (r := w6.heap.size) (s := w7.heap.size) (lo := w5.heap.size) (ws1 := ws1) (ws2 := ws2) (c1 := cn) (m1 := 0) (gr := gr) (cr := cr) (gs := gs) (cs := cs) (c2 := cn2) ?_).mono ?_; (first | exact z5f | exact z5f.drew | exact y5f | exact y5f.drew | exact x5f | exact x5f.drew | exact v5f | exact v5f.drew | exact u5f | exact u5f.drew | exact f1 | exact f1.drew); rintro e w10 ⟨g10, rfl, x1, x2, x5f, x5r⟩) | (go_at_call_of 7 (Value.slice (some ⟨g8, 0, none⟩) ws1.length ws1.length); refine (fin_same_a (w := w) (ar := ar) (aw := aw) (br := br) (bw := bw) (r := w6.heap.size) (s := w7.heap.size) (lo := w5.heap.size) (ws1 := ws1) (ws2 := ws2) (c1 := cn) (m1 := 0) (gr := gr) (cr := cr) (gs := gs) (cs := cs) (c2 := cn2) ?_ ?_).mono ?_; (first | exact z5f | exact z5f.drew | exact y5f | exact y5f.drew | exact x5f | exact x5f.drew | exact v5f | exact v5f.drew | exact u5f | exact u5f.drew | exact f1 | exact f1.drew); (first | exact u5r | exact u5r.drew); rintro e w9 ⟨rfl, v1, v2, v5f⟩) | (go_at_call_of 7 (Value.slice (some ⟨g10, 0, none⟩) ws2.length ws2.length); refine (fin_same_b (w := w) (ar := ar) (aw := aw) (br := br) (bw := bw) (r := w6.heap.size) (s := w7.heap.size) (lo := w5.heap.size) (ws1 := ws1) (ws2 := ws2) (c1 := cn) (m1 := 0) (gr := gr) (cr := cr) (gs := gs) (cs := cs) (c2 := cn2) ?_ ?_).mono ?_; (first | exact z5f | exact z5f.drew | exact y5f | exact y5f.drew | exact x5f | exact x5f.drew | exact v5f | exact v5f.drew | exact u5f | exact u5f.drew | exact f1 | exact f1.drew); (first | exact x5r | exact x5r.drew); rintro e w11 ⟨rfl, y1, y2, y5f⟩) | (go_at_call 5; refine (fin_alive (w := w) (ar := ar) (aw := aw) (br := br) (bw := bw) (r := w6.heap.size) (s := w7.heap.size) (lo := w5.heap.size) (ws1 := ws1) (ws2 := ws2) (c1 := cn) (m1 := 0) (gr := gr) (cr := cr) (gs := gs) (cs := cs) (c2 := cn2) ?_).mono ?_; (first | exact z5f | exact z5f.drew | exact y5f | exact y5f.drew | exact x5f | exact x5f.drew | exact v5f | exact v5f.drew | exact u5f | exact u5f.drew | exact f1 | exact f1.drew); rintro e w12 ⟨rfl, z1, z2, z5f⟩))
          all_goals go_wp2
          all_goals go_ret
          all_goals exact ⟨rfl, z5f.2.2.2.2.1.below (Nat.le_refl _) (fun _ _ h => h)⟩
end Go.Proofs.YtokcchgccfpbpaaDoor
