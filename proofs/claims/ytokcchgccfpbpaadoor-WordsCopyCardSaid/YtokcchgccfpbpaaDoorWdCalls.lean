/-
  words: New, Load, Store, CAS, Count, Words, Copy by contract: what each answers, what the arena is behind it, and that nothing else has changed.
-/
import Derived.Test.YtokcchgccfpbpaaDoorWdAccess
import Derived.OwnWalk
import Derived.Laws.CopyRow
import Derived.Deep.QuietTactic
import Derived.BigQuiet
namespace Go.Proofs.YtokcchgccfpbpaaDoor
open Go.RowKit Go.Extern.Stop Go.Stop Go.Extern

theorem info_word : (Tryd.prog.info? 35).map (fun i => (i.zero, i.size, i.bytes)) = some (some (.int .u64 0), 1, 8) := by kernel_rfl

theorem madeWords (n : Nat) : madeCells (Value.int .u64 0).cells (n * 1) = wordCells (List.replicate n 0) := by
  have h := toList_madeCells_one (Value.int .u64 0) n
  rw [Nat.mul_one]
  apply Array.toList_inj.1
  rw [show (Value.int .u64 0).cells = #[Value.int .u64 0] from rfl, h]
  simp [wordCells]

theorem run_makeWords (n : Nat) (hn : n ≤ 16384) (w : World) :
    (Instr.makeSlice 28 (.int .i64 (n : Int)) (.int .i64 (n : Int))).run Tryd.prog w = .ok (.slice (some ⟨w.heap.size, 0, none⟩) n n) (w.alloc (.cells (wordCells (List.replicate n 0)) 35)) := by
  obtain ⟨i, hi, hz, hs, hb⟩ := info_parts info_word
  have hr := run_make (P := Tryd.prog) w 28 35 i (.int .u64 0) Tryd.underlying28 hi hz .i64 .i64 n n (by omega) (Int.le_refl _) (by rw [hb]; omega) (by omega)
  simp only [Int.toNat_natCast, hs, madeWords] at hr
  exact hr

theorem Arena.alloc {w : World} {a bw : Nat} {ws : List Int} {cnt : Nat} (h : Arena w a bw ws cnt) (o : Obj) : Arena (w.alloc o) a bw ws cnt :=
  h.keeps ((Keeps.refl (fun _ => False) w).alloc o) id id

theorem Arena.there {w : World} {a bw : Nat} {ws : List Int} {cnt : Nat} (h : Arena w a bw ws cnt) : w.cell? ⟨a, 0, none⟩ = some (.slice (some ⟨bw, 0, none⟩) ws.length ws.length) := by
  obtain ⟨⟨lk, la, lo, ln, ld, h1⟩, _⟩ := h
  exact h1.at_ 0

theorem Arena.count {w : World} {a bw : Nat} {ws : List Int} {cnt : Nat} (h : Arena w a bw ws cnt) : w.cell? ⟨a, 1, none⟩ = some (.int .i64 cnt) := by
  obtain ⟨⟨lk, la, lo, ln, ld, h1⟩, _⟩ := h
  exact h1.at_ 1

theorem Arena.lt {w : World} {a bw : Nat} {ws : List Int} {cnt : Nat} (h : Arena w a bw ws cnt) : a < w.heap.size ∧ bw < w.heap.size := by
  obtain ⟨⟨lk, la, lo, ln, ld, h1⟩, h2, _⟩ := h
  exact ⟨h1.lt, h2.lt⟩

/-- What New leaves: a new arena of n words 0. -/
def Made (w : World) (n : Nat) (e : Ending) (w' : World) : Prop :=
  ∃ a bw, e = .returned (.tuple #[.pointer (some ⟨a, 0, none⟩), .nilIface]) ∧ Arena w' a bw (List.replicate n 0) 0 ∧ w.heap.size ≤ a ∧ w.heap.size ≤ bw ∧ Keeps (fun _ => False) w w'

theorem new_in (n : Nat) (h1 : 1 ≤ n) (h2 : n ≤ 16384) (w : World) :
    Calls Tryd.prog 11 #[.int .i64 n] w fun e w' => Made w n e w' := by
  have hmk := run_makeWords n h2
  have t1 : ¬ ((n : Int) < 1) := by omega
  have t2 : ¬ ((16384 : Int) < n) := by omega
  go_enter Tryd.func11, Tryd.ntmps11
  go_wp2
  go_ret2
  have m1 := Whole.made w 35 (wordCells (List.replicate n 0))
  have m2 := Whole.made (w.alloc (.cells (wordCells (List.replicate n 0)) 35)) 53 (arenaCells w.heap.size n 0 0 0 0 0 false)
  exact ⟨w.heap.size + 1, w.heap.size, rfl, ⟨⟨0, 0, 0, 0, false, by simpa [arenaCells] using m2⟩, m1.alloc _, by simp; omega, by simpa using h2⟩, by omega, by omega, ((Keeps.refl _ w).alloc _).alloc _⟩

/-- What a Load, a Store, a CAS that is done leaves: its answer; the arena with the words ws, accessed once more; nothing else has changed. -/
def Done (w : World) (a bw : Nat) (ws : List Int) (cnt : Nat) (v : Value) (e : Ending) (w' : World) : Prop :=
  e = .returned v ∧ Arena w' a bw ws (cnt + 1) ∧ Keeps (Its a bw) w w'

theorem load_in (a bw : Nat) (ws : List Int) (cnt i : Nat) (hi : i < ws.length) (hcnt : cnt ≤ 1000000) (w : World) (h : Arena w a bw ws cnt) :
    Calls Tryd.prog 13 #[.pointer (some ⟨a, 0, none⟩), .int .i64 i] w fun e w' => Done w a bw ws cnt (.tuple #[.int .u64 (ws.getD i 0), .nilIface]) e w' := by
  have c := access_load a bw ws cnt i hi hcnt 0 0
  generalize ws.getD i 0 = x at c ⊢
  have h' := Lib.hid h
  have c' := Lib.hid c
  clear h c
  go_enter Tryd.func13, Tryd.ntmps13
  go_wp2_with (go_at_call 20; refine (c'.out _ ?_).mono ?_; exact h'.out; rintro e w' ⟨rfl, hA, hK⟩; have hA' := Lib.hid hA; have hK' := Lib.hid hK; clear hA hK)
  go_ret2
  exact ⟨rfl, hA'.out.alloc _, hK'.out.alloc _⟩

theorem store_in (a bw : Nat) (ws : List Int) (cnt i : Nat) (x : Int) (hi : i < ws.length) (hcnt : cnt ≤ 1000000) (w : World) (h : Arena w a bw ws cnt) :
    Calls Tryd.prog 14 #[.pointer (some ⟨a, 0, none⟩), .int .i64 i, .int .u64 x] w fun e w' => Done w a bw (ws.set i x) cnt .nilIface e w' := by
  have c := access_store a bw ws cnt i hi hcnt 0 x
  generalize ws.getD i 0 = y at c
  generalize ws.set i x = ws' at c ⊢
  have h' := Lib.hid h
  have c' := Lib.hid c
  clear h c
  go_enter Tryd.func14, Tryd.ntmps14
  go_wp2_with (go_at_call 20; refine (c'.out _ ?_).mono ?_; exact h'.out; rintro e w' ⟨rfl, hA, hK⟩; have hA' := Lib.hid hA; have hK' := Lib.hid hK; clear hA hK)
  go_ret
  exact ⟨rfl, hA'.out.alloc _, hK'.out.alloc _⟩

theorem cas_yes (a bw : Nat) (ws : List Int) (cnt i : Nat) (p x : Int) (hp : ws.getD i 0 = p) (hi : i < ws.length) (hcnt : cnt ≤ 1000000) (w : World) (h : Arena w a bw ws cnt) :
    Calls Tryd.prog 15 #[.pointer (some ⟨a, 0, none⟩), .int .i64 i, .int .u64 p, .int .u64 x] w fun e w' => Done w a bw (ws.set i x) cnt (.tuple #[.bool true, .nilIface]) e w' := by
  have c := access_cas a bw ws cnt i hi hcnt x
  rw [hp] at c
  generalize ws.set i x = ws' at c ⊢
  have h' := Lib.hid h
  have c' := Lib.hid c
  clear h c hp
  go_enter Tryd.func15, Tryd.ntmps15
  go_wp2_with (go_at_call 20; refine (c'.out _ ?_).mono ?_; exact h'.out; rintro e w' ⟨rfl, hA, hK⟩; have hA' := Lib.hid hA; have hK' := Lib.hid hK; clear hA hK)
  go_ret2
  exact ⟨rfl, hA'.out.alloc _, hK'.out.alloc _⟩

theorem cas_no (a bw : Nat) (ws : List Int) (cnt i : Nat) (p x : Int) (hp : ws.getD i 0 ≠ p) (hi : i < ws.length) (hcnt : cnt ≤ 1000000) (w : World) (h : Arena w a bw ws cnt) :
    Calls Tryd.prog 15 #[.pointer (some ⟨a, 0, none⟩), .int .i64 i, .int .u64 p, .int .u64 x] w fun e w' => Done w a bw ws cnt (.tuple #[.bool false, .nilIface]) e w' := by
  have c := access_cas_not a bw ws cnt i hi hcnt p x hp
  generalize ws.getD i 0 = y at c
  have h' := Lib.hid h
  have c' := Lib.hid c
  clear h c hp
  go_enter Tryd.func15, Tryd.ntmps15
  go_wp2_with (go_at_call 20; refine (c'.out _ ?_).mono ?_; exact h'.out; rintro e w' ⟨rfl, hA, hK⟩; have hA' := Lib.hid hA; have hK' := Lib.hid hK; clear hA hK)
  go_ret2
  exact ⟨rfl, hA'.out.alloc _, hK'.out.alloc _⟩

theorem count_there (a bw : Nat) (ws : List Int) (cnt : Nat) (w : World) (h : Arena w a bw ws cnt) :
    Calls Tryd.prog 9 #[.pointer (some ⟨a, 0, none⟩)] w fun e w' => e = .returned (.int .i64 cnt) ∧ w = w' := by
  have c0 := h.there
  have c1 := h.count
  have h3 := h.2.2.1
  have h4 := h.2.2.2
  clear h
  go_enter Tryd.func9, Tryd.ntmps9
  go_wp2_with (go_at_call 16; refine (none_there a ⟨bw, 0, none⟩ ws.length ws.length h3 h4 _ c0).mono ?_; rintro e w' ⟨rfl, rfl⟩)
  go_ret
  exact ⟨rfl, rfl⟩

/-- What Words leaves: a new slice with the arena's words; nothing that was there has changed. -/
def Told (w : World) (ws : List Int) (e : Ending) (w' : World) : Prop :=
  ∃ g, e = .returned (.slice (some ⟨g, 0, none⟩) ws.length ws.length) ∧ Whole w' g 35 (wordCells ws) ∧ w.heap.size ≤ g ∧ Keeps (fun _ => False) w w'

/-- copy of all words into a new row of as many words. -/
theorem run_copyWords (bw : Nat) (ws : List Int) (w : World) (h : Whole w bw 35 (wordCells ws)) :
    ∃ w1, (Builtin.copy_ #[28, 28] 3 #[.slice (some ⟨w.heap.size, 0, none⟩) ws.length ws.length, .slice (some ⟨bw, 0, none⟩) ws.length ws.length]).run Tryd.prog (w.alloc (.cells (wordCells (List.replicate ws.length 0)) 35)) = .ok (.int .i64 ws.length) w1 ∧
      Whole w1 w.heap.size 35 (wordCells ws) ∧ Keeps (fun _ => False) w w1 := by
  have hm := Whole.made w 35 (wordCells (List.replicate ws.length 0))
  have hsrc : ∀ j v, (ws.map (Value.int .u64 ·))[j]? = some v → (w.alloc (.cells (wordCells (List.replicate ws.length 0)) 35)).cell? ((⟨bw, 0, none⟩ : Addr).add j) = some v := by
    intro j v hv
    have e1 : ((⟨bw, 0, none⟩ : Addr).add j) = ⟨bw, j, none⟩ := by
      unfold Addr.add
      split
      · subst_vars; rfl
      · simp
    rw [e1, (h.alloc _).at_ j]
    simpa [wordCells] using hv
  have hr := run_copy_row (P := Tryd.prog) (w.alloc (.cells (wordCells (List.replicate ws.length 0)) 35)) 28 28 3 35 w.heap.size 0 ws.length ws.length ⟨bw, 0, none⟩ ws.length ws.length (wordCells (List.replicate ws.length 0)) 35 (ws.map (Value.int .u64 ·)) Tryd.underlying28 (by kernel_rfl) hm (by simp) hsrc (by simp [wordCells]) (by intro v hv; simp at hv; obtain ⟨x, _, rfl⟩ := hv; rfl)
  refine ⟨_, hr.trans (by simp [goInt]; rfl), ?_, ?_⟩
  · refine (setRow_heap _ _ _ _ _ _ hm).trans ?_
    simp [wordCells]
  · exact ((Keeps.refl _ w).alloc _).setRow (fun hlt => absurd hlt (by omega)) _

theorem words_there (a bw : Nat) (ws : List Int) (cnt : Nat) (w : World) (h : Arena w a bw ws cnt) :
    Calls Tryd.prog 8 #[.pointer (some ⟨a, 0, none⟩)] w fun e w' => Told w ws e w' := by
  have c0 := h.there
  obtain ⟨w1, hcp, hW, hK⟩ := run_copyWords bw ws w h.2.1
  have h3 := h.2.2.1
  have h4 := h.2.2.2
  have ha := h.lt.1
  have hmk := run_makeWords ws.length h4
  have hW' := Lib.hid hW
  have hK' := Lib.hid hK
  clear h hW hK
  go_enter Tryd.func8, Tryd.ntmps8
  go_wp2_with (go_at_call 16; refine (none_there a ⟨bw, 0, none⟩ ws.length ws.length h3 h4 _ c0).mono ?_; rintro e w' ⟨rfl, rfl⟩)
  go_ret
  exact ⟨_, rfl, hW'.out, Nat.le_refl _, hK'.out⟩

set_option maxHeartbeats 400000 in
/-- Same of two slices of the same words is true. -/
theorem same_yes (g h : Nat) (ws : List Int) (w : World) (h1 : Whole w g 35 (wordCells ws)) (h2 : Whole w h 35 (wordCells ws)) (hn : ws.length ≤ 16384) :
    Calls Tryd.prog 7 #[.slice (some ⟨g, 0, none⟩) ws.length ws.length, .slice (some ⟨h, 0, none⟩) ws.length ws.length] w fun e w' => e = .returned (.bool true) ∧ Keeps (fun _ => False) w w' := by
  have h1' := Lib.hid h1
  have h2' := Lib.hid h2
  clear h1 h2
  go_enter Tryd.func7, Tryd.ntmps7
  go_wp2
  go_loopw [5] (fun i wr => ∃ k n : Nat, k ≤ ws.length ∧ i = .int .i64 k ∧ wr = w.drewN n) (fun i _ => ws.length - (intOf i).toNat)
  case atStart => exact ⟨0, 0, by omega, rfl, rfl⟩
  case round =>
    obtain ⟨k, n, hk, rfl, rfl⟩ := hrel
    by_cases hlt : k < ws.length
    · have c1 : w.cell? ⟨g, k, none⟩ = some (.int .u64 (ws.getD k 0)) := (h1'.out.at_ k).trans (wordCells_at ws k hlt)
      have c2 : w.cell? ⟨h, k, none⟩ = some (.int .u64 (ws.getD k 0)) := (h2'.out.at_ k).trans (wordCells_at ws k hlt)
      generalize ws.getD k 0 = x at c1 c2
      go_wp2
      go_quiet (fail)
      go_wp2
      go_roundw
      case rel => trace_state; exact ⟨k + 1, _, by omega, by go_num, rfl⟩
      case measure => simp [intOf]; omega
    · go_wp2
      go_ret
      exact ⟨rfl, (Keeps.refl _ w).drewN n⟩
end Go.Proofs.YtokcchgccfpbpaaDoor
