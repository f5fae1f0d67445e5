/-
  words: New, Load, Store, CAS by contract: what each answers, what the arena is behind it, and that nothing else has changed.
-/
import Derived.Test.YtenhmficiegpiaaGreatDoorWdAccess
import Derived.OwnWalk
import Derived.Laws.CopyRow
import Derived.Deep.QuietTactic
import Derived.BigQuiet
namespace Go.Proofs.YtenhmficiegpiaaGreatDoor
open Go.RowKit Go.Extern.Stop Go.Stop Go.Extern

theorem info_word : (Tryz.prog.info? 24).map (fun i => (i.zero, i.size, i.bytes)) = some (some (.int .u64 0), 1, 8) := by kernel_rfl

theorem madeWords (n : Nat) : madeCells (Value.int .u64 0).cells (n * 1) = wordCells (List.replicate n 0) := by
  have h := toList_madeCells_one (Value.int .u64 0) n
  rw [Nat.mul_one]
  apply Array.toList_inj.1
  rw [show (Value.int .u64 0).cells = #[Value.int .u64 0] from rfl, h]
  simp [wordCells]

theorem run_makeWords (n : Nat) (hn : n ≤ 16384) (w : World) :
    (Instr.makeSlice 25 (.int .i64 (n : Int)) (.int .i64 (n : Int))).run Tryz.prog w = .ok (.slice (some ⟨w.heap.size, 0, none⟩) n n) (w.alloc (.cells (wordCells (List.replicate n 0)) 24)) := by
  obtain ⟨i, hi, hz, hs, hb⟩ := info_parts info_word
  have hr := run_make (P := Tryz.prog) w 25 24 i (.int .u64 0) Tryz.underlying25 hi hz .i64 .i64 n n (by omega) (Int.le_refl _) (by rw [hb]; omega) (by omega)
  simp only [Int.toNat_natCast, hs, madeWords] at hr
  exact hr

theorem Arena.alloc {w : World} {a bw : Nat} {ws : List Int} {cnt : Nat} (h : Arena w a bw ws cnt) (o : Obj) : Arena (w.alloc o) a bw ws cnt :=
  h.keeps ((Keeps.refl (fun _ => False) w).alloc o) id id

theorem Arena.there {w : World} {a bw : Nat} {ws : List Int} {cnt : Nat} (h : Arena w a bw ws cnt) : w.cell? ⟨a, 0, none⟩ = some (.slice (some ⟨bw, 0, none⟩) ws.length ws.length) := by
  obtain ⟨⟨lk, la, lo, ln, ld, h1⟩, _⟩ := h
  exact h1.at_ 0

theorem Arena.count {w : World} {a bw : Nat} {ws : List Int} {cnt : Nat} (h : Arena w a bw ws cnt) : w.cell? ⟨a, 1, none⟩ = some (.int .i64 cnt) := by
  obtain ⟨⟨lk, la, lo, ln, ld, h1⟩, _⟩ := h
  exact h1.at_ 1

theorem Arena.lt {w : World} {a bw : Nat} {ws : List Int} {cnt : Nat} (h : Arena w a bw ws cnt) : a < w.heap.size ∧ bw < w.heap.size := by
  obtain ⟨⟨lk, la, lo, ln, ld, h1⟩, h2, _⟩ := h
  exact ⟨h1.lt, h2.lt⟩

/-- What New leaves: a new arena of n words 0. -/
def Made (w : World) (n : Nat) (e : Ending) (w' : World) : Prop :=
  ∃ a bw, e = .returned (.tuple #[.pointer (some ⟨a, 0, none⟩), .nilIface]) ∧ Arena w' a bw (List.replicate n 0) 0 ∧ w.heap.size ≤ a ∧ w.heap.size ≤ bw ∧ Keeps (fun _ => False) w w'

theorem new_in (n : Nat) (h1 : 1 ≤ n) (h2 : n ≤ 16384) (w : World) :
    Calls Tryz.prog 21 #[.int .i64 n] w fun e w' => Made w n e w' := by
  have hmk := run_makeWords n h2
  have t1 : ¬ ((n : Int) < 1) := by omega
  have t2 : ¬ ((16384 : Int) < n) := by omega
  go_enter Tryz.func21, Tryz.ntmps21
  go_wp2
  go_ret2
  have m1 := Whole.made w 24 (wordCells (List.replicate n 0))
  have m2 := Whole.made (w.alloc (.cells (wordCells (List.replicate n 0)) 24)) 85 (arenaCells w.heap.size n 0 0 0 0 0 false)
  exact ⟨w.heap.size + 1, w.heap.size, rfl, ⟨⟨0, 0, 0, 0, false, by simpa [arenaCells] using m2⟩, m1.alloc _, by simp; omega, by simpa using h2⟩, by omega, by omega, ((Keeps.refl _ w).alloc _).alloc _⟩

/-- What a Load, a Store, a CAS that is done leaves: its answer; the arena with the words ws, accessed once more; nothing else has changed. -/
def Done (w : World) (a bw : Nat) (ws : List Int) (cnt : Nat) (v : Value) (e : Ending) (w' : World) : Prop :=
  e = .returned v ∧ Arena w' a bw ws (cnt + 1) ∧ Keeps (Its a bw) w w'

theorem load_in (a bw : Nat) (ws : List Int) (cnt i : Nat) (hi : i < ws.length) (hcnt : cnt ≤ 1000000) (w : World) (h : Arena w a bw ws cnt) :
    Calls Tryz.prog 88 #[.pointer (some ⟨a, 0, none⟩), .int .i64 i] w fun e w' => Done w a bw ws cnt (.tuple #[.int .u64 (ws.getD i 0), .nilIface]) e w' := by
  have c := access_load a bw ws cnt i hi hcnt 0 0
  generalize ws.getD i 0 = x at c ⊢
  have h' := Lib.hid h
  have c' := Lib.hid c
  clear h c
  go_enter Tryz.func88, Tryz.ntmps88
  go_wp2_with (go_at_call 78; refine (c'.out _ ?_).mono ?_; exact h'.out; rintro e w' ⟨rfl, hA, hK⟩; have hA' := Lib.hid hA; have hK' := Lib.hid hK; clear hA hK)
  go_ret2
  exact ⟨rfl, hA'.out.alloc _, hK'.out.alloc _⟩

theorem store_in (a bw : Nat) (ws : List Int) (cnt i : Nat) (x : Int) (hi : i < ws.length) (hcnt : cnt ≤ 1000000) (w : World) (h : Arena w a bw ws cnt) :
    Calls Tryz.prog 65 #[.pointer (some ⟨a, 0, none⟩), .int .i64 i, .int .u64 x] w fun e w' => Done w a bw (ws.set i x) cnt .nilIface e w' := by
  have c := access_store a bw ws cnt i hi hcnt 0 x
  generalize ws.getD i 0 = y at c
  generalize ws.set i x = ws' at c ⊢
  have h' := Lib.hid h
  have c' := Lib.hid c
  clear h c
  go_enter Tryz.func65, Tryz.ntmps65
  go_wp2_with (go_at_call 78; refine (c'.out _ ?_).mono ?_; exact h'.out; rintro e w' ⟨rfl, hA, hK⟩; have hA' := Lib.hid hA; have hK' := Lib.hid hK; clear hA hK)
  go_ret
  exact ⟨rfl, hA'.out.alloc _, hK'.out.alloc _⟩

theorem cas_yes (a bw : Nat) (ws : List Int) (cnt i : Nat) (p x : Int) (hp : ws.getD i 0 = p) (hi : i < ws.length) (hcnt : cnt ≤ 1000000) (w : World) (h : Arena w a bw ws cnt) :
    Calls Tryz.prog 89 #[.pointer (some ⟨a, 0, none⟩), .int .i64 i, .int .u64 p, .int .u64 x] w fun e w' => Done w a bw (ws.set i x) cnt (.tuple #[.bool true, .nilIface]) e w' := by
  have c := access_cas a bw ws cnt i hi hcnt x
  rw [hp] at c
  generalize ws.set i x = ws' at c ⊢
  have h' := Lib.hid h
  have c' := Lib.hid c
  clear h c hp
  go_enter Tryz.func89, Tryz.ntmps89
  go_wp2_with (go_at_call 78; refine (c'.out _ ?_).mono ?_; exact h'.out; rintro e w' ⟨rfl, hA, hK⟩; have hA' := Lib.hid hA; have hK' := Lib.hid hK; clear hA hK)
  go_ret2
  exact ⟨rfl, hA'.out.alloc _, hK'.out.alloc _⟩

theorem cas_no (a bw : Nat) (ws : List Int) (cnt i : Nat) (p x : Int) (hp : ws.getD i 0 ≠ p) (hi : i < ws.length) (hcnt : cnt ≤ 1000000) (w : World) (h : Arena w a bw ws cnt) :
    Calls Tryz.prog 89 #[.pointer (some ⟨a, 0, none⟩), .int .i64 i, .int .u64 p, .int .u64 x] w fun e w' => Done w a bw ws cnt (.tuple #[.bool false, .nilIface]) e w' := by
  have c := access_cas_not a bw ws cnt i hi hcnt p x hp
  generalize ws.getD i 0 = y at c
  have h' := Lib.hid h
  have c' := Lib.hid c
  clear h c hp
  go_enter Tryz.func89, Tryz.ntmps89
  go_wp2_with (go_at_call 78; refine (c'.out _ ?_).mono ?_; exact h'.out; rintro e w' ⟨rfl, hA, hK⟩; have hA' := Lib.hid hA; have hK' := Lib.hid hK; clear hA hK)
  go_ret2
  exact ⟨rfl, hA'.out.alloc _, hK'.out.alloc _⟩
end Go.Proofs.YtenhmficiegpiaaGreatDoor
