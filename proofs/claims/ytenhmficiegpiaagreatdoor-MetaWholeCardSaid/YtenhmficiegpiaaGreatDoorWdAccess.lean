/-
  words: what an arena is in memory ('Arena': its block, the block of its words, the words, how many accesses), and access by contract: a Load, a Store, a CAS that finds what it expects, one that does not, and one of a place that is not there.
-/
import Derived.Test.YtenhmficiegpiaaGreatDoorWdCheck
import Derived.Lib.Hide
namespace Go.Proofs.YtenhmficiegpiaaGreatDoor
open Go.RowKit Go.Extern.Stop Go.Stop Go.Extern

/-- The cells of words. -/
def wordCells (ws : List Int) : Array Value := (ws.map (Value.int .u64 ·)).toArray

/-- The cells of an arena: its words, the count, the last access. -/
def arenaCells (bw n : Nat) (cnt : Int) (lk la lo ln : Int) (ld : Bool) : Array Value :=
  #[.slice (some ⟨bw, 0, none⟩) n n, .int .i64 cnt, .int .i64 lk, .int .i64 la, .int .u64 lo, .int .u64 ln, .bool ld]

/-- Block a is an arena, its words are those of block bw, there are 1 to 16384, and it was accessed cnt times. -/
def Arena (w : World) (a bw : Nat) (ws : List Int) (cnt : Nat) : Prop :=
  (∃ lk la lo ln ld, Whole w a 85 (arenaCells bw ws.length cnt lk la lo ln ld)) ∧ Whole w bw 24 (wordCells ws) ∧ 0 < ws.length ∧ ws.length ≤ 16384

theorem wordCells_at (ws : List Int) (i : Nat) (hi : i < ws.length) : (wordCells ws)[i]? = some (.int .u64 (ws.getD i 0)) := by
  simp [wordCells, List.getD, hi]

theorem wordCells_set (ws : List Int) (i : Nat) (x : Int) : (wordCells ws).setIfInBounds i (.int .u64 x) = wordCells (ws.set i x) := by
  simp [wordCells, List.map_set]

theorem Arena.ne_ {w : World} {a bw : Nat} {ws : List Int} {cnt : Nat} (h : Arena w a bw ws cnt) : a ≠ bw := by
  obtain ⟨⟨lk, la, lo, ln, ld, h1⟩, h2, _⟩ := h
  exact h1.ne_ h2 (by decide)

theorem Arena.keeps {w w' : World} {a bw : Nat} {ws : List Int} {cnt : Nat} {S : Nat → Prop} (h : Arena w a bw ws cnt) (k : Keeps S w w') (ha : ¬ S a) (hb : ¬ S bw) : Arena w' a bw ws cnt := by
  obtain ⟨⟨lk, la, lo, ln, ld, h1⟩, h2, h3⟩ := h
  exact ⟨⟨lk, la, lo, ln, ld, h1.keeps k ha⟩, h2.keeps k hb, h3⟩

/-- The two blocks of an arena. -/
def Its (a bw : Nat) (k : Nat) : Prop := k = a ∨ k = bw

/-- What an access leaves: the answer; the arena, accessed once more; nothing else has changed. -/
def Accessed (w : World) (a bw : Nat) (ws : List Int) (cnt : Nat) (e : Ending) (w' : World) (k i old now : Int) (done : Bool) : Prop :=
  e = .returned (.tuple #[.agg #[.int .i64 k, .int .i64 i, .int .u64 old, .int .u64 now, .bool done], .nilIface]) ∧ Arena w' a bw ws (cnt + 1) ∧ Keeps (Its a bw) w w'

/-- An access is noted: the count and the five fields of the last access are stored. -/
theorem noted {w : World} {a bw n : Nat} {cnt lk la lo ln : Int} {ld : Bool} {cs : Array Value} (h1 : Whole w a 85 (arenaCells bw n cnt lk la lo ln ld)) (h2 : Whole w bw 24 cs) (c k i old now : Int) (d : Bool) :
    Whole ((((((w.setCell ⟨a, 1, none⟩ (.int .i64 c)).setCell ⟨a, 2, none⟩ (.int .i64 k)).setCell ⟨a, 3, none⟩ (.int .i64 i)).setCell ⟨a, 4, none⟩ (.int .u64 old)).setCell ⟨a, 5, none⟩ (.int .u64 now)).setCell ⟨a, 6, none⟩ (.bool d)) a 85 (arenaCells bw n c k i old now d) ∧
    Whole ((((((w.setCell ⟨a, 1, none⟩ (.int .i64 c)).setCell ⟨a, 2, none⟩ (.int .i64 k)).setCell ⟨a, 3, none⟩ (.int .i64 i)).setCell ⟨a, 4, none⟩ (.int .u64 old)).setCell ⟨a, 5, none⟩ (.int .u64 now)).setCell ⟨a, 6, none⟩ (.bool d)) bw 24 cs ∧
    Keeps (Its a bw) w ((((((w.setCell ⟨a, 1, none⟩ (.int .i64 c)).setCell ⟨a, 2, none⟩ (.int .i64 k)).setCell ⟨a, 3, none⟩ (.int .i64 i)).setCell ⟨a, 4, none⟩ (.int .u64 old)).setCell ⟨a, 5, none⟩ (.int .u64 now)).setCell ⟨a, 6, none⟩ (.bool d)) := by
  have hne : bw ≠ a := fun e => h1.ne_ h2 (by decide) e.symm
  refine ⟨(((((h1.set_ 1 _).set_ 2 _).set_ 3 _).set_ 4 _).set_ 5 _).set_ 6 _, (((((h2.far hne _).far hne _).far hne _).far hne _).far hne _).far hne _, ?_⟩
  exact ((((((Keeps.refl _ w).setCell (fun _ => .inl rfl) _).setCell (fun _ => .inl rfl) _).setCell (fun _ => .inl rfl) _).setCell (fun _ => .inl rfl) _).setCell (fun _ => .inl rfl) _).setCell (fun _ => .inl rfl) _

set_option maxHeartbeats 1000000 in
theorem access_load (a bw : Nat) (ws : List Int) (cnt i : Nat) (hi : i < ws.length) (hcnt : cnt ≤ 1000000) (p q : Int) (w : World) (h : Arena w a bw ws cnt) :
    Calls Tryz.prog 78 #[.pointer (some ⟨a, 0, none⟩), .int .i64 1, .int .i64 i, .int .u64 p, .int .u64 q] w fun e w' => Accessed w a bw ws cnt e w' 1 i (ws.getD i 0) (ws.getD i 0) true := by
  obtain ⟨⟨lk, la, lo, ln, ld, h1⟩, h2, h3, h4⟩ := h
  have ha := h1.lt
  have hb := h2.lt
  have hab : ¬ a = bw := h1.ne_ h2 (by decide)
  have hba : ¬ bw = a := fun e => hab e.symm
  have c0 : w.cell? ⟨a, 0, none⟩ = some (.slice (some ⟨bw, 0, none⟩) ws.length ws.length) := h1.at_ 0
  have c1 : w.cell? ⟨a, 1, none⟩ = some (.int .i64 cnt) := h1.at_ 1
  have c2 : w.cell? ⟨a, 2, none⟩ = some (.int .i64 lk) := h1.at_ 2
  have c3 : w.cell? ⟨a, 3, none⟩ = some (.int .i64 la) := h1.at_ 3
  have c4 : w.cell? ⟨a, 4, none⟩ = some (.int .u64 lo) := h1.at_ 4
  have c5 : w.cell? ⟨a, 5, none⟩ = some (.int .u64 ln) := h1.at_ 5
  have c6 : w.cell? ⟨a, 6, none⟩ = some (.bool ld) := h1.at_ 6
  have f1 := h1.free 1
  have f2 := h1.free 2
  have f3 := h1.free 3
  have f4 := h1.free 4
  have f5 := h1.free 5
  have f6 := h1.free 6
  have d0 : w.cell? ⟨bw, i, none⟩ = some (.int .u64 (ws.getD i 0)) := (h2.at_ i).trans (wordCells_at ws i hi)
  generalize ws.getD i 0 = x at d0 ⊢
  have h1' := Lib.hid h1
  have h2' := Lib.hid h2
  clear h1 h2
  go_enter Tryz.func78, Tryz.ntmps78
  go_wp2_with (go_at_call 75; refine (check_in a ⟨bw, 0, none⟩ ws.length ws.length i hi h4 _ ?_).mono ?_; exact (h1'.out.alloc _).at_ 0; rintro e w' ⟨rfl, rfl⟩)
  obtain ⟨n1, n2, n3⟩ := noted h1'.out h2'.out (cnt + 1) 1 i x x true
  exact bodyPost_ret (v := .tuple #[.agg #[.int .i64 1, .int .i64 i, .int .u64 x, .int .u64 x, .bool true], .nilIface]) (by simp [results, Tryz.results78, go_sem]) rfl ⟨rfl, ⟨⟨_, _, _, _, _, (n1.alloc _).alloc _⟩, (n2.alloc _).alloc _, h3, h4⟩, (n3.alloc _).alloc _⟩

set_option maxHeartbeats 1000000 in
theorem access_store (a bw : Nat) (ws : List Int) (cnt i : Nat) (hi : i < ws.length) (hcnt : cnt ≤ 1000000) (p q : Int) (w : World) (h : Arena w a bw ws cnt) :
    Calls Tryz.prog 78 #[.pointer (some ⟨a, 0, none⟩), .int .i64 2, .int .i64 i, .int .u64 p, .int .u64 q] w fun e w' => Accessed w a bw (ws.set i q) cnt e w' 2 i (ws.getD i 0) q true := by
  obtain ⟨⟨lk, la, lo, ln, ld, h1⟩, h2, h3, h4⟩ := h
  have ha := h1.lt
  have hb := h2.lt
  have hab : ¬ a = bw := h1.ne_ h2 (by decide)
  have hba : ¬ bw = a := fun e => hab e.symm
  have c0 : w.cell? ⟨a, 0, none⟩ = some (.slice (some ⟨bw, 0, none⟩) ws.length ws.length) := h1.at_ 0
  have c1 : w.cell? ⟨a, 1, none⟩ = some (.int .i64 cnt) := h1.at_ 1
  have c2 : w.cell? ⟨a, 2, none⟩ = some (.int .i64 lk) := h1.at_ 2
  have c3 : w.cell? ⟨a, 3, none⟩ = some (.int .i64 la) := h1.at_ 3
  have c4 : w.cell? ⟨a, 4, none⟩ = some (.int .u64 lo) := h1.at_ 4
  have c5 : w.cell? ⟨a, 5, none⟩ = some (.int .u64 ln) := h1.at_ 5
  have c6 : w.cell? ⟨a, 6, none⟩ = some (.bool ld) := h1.at_ 6
  have f1 := h1.free 1
  have f2 := h1.free 2
  have f3 := h1.free 3
  have f4 := h1.free 4
  have f5 := h1.free 5
  have f6 := h1.free 6
  have d0 : w.cell? ⟨bw, i, none⟩ = some (.int .u64 (ws.getD i 0)) := (h2.at_ i).trans (wordCells_at ws i hi)
  have g0 := h2.free i
  generalize ws.getD i 0 = x at d0 ⊢
  have h1' := Lib.hid h1
  have h2' := Lib.hid h2
  clear h1 h2
  go_enter Tryz.func78, Tryz.ntmps78
  go_wp2_with (go_at_call 75; refine (check_in a ⟨bw, 0, none⟩ ws.length ws.length i hi h4 _ ?_).mono ?_; exact (h1'.out.alloc _).at_ 0; rintro e w' ⟨rfl, rfl⟩)
  have g1 : Whole (w.setCell ⟨bw, i, none⟩ (.int .u64 q)) a 85 _ := h1'.out.far (p := ⟨bw, i, none⟩) hab (.int .u64 q)
  have g2 := h2'.out.set_ i (.int .u64 q)
  rw [wordCells_set] at g2
  obtain ⟨n1, n2, n3⟩ := noted g1 g2 (cnt + 1) 2 i x q true
  have n4 := ((Keeps.refl (Its a bw) w).setCell (p := ⟨bw, i, none⟩) (fun _ => .inr rfl) (.int .u64 q)).trans_ n3
  exact bodyPost_ret (v := .tuple #[.agg #[.int .i64 2, .int .i64 i, .int .u64 x, .int .u64 q, .bool true], .nilIface]) (by simp [results, Tryz.results78, go_sem]) rfl ⟨rfl, ⟨⟨_, _, _, _, _, by rw [List.length_set]; exact (n1.alloc _).alloc _⟩, (n2.alloc _).alloc _, by rw [List.length_set]; exact h3, by rw [List.length_set]; exact h4⟩, (n4.alloc _).alloc _⟩

set_option maxHeartbeats 1000000 in
theorem access_cas_not (a bw : Nat) (ws : List Int) (cnt i : Nat) (hi : i < ws.length) (hcnt : cnt ≤ 1000000) (p q : Int) (hne : ws.getD i 0 ≠ p) (w : World) (h : Arena w a bw ws cnt) :
    Calls Tryz.prog 78 #[.pointer (some ⟨a, 0, none⟩), .int .i64 3, .int .i64 i, .int .u64 p, .int .u64 q] w fun e w' => Accessed w a bw ws cnt e w' 3 i (ws.getD i 0) (ws.getD i 0) false := by
  obtain ⟨⟨lk, la, lo, ln, ld, h1⟩, h2, h3, h4⟩ := h
  have ha := h1.lt
  have hb := h2.lt
  have hab : ¬ a = bw := h1.ne_ h2 (by decide)
  have hba : ¬ bw = a := fun e => hab e.symm
  have c0 : w.cell? ⟨a, 0, none⟩ = some (.slice (some ⟨bw, 0, none⟩) ws.length ws.length) := h1.at_ 0
  have c1 : w.cell? ⟨a, 1, none⟩ = some (.int .i64 cnt) := h1.at_ 1
  have c2 : w.cell? ⟨a, 2, none⟩ = some (.int .i64 lk) := h1.at_ 2
  have c3 : w.cell? ⟨a, 3, none⟩ = some (.int .i64 la) := h1.at_ 3
  have c4 : w.cell? ⟨a, 4, none⟩ = some (.int .u64 lo) := h1.at_ 4
  have c5 : w.cell? ⟨a, 5, none⟩ = some (.int .u64 ln) := h1.at_ 5
  have c6 : w.cell? ⟨a, 6, none⟩ = some (.bool ld) := h1.at_ 6
  have f1 := h1.free 1
  have f2 := h1.free 2
  have f3 := h1.free 3
  have f4 := h1.free 4
  have f5 := h1.free 5
  have f6 := h1.free 6
  have d0 : w.cell? ⟨bw, i, none⟩ = some (.int .u64 (ws.getD i 0)) := (h2.at_ i).trans (wordCells_at ws i hi)
  have hx : (ws.getD i 0 == p) = false := by simpa using hne
  clear hne
  generalize ws.getD i 0 = x at d0 hx ⊢
  have h1' := Lib.hid h1
  have h2' := Lib.hid h2
  clear h1 h2
  go_enter Tryz.func78, Tryz.ntmps78
  go_wp2_with (go_at_call 75; refine (check_in a ⟨bw, 0, none⟩ ws.length ws.length i hi h4 _ ?_).mono ?_; exact (h1'.out.alloc _).at_ 0; rintro e w' ⟨rfl, rfl⟩)
  obtain ⟨n1, n2, n3⟩ := noted h1'.out h2'.out (cnt + 1) 3 i x x false
  exact bodyPost_ret (v := .tuple #[.agg #[.int .i64 3, .int .i64 i, .int .u64 x, .int .u64 x, .bool false], .nilIface]) (by simp [results, Tryz.results78, go_sem]) rfl ⟨rfl, ⟨⟨_, _, _, _, _, (n1.alloc _).alloc _⟩, (n2.alloc _).alloc _, h3, h4⟩, (n3.alloc _).alloc _⟩

set_option maxHeartbeats 1000000 in
theorem access_cas (a bw : Nat) (ws : List Int) (cnt i : Nat) (hi : i < ws.length) (hcnt : cnt ≤ 1000000) (q : Int) (w : World) (h : Arena w a bw ws cnt) :
    Calls Tryz.prog 78 #[.pointer (some ⟨a, 0, none⟩), .int .i64 3, .int .i64 i, .int .u64 (ws.getD i 0), .int .u64 q] w fun e w' => Accessed w a bw (ws.set i q) cnt e w' 3 i (ws.getD i 0) q true := by
  obtain ⟨⟨lk, la, lo, ln, ld, h1⟩, h2, h3, h4⟩ := h
  have ha := h1.lt
  have hb := h2.lt
  have hab : ¬ a = bw := h1.ne_ h2 (by decide)
  have hba : ¬ bw = a := fun e => hab e.symm
  have c0 : w.cell? ⟨a, 0, none⟩ = some (.slice (some ⟨bw, 0, none⟩) ws.length ws.length) := h1.at_ 0
  have c1 : w.cell? ⟨a, 1, none⟩ = some (.int .i64 cnt) := h1.at_ 1
  have c2 : w.cell? ⟨a, 2, none⟩ = some (.int .i64 lk) := h1.at_ 2
  have c3 : w.cell? ⟨a, 3, none⟩ = some (.int .i64 la) := h1.at_ 3
  have c4 : w.cell? ⟨a, 4, none⟩ = some (.int .u64 lo) := h1.at_ 4
  have c5 : w.cell? ⟨a, 5, none⟩ = some (.int .u64 ln) := h1.at_ 5
  have c6 : w.cell? ⟨a, 6, none⟩ = some (.bool ld) := h1.at_ 6
  have f1 := h1.free 1
  have f2 := h1.free 2
  have f3 := h1.free 3
  have f4 := h1.free 4
  have f5 := h1.free 5
  have f6 := h1.free 6
  have d0 : w.cell? ⟨bw, i, none⟩ = some (.int .u64 (ws.getD i 0)) := (h2.at_ i).trans (wordCells_at ws i hi)
  have g0 := h2.free i
  generalize ws.getD i 0 = x at d0 ⊢
  have h1' := Lib.hid h1
  have h2' := Lib.hid h2
  clear h1 h2
  go_enter Tryz.func78, Tryz.ntmps78
  go_wp2_with (go_at_call 75; refine (check_in a ⟨bw, 0, none⟩ ws.length ws.length i hi h4 _ ?_).mono ?_; exact (h1'.out.alloc _).at_ 0; rintro e w' ⟨rfl, rfl⟩)
  have g1 : Whole (w.setCell ⟨bw, i, none⟩ (.int .u64 q)) a 85 _ := h1'.out.far (p := ⟨bw, i, none⟩) hab (.int .u64 q)
  have g2 := h2'.out.set_ i (.int .u64 q)
  rw [wordCells_set] at g2
  obtain ⟨n1, n2, n3⟩ := noted g1 g2 (cnt + 1) 3 i x q true
  have n4 := ((Keeps.refl (Its a bw) w).setCell (p := ⟨bw, i, none⟩) (fun _ => .inr rfl) (.int .u64 q)).trans_ n3
  exact bodyPost_ret (v := .tuple #[.agg #[.int .i64 3, .int .i64 i, .int .u64 x, .int .u64 q, .bool true], .nilIface]) (by simp [results, Tryz.results78, go_sem]) rfl ⟨rfl, ⟨⟨_, _, _, _, _, by rw [List.length_set]; exact (n1.alloc _).alloc _⟩, (n2.alloc _).alloc _, by rw [List.length_set]; exact h3, by rw [List.length_set]; exact h4⟩, (n4.alloc _).alloc _⟩

/-- What a refused access leaves: nothing but the error, a Fault at the place. -/
def Refused (w : World) (e : Ending) (w' : World) (i : Int) : Prop :=
  ∃ p, e = .returned (.tuple #[.agg #[.int .i64 0, .int .i64 0, .int .u64 0, .int .u64 0, .bool false], .iface 96 (.pointer (some ⟨p, 0, none⟩))]) ∧ Whole w' p 99 #[.int .i64 i, .int .i64 3] ∧ Keeps (fun _ => False) w w'

theorem access_out (a bw : Nat) (ws : List Int) (cnt : Nat) (i k p q : Int) (hi : i < 0 ∨ (ws.length : Int) ≤ i) (w : World) (h : Arena w a bw ws cnt) :
    Calls Tryz.prog 78 #[.pointer (some ⟨a, 0, none⟩), .int .i64 k, .int .i64 i, .int .u64 p, .int .u64 q] w fun e w' => Refused w e w' i := by
  obtain ⟨⟨lk, la, lo, ln, ld, h1⟩, h2, h3, h4⟩ := h
  have h1' := Lib.hid h1
  have hi' := Lib.hid hi
  clear h1 h2 hi
  go_enter Tryz.func78, Tryz.ntmps78
  go_wp2_with (go_at_call 75; refine (check_out a ⟨bw, 0, none⟩ ws.length ws.length i h3 hi'.out h4 _ ?_).mono ?_; exact (h1'.out.alloc _).at_ 0; rintro e w' ⟨rfl, rfl⟩)
  refine bodyPost_ret (v := .tuple #[.agg #[.int .i64 0, .int .i64 0, .int .u64 0, .int .u64 0, .bool false], .iface 96 (.pointer (some ⟨w.heap.size + 1, 0, none⟩))]) (by simp [results, Tryz.results78, go_sem]) rfl ⟨_, rfl, ?_, ?_⟩
  · have := Whole.made (w.alloc (.cells #[.int .i64 0, .int .i64 0, .int .u64 0, .int .u64 0, .bool false] 83)) 99 #[.int .i64 i, .int .i64 3]
    simpa using this
  · exact ((Keeps.refl _ w).alloc _).alloc _

theorem access_nil (i k p q : Int) (w : World) :
    Calls Tryz.prog 78 #[.pointer none, .int .i64 k, .int .i64 i, .int .u64 p, .int .u64 q] w fun e w' => e = .returned (.tuple #[.agg #[.int .i64 0, .int .i64 0, .int .u64 0, .int .u64 0, .bool false], .iface 71 (.int .i64 1)]) ∧ Keeps (fun _ => False) w w' := by
  go_enter Tryz.func78, Tryz.ntmps78
  go_wp2_with (go_at_call 75; refine (check_nil i _).mono ?_; rintro e w' ⟨rfl, rfl⟩)
  exact bodyPost_ret (v := .tuple #[.agg #[.int .i64 0, .int .i64 0, .int .u64 0, .int .u64 0, .bool false], .iface 71 (.int .i64 1)]) (by simp [results, Tryz.results78, go_sem]) rfl ⟨rfl, (Keeps.refl _ w).alloc _⟩
end Go.Proofs.YtenhmficiegpiaaGreatDoor
