/-
  thread.Log by contract: a copy of the log.
-/
import Derived.Test.YtipogkgolbmgkaaGreatDoorThNew
import Derived.Laws.CopyRow
namespace Go.Proofs.YtipogkgolbmgkaaGreatDoor
open Go.RowKit Go.Extern.Stop Go.Stop Go.Extern

theorem run_makeEnts (n : Nat) (hn : n ≤ 16384) (w : World) :
    ∃ cur, cur.size = n * 6 ∧ (Instr.makeSlice 41 (.int .i64 (n : Int)) (.int .i64 (n : Int))).run Tryz.prog w = .ok (.slice (some ⟨w.heap.size, 0, none⟩) n n) (w.alloc (.cells cur 73)) := by
  obtain ⟨i, hi, hz, hs, hb⟩ := info_parts info_entry
  have hr := run_make (P := Tryz.prog) w 41 73 i _ Tryz.underlying41 hi hz .i64 .i64 n n (by omega) (Int.le_refl _) (by rw [hb]; omega) (by omega)
  simp only [Int.toNat_natCast, hs] at hr
  exact ⟨_, by simp [madeCells], hr⟩

theorem run_copyEnts (w : World) (g bw n c : Nat) (cur : Array Value) (t ty : TypeId) (log : List Ent) (hlen : log.length = n) (hg : w.heap[g]? = some (.cells cur t (0, 0))) (hcur : cur.size = n * 6) (h : ERow w (.slice (some ⟨bw, 0, none⟩) n c) log) :
    (Builtin.copy_ #[41, 41] ty #[.slice (some ⟨g, 0, none⟩) n n, .slice (some ⟨bw, 0, none⟩) n c]).run Tryz.prog w = .ok (.int .i64 (n : Int)) (w.setRow g (entCells log).toArray) := by
  obtain ⟨i, hi, hz, hs, hb⟩ := info_parts info_entry
  have hsrc : ∀ j v, (entCells log)[j]? = some v → w.cell? ((⟨bw, 0, none⟩ : Addr).add j) = some v := fun j v hv => World.ownsRow.cells h rfl j v hv
  have hl := run_loadCells_list (P := Tryz.prog) w ⟨bw, 0, none⟩ (entCells log) hsrc
  have hst := run_storeCells_at Tryz.prog g 0 t (entCells log) 0 cur w hg (by rw [entCells_len, hlen, hcur]; omega) (entCells_one log)
  have he : (entCells log).length = n * 6 := by rw [entCells_len, hlen]
  rw [he] at hl
  simp [Builtin.copy_, run_underlying Tryz.underlying41, Builtin.lenOf, Builtin.firstCells, sizeOf, typeInfo, hi, hs, hl, hst]
  exact ⟨rfl, by rw [List.drop_eq_nil_of_le (by rw [he, ← hcur]; simp), List.append_nil]⟩

theorem run_copy0 (w : World) (a : Addr) (o : Option Addr) (c : Nat) (ty : TypeId) :
    (Builtin.copy_ #[41, 41] ty #[.slice (some a) 0 0, .slice o 0 c]).run Tryz.prog w = .ok (.int .i64 0) w := by
  obtain ⟨i, hi, hz, hs, hb⟩ := info_parts info_entry
  have hl : ∀ x : Addr, (loadCells x 0).run Tryz.prog w = .ok #[] w := fun x => by simpa using run_loadCells_list (P := Tryz.prog) w x [] (fun j v h => by simp at h)
  cases o <;> simp [Builtin.copy_, run_underlying Tryz.underlying41, Builtin.lenOf, Builtin.firstCells, sizeOf, typeInfo, hi, hl, storeCells, goInt]

/-- What Log tells: the entries, in a row of their own. -/
def Logged (w : World) (log : List Ent) (e : Ending) (w' : World) : Prop :=
  ∃ g, e = .returned (.slice (some ⟨g, 0, none⟩) log.length log.length) ∧ Whole w' g 73 (entCells log).toArray ∧ w.heap.size ≤ g ∧ Keeps (fun _ => False) w w'

set_option maxRecDepth 100000 in
theorem log_any {w : World} {t : Nat} {fn : Fn} {f c : Array Value} {lv : Value} {log : List Ent} (c1 : w.cell? ⟨t, 1, none⟩ = some (.func fn f c)) (c4 : w.cell? ⟨t, 4, none⟩ = some lv) (h : ERow w lv log) (few : log.length ≤ 6000) :
    Calls Tryz.prog 14 #[.pointer (some ⟨t, 0, none⟩)] w fun e w' => Logged w log e w' := by
  obtain ⟨o, lc, rfl, ho⟩ := h.shape
  obtain ⟨cur, hcur, hmk⟩ := run_makeEnts log.length (by omega) w
  have hm := Whole.made w 73 cur
  have lt := cell_lt c1
  have hb : (log.length : Int) ≤ 6000 := by omega
  by_cases h0 : 0 < log.length
  · obtain ⟨bw, rfl⟩ := ho h0
    have hcp := run_copyEnts (w.alloc (.cells cur 73)) w.heap.size bw log.length lc cur 73 3 log rfl hm hcur (h.keeps ((Keeps.refl (fun _ => False) w).alloc _) fun _ _ => id)
    have hW : Hid (Whole ((w.alloc (.cells cur 73)).setRow w.heap.size (entCells log).toArray) w.heap.size 73 (entCells log).toArray) := Lib.hid (setRow_heap _ _ _ _ _ _ hm)
    have hK : Hid (Keeps (fun _ => False) w ((w.alloc (.cells cur 73)).setRow w.heap.size (entCells log).toArray)) := Lib.hid (((Keeps.refl _ w).alloc _).setRow (fun hlt => absurd hlt (by omega)) _)
    clear h ho hm hcur h0
    go_enter Tryz.func14, Tryz.ntmps14
    go_wp2_with (go_at_call 32; refine (tnone_there _ c1).mono ?_; rintro e w' ⟨rfl, rfl⟩)
    go_ret
    exact ⟨_, rfl, hW.out, Nat.le_refl _, hK.out⟩
  · obtain rfl : log = [] := List.eq_nil_of_length_eq_zero (by omega)
    have hcp := run_copy0 (w.alloc (.cells cur 73)) ⟨w.heap.size, 0, none⟩ o lc 3
    have hc0 : cur = #[] := Array.eq_empty_of_size_eq_zero hcur
    subst hc0
    have hm' := Lib.hid hm
    rw [show (([] : List Ent).length : Int) = 0 from rfl, show ([] : List Ent).length = 0 from rfl] at hmk
    rw [show ([] : List Ent).length = 0 from rfl] at c4
    clear h ho hm hcur h0
    go_enter Tryz.func14, Tryz.ntmps14
    go_wp2_with (go_at_call 32; refine (tnone_there _ c1).mono ?_; rintro e w' ⟨rfl, rfl⟩)
    go_ret
    exact ⟨_, rfl, hm'.out, Nat.le_refl _, (Keeps.refl _ w).alloc _⟩

theorem log_nil (w : World) : Calls Tryz.prog 14 #[.pointer none] w fun e w' => e = .returned (.slice none 0 0) ∧ w = w' := by
  go_enter Tryz.func14, Tryz.ntmps14
  go_wp2_with (go_at_call 32; refine (tnone_nil _).mono ?_; rintro e w' ⟨rfl, rfl⟩)
  go_ret
  exact ⟨rfl, rfl⟩
end Go.Proofs.YtipogkgolbmgkaaGreatDoor
