/-
  concordlaw01.do: an access of an arena and of the document's arena of the same words: true; both have the same words behind it.
-/
import Derived.Test.YtokcchgccfpbpaaDoorWdRef
import Derived.Test.YtokcchgccfpbpaaDoorWdPlace
import Derived.Deep.RegionWith
import Derived.Deep.QuietTactic
import Derived.BigQuiet
import Derived.Deep.RegionHeld3
namespace Go.Proofs.YtokcchgccfpbpaaDoor
open Go.RowKit Go.Extern.Stop Go.Stop Go.Extern

/-- An arena and the document's arena of the same words, apart from one another. -/
def Both (w : World) (a bw r lo B : Nat) (ws : List Int) (cnt m : Nat) : Prop :=
  Arena w a bw ws cnt ∧ Ref w r lo B ws m ∧ a < lo ∧ bw < lo ∧ B ≤ w.heap.size

/-- The blocks that an access of both may change. -/
def Either (a bw r B : Nat) (k : Nat) : Prop := Its a bw k ∨ k = r ∨ B ≤ k

/-- What an access of both leaves. -/
def Went (w : World) (a bw r lo B n cnt m : Nat) (e : Ending) (w' : World) : Prop :=
  e = .returned (.bool true) ∧ (∃ ws' cnt' m', Both w' a bw r lo B ws' cnt' m' ∧ ws'.length = n ∧ cnt' ≤ cnt + 1 ∧ m' ≤ m + 1) ∧ Keeps (Either a bw r B) w w'

theorem Both.alloc {w : World} {a bw r lo B cnt m : Nat} {ws : List Int} (h : Both w a bw r lo B ws cnt m) (o : Obj) : Both (w.alloc o) a bw r lo B ws cnt m :=
  ⟨h.1.alloc o, h.2.1.keeps ((Keeps.refl (fun _ => False) w).alloc o) (fun _ _ _ h => h), h.2.2.1, h.2.2.2.1, Nat.le_trans h.2.2.2.2 (by simp)⟩

theorem Both.done {w w' : World} {a bw r lo B cnt m : Nat} {ws ws' : List Int} {v : Value} {e : Ending} (h : Both w a bw r lo B ws cnt m) (d : Done w a bw ws' cnt v e w') : Arena w' a bw ws' (cnt + 1) ∧ Ref w' r lo B ws m ∧ B ≤ w'.heap.size := by
  refine ⟨d.2.1, h.2.1.keeps d.2.2 (fun x _ hx hS => ?_), Nat.le_trans h.2.2.2.2 d.2.2.size⟩
  have h1 := h.2.2.1
  have h2 := h.2.2.2.1
  rcases hS with rfl | rfl <;> omega

theorem Both.did {w w' : World} {a bw r lo B cnt m : Nat} {ws' : List Int} {u : Int} {d : Bool} {e : Ending} (hA : Arena w a bw ws' cnt) (hB : B ≤ w.heap.size) (ha : a < lo) (hb : bw < lo) (hlr : lo ≤ r) (hlB : lo ≤ B) (h : Did w r lo B ws' m u d e w') : Both w' a bw r lo B ws' cnt (m + 1) :=
  ⟨hA.keeps h.2.2 (by rintro (h | ⟨h, _⟩) <;> omega) (by rintro (h | ⟨h, _⟩) <;> omega), h.2.1, ha, hb, Nat.le_trans hB h.2.2.size⟩

/-- A block of another type that is neither of the arena's stays as it was over both accesses. -/
theorem its_far {w w' : World} {a bw L : Nat} {t : TypeId} {cs : Array Value} (h : Whole w L t cs) (k : Keeps (Its a bw) w w') (ha : a ≠ L) (hb : bw ≠ L) : Whole w' L t cs :=
  h.keeps k (by rintro (rfl | rfl) <;> contradiction)
theorem hers_far {w w' : World} {r B L : Nat} {t : TypeId} {cs : Array Value} (h : Whole w L t cs) (k : Keeps (Hers w r B) w w') (hr : r ≠ L) (ht : t ≠ 51) : Whole w' L t cs :=
  h.keeps k (by
    rintro (rfl | ⟨_, cs', h'⟩)
    · contradiction
    · exact h.ne_ h' ht rfl)
theorem Ref.lt {w : World} {r lo B m : Nat} {ws : List Int} (h : Ref w r lo B ws m) : r < w.heap.size := by
  obtain ⟨_, _, _, _, h1, _⟩ := h
  exact h1.lt
theorem Ref.at_least {w : World} {r lo B m : Nat} {ws : List Int} (h : Ref w r lo B ws m) : lo ≤ r ∧ lo ≤ B := by
  obtain ⟨_, _, _, _, _, _, _, h4, h5⟩ := h
  exact ⟨h4, h5⟩

theorem Keeps.both {w v w' : World} {a bw r B : Nat} (k : Keeps (Its a bw) w v) (h : Keeps (Hers v r B) v w') : Keeps (Either a bw r B) w w' :=
  (k.mono fun _ _ h => Or.inl h).trans h fun x _ hx => by
    rcases hx with rfl | ⟨hx, _⟩
    · exact .inr (.inl rfl)
    · exact .inr (.inr hx)

theorem no_nil_q (w : World) : Calls Tryd.prog 12 #[.nilIface] w fun e w' => e = .returned (.int .i64 0) ∧ w' = w := (no_nil w).mono fun _ _ h => ⟨h.1, h.2.symm⟩

set_option maxRecDepth 100000 in
set_option maxHeartbeats 2000000 in
theorem both_load_in (a bw r lo B : Nat) (ws : List Int) (cnt m i : Nat) (o n : Int) (hi : i < ws.length) (hcnt : cnt ≤ 100000) (hm : m ≤ 100000) (w : World) (h : Both w a bw r lo B ws cnt m) :
    Calls Tryd.prog 10 #[.pointer (some ⟨a, 0, none⟩), .pointer (some ⟨r, 0, none⟩), .agg #[.int .i64 1, .int .i64 i, .int .u64 o, .int .u64 n]] w fun e w' => Went w a bw r lo B ws.length cnt m e w' := by
  have hb := h.alloc (.cells #[.int .i64 1, .int .i64 i, .int .u64 o, .int .u64 n] 37)
  have h' := Lib.hid hb
  have x0 := Lib.hid (Whole.made w 37 #[.int .i64 1, .int .i64 i, .int .u64 o, .int .u64 n])
  have k0 := Lib.hid ((Keeps.refl (Its a bw) w).alloc (.cells #[.int .i64 1, .int .i64 i, .int .u64 o, .int .u64 n] 37))
  have hcnt' : cnt ≤ 1000000 := by omega
  have hn : ws.length ≤ 16384 := h.1.2.2.2
  have hlr := h.2.1.at_least
  obtain ⟨u, hu⟩ : ∃ u, ws.getD i 0 = u := ⟨_, rfl⟩
  have cl := load_in a bw ws cnt i hi hcnt'
  have cd := do_load r lo B ws m i 0 0 hi hn hm
  rw [hu] at cl cd
  have cl' := Lib.hid cl
  have cd' := Lib.hid cd
  have na : a ≠ w.heap.size := by have := h.1.lt; omega
  have nb : bw ≠ w.heap.size := by have := h.1.lt; omega
  have nr : r ≠ w.heap.size := by have := h.2.1.lt; omega
  have na' := Lib.hid na
  have nb' := Lib.hid nb
  have nr' := Lib.hid nr
  clear h hb na nb nr hu cl cd hi
  go_enter Tryd.func10, Tryd.ntmps10
  go_wp2_with fail
  refine (cl'.out _ h'.out.1).mono ?_
  rintro e w1 hd
  obtain ⟨a1, r1, b1⟩ := h'.out.done hd
  obtain ⟨rfl, hA, hK⟩ := hd
  have x1 := Lib.hid (its_far x0.out hK na'.out nb'.out)
  have k1 := Lib.hid (k0.out.trans_ hK)
  have e1 : w1.cell? ⟨w.heap.size, 1, none⟩ = some (.int .i64 i) := x1.out.at_ 1
  have a1' := Lib.hid a1
  have r1' := Lib.hid r1
  have b1' := Lib.hid b1
  clear hA hK a1 r1 b1
  go_wp2_with fail
  refine (cd'.out _ b1'.out r1'.out).mono ?_
  rintro e w2 hd
  have z2 := Lib.hid (Both.did a1'.out b1'.out h'.out.2.2.1 h'.out.2.2.2.1 hlr.1 hlr.2 hd)
  obtain ⟨rfl, _, hK⟩ := hd
  have x2 := Lib.hid (hers_far x1.out hK nr'.out (by decide))
  have k2 := Lib.hid (k1.out.both hK)
  have e2 : w2.cell? ⟨w.heap.size, 1, none⟩ = some (.int .i64 i) := x2.out.at_ 1
  clear hK
  go_wp2_with fail
  go_quiet ((go_at_call 12; exact Calls.quiet_of_same (no_nil_q _)))
  go_wp2
  go_ret
  exact ⟨rfl, ⟨ws, _, _, z2.out, rfl, Nat.le_refl _, Nat.le_refl _⟩, k2.out.drewN _⟩

set_option maxRecDepth 100000 in
set_option maxHeartbeats 2000000 in
theorem both_store (a bw r lo B : Nat) (ws : List Int) (cnt m i : Nat) (o n : Int) (hi : i < ws.length) (hcnt : cnt ≤ 100000) (hm : m ≤ 100000) (w : World) (h : Both w a bw r lo B ws cnt m) :
    Calls Tryd.prog 10 #[.pointer (some ⟨a, 0, none⟩), .pointer (some ⟨r, 0, none⟩), .agg #[.int .i64 2, .int .i64 i, .int .u64 o, .int .u64 n]] w fun e w' => Went w a bw r lo B ws.length cnt m e w' := by
  have hb := h.alloc (.cells #[.int .i64 2, .int .i64 i, .int .u64 o, .int .u64 n] 37)
  have h' := Lib.hid hb
  have x0 := Lib.hid (Whole.made w 37 #[.int .i64 2, .int .i64 i, .int .u64 o, .int .u64 n])
  have k0 := Lib.hid ((Keeps.refl (Its a bw) w).alloc (.cells #[.int .i64 2, .int .i64 i, .int .u64 o, .int .u64 n] 37))
  have hcnt' : cnt ≤ 1000000 := by omega
  have hn : ws.length ≤ 16384 := h.1.2.2.2
  have hlr := h.2.1.at_least
  obtain ⟨u, hu⟩ : ∃ u, ws.getD i 0 = u := ⟨_, rfl⟩
  have cl := store_in a bw ws cnt i n hi hcnt'
  have cd := do_store r lo B ws m i 0 n hi hn hm
  rw [hu] at cd
  have cl' := Lib.hid cl
  have cd' := Lib.hid cd
  have na : a ≠ w.heap.size := by have := h.1.lt; omega
  have nb : bw ≠ w.heap.size := by have := h.1.lt; omega
  have nr : r ≠ w.heap.size := by have := h.2.1.lt; omega
  have na' := Lib.hid na
  have nb' := Lib.hid nb
  have nr' := Lib.hid nr
  clear h hb na nb nr hu cl cd hi
  go_enter Tryd.func10, Tryd.ntmps10
  go_wp2_with fail
  refine (cl'.out _ h'.out.1).mono ?_
  rintro e w1 hd
  obtain ⟨a1, r1, b1⟩ := h'.out.done hd
  obtain ⟨rfl, hA, hK⟩ := hd
  have x1 := Lib.hid (its_far x0.out hK na'.out nb'.out)
  have k1 := Lib.hid (k0.out.trans_ hK)
  have e1 : w1.cell? ⟨w.heap.size, 1, none⟩ = some (.int .i64 i) := x1.out.at_ 1
  have e1b : w1.cell? ⟨w.heap.size, 2, none⟩ = some (.int .u64 o) := x1.out.at_ 2
  have e1c : w1.cell? ⟨w.heap.size, 3, none⟩ = some (.int .u64 n) := x1.out.at_ 3
  have a1' := Lib.hid a1
  have r1' := Lib.hid r1
  have b1' := Lib.hid b1
  clear hA hK a1 r1 b1
  go_wp2_with fail
  refine (cd'.out _ b1'.out r1'.out).mono ?_
  rintro e w2 hd
  have z2 := Lib.hid (Both.did a1'.out b1'.out h'.out.2.2.1 h'.out.2.2.2.1 hlr.1 hlr.2 hd)
  obtain ⟨rfl, _, hK⟩ := hd
  have x2 := Lib.hid (hers_far x1.out hK nr'.out (by decide))
  have k2 := Lib.hid (k1.out.both hK)
  have e2 : w2.cell? ⟨w.heap.size, 1, none⟩ = some (.int .i64 i) := x2.out.at_ 1
  clear hK
  go_wp2_with fail
  go_quiet ((go_at_call 12; exact Calls.quiet_of_same (no_nil_q _)))
  go_wp2
  go_ret
  exact ⟨rfl, ⟨_, _, _, z2.out, by simp, Nat.le_refl _, Nat.le_refl _⟩, k2.out.drewN _⟩

set_option maxRecDepth 100000 in
set_option maxHeartbeats 2000000 in
theorem both_cas_yes (a bw r lo B : Nat) (ws : List Int) (cnt m i : Nat) (o n : Int) (hp : ws.getD i 0 = o) (hi : i < ws.length) (hcnt : cnt ≤ 100000) (hm : m ≤ 100000) (w : World) (h : Both w a bw r lo B ws cnt m) :
    Calls Tryd.prog 10 #[.pointer (some ⟨a, 0, none⟩), .pointer (some ⟨r, 0, none⟩), .agg #[.int .i64 3, .int .i64 i, .int .u64 o, .int .u64 n]] w fun e w' => Went w a bw r lo B ws.length cnt m e w' := by
  have hb := h.alloc (.cells #[.int .i64 3, .int .i64 i, .int .u64 o, .int .u64 n] 37)
  have h' := Lib.hid hb
  have x0 := Lib.hid (Whole.made w 37 #[.int .i64 3, .int .i64 i, .int .u64 o, .int .u64 n])
  have k0 := Lib.hid ((Keeps.refl (Its a bw) w).alloc (.cells #[.int .i64 3, .int .i64 i, .int .u64 o, .int .u64 n] 37))
  have hcnt' : cnt ≤ 1000000 := by omega
  have hn : ws.length ≤ 16384 := h.1.2.2.2
  have hlr := h.2.1.at_least
  obtain ⟨u, hu⟩ : ∃ u, ws.getD i 0 = u := ⟨_, rfl⟩
  have cl := cas_yes a bw ws cnt i o n hp hi hcnt'
  have cd := do_cas_yes r lo B ws m i o n hp hi hn hm
  rw [hu] at cd
  have cl' := Lib.hid cl
  have cd' := Lib.hid cd
  have na : a ≠ w.heap.size := by have := h.1.lt; omega
  have nb : bw ≠ w.heap.size := by have := h.1.lt; omega
  have nr : r ≠ w.heap.size := by have := h.2.1.lt; omega
  have na' := Lib.hid na
  have nb' := Lib.hid nb
  have nr' := Lib.hid nr
  clear h hb na nb nr hu cl cd hi hp
  go_enter Tryd.func10, Tryd.ntmps10
  go_wp2_with fail
  refine (cl'.out _ h'.out.1).mono ?_
  rintro e w1 hd
  obtain ⟨a1, r1, b1⟩ := h'.out.done hd
  obtain ⟨rfl, hA, hK⟩ := hd
  have x1 := Lib.hid (its_far x0.out hK na'.out nb'.out)
  have k1 := Lib.hid (k0.out.trans_ hK)
  have e1 : w1.cell? ⟨w.heap.size, 1, none⟩ = some (.int .i64 i) := x1.out.at_ 1
  have e1b : w1.cell? ⟨w.heap.size, 2, none⟩ = some (.int .u64 o) := x1.out.at_ 2
  have e1c : w1.cell? ⟨w.heap.size, 3, none⟩ = some (.int .u64 n) := x1.out.at_ 3
  have a1' := Lib.hid a1
  have r1' := Lib.hid r1
  have b1' := Lib.hid b1
  clear hA hK a1 r1 b1
  go_wp2_with fail
  refine (cd'.out _ b1'.out r1'.out).mono ?_
  rintro e w2 hd
  have z2 := Lib.hid (Both.did a1'.out b1'.out h'.out.2.2.1 h'.out.2.2.2.1 hlr.1 hlr.2 hd)
  obtain ⟨rfl, _, hK⟩ := hd
  have x2 := Lib.hid (hers_far x1.out hK nr'.out (by decide))
  have k2 := Lib.hid (k1.out.both hK)
  have e2 : w2.cell? ⟨w.heap.size, 1, none⟩ = some (.int .i64 i) := x2.out.at_ 1
  clear hK
  go_wp2_with fail
  go_quiet ((go_at_call 12; exact Calls.quiet_of_same (no_nil_q _)))
  go_wp2
  go_ret
  exact ⟨rfl, ⟨_, _, _, z2.out, by simp, Nat.le_refl _, Nat.le_refl _⟩, k2.out.drewN _⟩

set_option maxRecDepth 100000 in
set_option maxHeartbeats 2000000 in
theorem both_cas_no (a bw r lo B : Nat) (ws : List Int) (cnt m i : Nat) (o n : Int) (hp : ws.getD i 0 ≠ o) (hi : i < ws.length) (hcnt : cnt ≤ 100000) (hm : m ≤ 100000) (w : World) (h : Both w a bw r lo B ws cnt m) :
    Calls Tryd.prog 10 #[.pointer (some ⟨a, 0, none⟩), .pointer (some ⟨r, 0, none⟩), .agg #[.int .i64 3, .int .i64 i, .int .u64 o, .int .u64 n]] w fun e w' => Went w a bw r lo B ws.length cnt m e w' := by
  have hb := h.alloc (.cells #[.int .i64 3, .int .i64 i, .int .u64 o, .int .u64 n] 37)
  have h' := Lib.hid hb
  have x0 := Lib.hid (Whole.made w 37 #[.int .i64 3, .int .i64 i, .int .u64 o, .int .u64 n])
  have k0 := Lib.hid ((Keeps.refl (Its a bw) w).alloc (.cells #[.int .i64 3, .int .i64 i, .int .u64 o, .int .u64 n] 37))
  have hcnt' : cnt ≤ 1000000 := by omega
  have hn : ws.length ≤ 16384 := h.1.2.2.2
  have hlr := h.2.1.at_least
  obtain ⟨u, hu⟩ : ∃ u, ws.getD i 0 = u := ⟨_, rfl⟩
  have cl := cas_no a bw ws cnt i o n hp hi hcnt'
  have cd := do_cas_no r lo B ws m i o n hp hi hn hm
  rw [hu] at cd
  have cl' := Lib.hid cl
  have cd' := Lib.hid cd
  have na : a ≠ w.heap.size := by have := h.1.lt; omega
  have nb : bw ≠ w.heap.size := by have := h.1.lt; omega
  have nr : r ≠ w.heap.size := by have := h.2.1.lt; omega
  have na' := Lib.hid na
  have nb' := Lib.hid nb
  have nr' := Lib.hid nr
  clear h hb na nb nr hu cl cd hi hp
  go_enter Tryd.func10, Tryd.ntmps10
  go_wp2_with fail
  refine (cl'.out _ h'.out.1).mono ?_
  rintro e w1 hd
  obtain ⟨a1, r1, b1⟩ := h'.out.done hd
  obtain ⟨rfl, hA, hK⟩ := hd
  have x1 := Lib.hid (its_far x0.out hK na'.out nb'.out)
  have k1 := Lib.hid (k0.out.trans_ hK)
  have e1 : w1.cell? ⟨w.heap.size, 1, none⟩ = some (.int .i64 i) := x1.out.at_ 1
  have e1b : w1.cell? ⟨w.heap.size, 2, none⟩ = some (.int .u64 o) := x1.out.at_ 2
  have e1c : w1.cell? ⟨w.heap.size, 3, none⟩ = some (.int .u64 n) := x1.out.at_ 3
  have a1' := Lib.hid a1
  have r1' := Lib.hid r1
  have b1' := Lib.hid b1
  clear hA hK a1 r1 b1
  go_wp2_with fail
  refine (cd'.out _ b1'.out r1'.out).mono ?_
  rintro e w2 hd
  have z2 := Lib.hid (Both.did a1'.out b1'.out h'.out.2.2.1 h'.out.2.2.2.1 hlr.1 hlr.2 hd)
  obtain ⟨rfl, _, hK⟩ := hd
  have x2 := Lib.hid (hers_far x1.out hK nr'.out (by decide))
  have k2 := Lib.hid (k1.out.both hK)
  have e2 : w2.cell? ⟨w.heap.size, 1, none⟩ = some (.int .i64 i) := x2.out.at_ 1
  clear hK
  go_wp2_with fail
  go_quiet ((go_at_call 12; exact Calls.quiet_of_same (no_nil_q _)))
  go_wp2
  go_ret
  exact ⟨rfl, ⟨ws, _, _, z2.out, rfl, Nat.le_refl _, Nat.le_refl _⟩, k2.out.drewN _⟩

/-- What holds behind two refused accesses: both are as they were, the Fault is there, and the local access. -/
def St (w : World) (a bw r lo B : Nat) (ws : List Int) (cnt m : Nat) (L p : Nat) (k t o n : Int) (w' : World) : Prop :=
  Both w' a bw r lo B ws cnt m ∧ Whole w' L 37 #[.int .i64 k, .int .i64 t, .int .u64 o, .int .u64 n] ∧ Whole w' p 65 #[.int .i64 t, .int .i64 3] ∧ Glob w' ∧ Keeps (Either a bw r B) w w'

theorem St.keeps {w : World} {a bw r lo B : Nat} {ws : List Int} {cnt m L p : Nat} {k t o n : Int} {w1 w2 : World} (h : St w a bw r lo B ws cnt m L p k t o n w1) (K : Keeps (fun _ => False) w1 w2) : St w a bw r lo B ws cnt m L p k t o n w2 :=
  ⟨⟨h.1.1.keeps K id id, h.1.2.1.keeps K (fun _ _ _ h => h), h.1.2.2.1, h.1.2.2.2.1, Nat.le_trans h.1.2.2.2.2 K.size⟩, h.2.1.keeps K id, h.2.2.1.keeps K id, h.2.2.2.1.keeps K id, h.2.2.2.2.trans K fun _ _ h => h.elim⟩

theorem St.drew {w : World} {a bw r lo B : Nat} {ws : List Int} {cnt m L p : Nat} {k t o n : Int} {w1 : World} (h : St w a bw r lo B ws cnt m L p k t o n w1) : St w a bw r lo B ws cnt m L p k t o n w1.drew :=
  h.keeps (Keeps.refl (fun _ => False) w1).drew

theorem St.at_ {w : World} {a bw r lo B : Nat} {ws : List Int} {cnt m L p : Nat} {k t o n : Int} {w1 : World} (h : St w a bw r lo B ws cnt m L p k t o n w1) : w1.cell? ⟨L, 1, none⟩ = some (.int .i64 t) := h.2.1.at_ 1

theorem st_no {w : World} {a bw r lo B : Nat} {ws : List Int} {cnt m L p : Nat} {k t o n : Int} {w1 : World} (h : St w a bw r lo B ws cnt m L p k t o n w1) :
    Calls Tryd.prog 12 #[.iface 61 (.pointer (some ⟨p, 0, none⟩))] w1 fun e w' => e = .returned (.int .i64 3) ∧ w1 = w' :=
  no_fault p 0 3 (by decide) (by decide) w1 (h.2.2.1.at_ 1)

theorem st_place {w : World} {a bw r lo B : Nat} {ws : List Int} {cnt m L p : Nat} {k t o n : Int} {w1 : World} (h : St w a bw r lo B ws cnt m L p k t o n w1) :
    Calls Tryd.prog 18 #[.iface 61 (.pointer (some ⟨p, 0, none⟩))] w1 fun e w' => e = .returned (.int .i64 t) ∧ w'.cell? ⟨L, 1, none⟩ = some (.int .i64 t) ∧ St w a bw r lo B ws cnt m L p k t o n w' := by
  refine (place_fault p t _ w1 h.2.2.2.1 h.2.2.1).mono ?_
  rintro e w' ⟨rfl, hK⟩
  exact ⟨rfl, (h.keeps hK).at_, h.keeps hK⟩

set_option maxRecDepth 100000 in
set_option maxHeartbeats 2000000 in
theorem both_load_out (a bw r lo B : Nat) (ws : List Int) (cnt m : Nat) (t o n : Int) (hi : t < 0 ∨ (ws.length : Int) ≤ t) (w : World) (hg : Glob w) (h : Both w a bw r lo B ws cnt m) :
    Calls Tryd.prog 10 #[.pointer (some ⟨a, 0, none⟩), .pointer (some ⟨r, 0, none⟩), .agg #[.int .i64 1, .int .i64 t, .int .u64 o, .int .u64 n]] w fun e w' => Went w a bw r lo B ws.length cnt m e w' := by
  have cl := load_out a bw ws cnt t hi
  have cd := do_out r lo B ws m 1 t 0 0 hi
  have cl' := Lib.hid cl
  have cd' := Lib.hid cd
  have h' := Lib.hid h
  have g' := Lib.hid hg
  clear h hg cl cd hi
  go_enter Tryd.func10, Tryd.ntmps10
  go_wp2_with fail
  refine (cl'.out _ (h'.out.alloc _).1).mono ?_
  rintro e w1 ⟨p, rfl, hP, hK⟩
  have K := ((Keeps.refl (fun _ => False) w).alloc (.cells #[.int .i64 1, .int .i64 t, .int .u64 o, .int .u64 n] 37)).trans_ hK
  have s1 : St w a bw r lo B ws cnt m w.heap.size p 1 t o n w1 := ⟨⟨h'.out.1.keeps K id id, h'.out.2.1.keeps K (fun _ _ _ h => h), h'.out.2.2.1, h'.out.2.2.2.1, Nat.le_trans h'.out.2.2.2.2 K.size⟩, (Whole.made w _ _).keeps hK id, hP, g'.out.keeps K id, K.mono fun _ _ h => h.elim⟩
  have s1' := Lib.hid s1
  have e1 := s1.at_
  clear hP hK K s1
  go_wp2_with fail
  refine (cd'.out _ s1'.out.1.2.1).mono ?_
  rintro e w' ⟨rfl, rfl⟩
  go_wp2_with fail
  have s1 := s1'.out
  go_region_held3 (fun w' => w'.cell? ⟨w.heap.size, 1, none⟩ = some (.int .i64 t) ∧ St w a bw r lo B ws cnt m w.heap.size p 1 t o n w') (first | exact ⟨e1, s1⟩ | exact ⟨e1, s1.drew⟩ | exact ⟨e2, s2⟩ | exact ⟨e2, s2.drew⟩) (first | (go_at_call 12; refine (st_no (w := w) (a := a) (bw := bw) (r := r) (lo := lo) (B := B) (ws := ws) (cnt := cnt) (m := m) (L := w.heap.size) (k := 1) (t := t) (o := o) (n := n) ?_).mono ?_; (first | exact s1 | exact s1.drew | exact s2 | exact s2.drew); rintro e w' ⟨rfl, rfl⟩) | (go_at_call 18; refine (st_place (w := w) (a := a) (bw := bw) (r := r) (lo := lo) (B := B) (ws := ws) (cnt := cnt) (m := m) (L := w.heap.size) (k := 1) (t := t) (o := o) (n := n) ?_).mono ?_; (first | exact s1 | exact s1.drew | exact s2 | exact s2.drew); rintro e w' ⟨rfl, e2, s2⟩))
  all_goals go_wp2
  all_goals go_ret
  all_goals
    refine ⟨rfl, ⟨ws, cnt, m, ?_, rfl, by omega, by omega⟩, ?_⟩
  any_goals exact s2.1
  any_goals exact s2.2.2.2.2
set_option maxRecDepth 100000 in
set_option maxHeartbeats 2000000 in
theorem both_store_out (a bw r lo B : Nat) (ws : List Int) (cnt m : Nat) (t o n : Int) (hi : t < 0 ∨ (ws.length : Int) ≤ t) (w : World) (hg : Glob w) (h : Both w a bw r lo B ws cnt m) :
    Calls Tryd.prog 10 #[.pointer (some ⟨a, 0, none⟩), .pointer (some ⟨r, 0, none⟩), .agg #[.int .i64 2, .int .i64 t, .int .u64 o, .int .u64 n]] w fun e w' => Went w a bw r lo B ws.length cnt m e w' := by
  have cl := store_out a bw ws cnt t n hi
  have cd := do_out r lo B ws m 2 t 0 n hi
  have cl' := Lib.hid cl
  have cd' := Lib.hid cd
  have h' := Lib.hid h
  have g' := Lib.hid hg
  clear h hg cl cd hi
  go_enter Tryd.func10, Tryd.ntmps10
  go_wp2_with fail
  refine (cl'.out _ (h'.out.alloc _).1).mono ?_
  rintro e w1 ⟨p, rfl, hP, hK⟩
  have K := ((Keeps.refl (fun _ => False) w).alloc (.cells #[.int .i64 2, .int .i64 t, .int .u64 o, .int .u64 n] 37)).trans_ hK
  have s1 : St w a bw r lo B ws cnt m w.heap.size p 2 t o n w1 := ⟨⟨h'.out.1.keeps K id id, h'.out.2.1.keeps K (fun _ _ _ h => h), h'.out.2.2.1, h'.out.2.2.2.1, Nat.le_trans h'.out.2.2.2.2 K.size⟩, (Whole.made w _ _).keeps hK id, hP, g'.out.keeps K id, K.mono fun _ _ h => h.elim⟩
  have s1' := Lib.hid s1
  have e1 := s1.at_
  have e1b : w1.cell? ⟨w.heap.size, 2, none⟩ = some (.int .u64 o) := s1.2.1.at_ 2
  have e1c : w1.cell? ⟨w.heap.size, 3, none⟩ = some (.int .u64 n) := s1.2.1.at_ 3
  clear hP hK K s1
  go_wp2_with fail
  refine (cd'.out _ s1'.out.1.2.1).mono ?_
  rintro e w' ⟨rfl, rfl⟩
  go_wp2_with fail
  have s1 := s1'.out
  go_region_held3 (fun w' => w'.cell? ⟨w.heap.size, 1, none⟩ = some (.int .i64 t) ∧ St w a bw r lo B ws cnt m w.heap.size p 2 t o n w') (first | exact ⟨e1, s1⟩ | exact ⟨e1, s1.drew⟩ | exact ⟨e2, s2⟩ | exact ⟨e2, s2.drew⟩) (first | (go_at_call 12; refine (st_no (w := w) (a := a) (bw := bw) (r := r) (lo := lo) (B := B) (ws := ws) (cnt := cnt) (m := m) (L := w.heap.size) (k := 2) (t := t) (o := o) (n := n) ?_).mono ?_; (first | exact s1 | exact s1.drew | exact s2 | exact s2.drew); rintro e w' ⟨rfl, rfl⟩) | (go_at_call 18; refine (st_place (w := w) (a := a) (bw := bw) (r := r) (lo := lo) (B := B) (ws := ws) (cnt := cnt) (m := m) (L := w.heap.size) (k := 2) (t := t) (o := o) (n := n) ?_).mono ?_; (first | exact s1 | exact s1.drew | exact s2 | exact s2.drew); rintro e w' ⟨rfl, e2, s2⟩))
  all_goals go_wp2
  all_goals go_ret
  all_goals
    refine ⟨rfl, ⟨ws, cnt, m, ?_, rfl, by omega, by omega⟩, ?_⟩
  any_goals exact s2.1
  any_goals exact s2.2.2.2.2
set_option maxRecDepth 100000 in
set_option maxHeartbeats 2000000 in
theorem both_cas_out (a bw r lo B : Nat) (ws : List Int) (cnt m : Nat) (t o n : Int) (hi : t < 0 ∨ (ws.length : Int) ≤ t) (w : World) (hg : Glob w) (h : Both w a bw r lo B ws cnt m) :
    Calls Tryd.prog 10 #[.pointer (some ⟨a, 0, none⟩), .pointer (some ⟨r, 0, none⟩), .agg #[.int .i64 3, .int .i64 t, .int .u64 o, .int .u64 n]] w fun e w' => Went w a bw r lo B ws.length cnt m e w' := by
  have cl := cas_out a bw ws cnt t o n hi
  have cd := do_out r lo B ws m 3 t o n hi
  have cl' := Lib.hid cl
  have cd' := Lib.hid cd
  have h' := Lib.hid h
  have g' := Lib.hid hg
  clear h hg cl cd hi
  go_enter Tryd.func10, Tryd.ntmps10
  go_wp2_with fail
  refine (cl'.out _ (h'.out.alloc _).1).mono ?_
  rintro e w1 ⟨p, rfl, hP, hK⟩
  have K := ((Keeps.refl (fun _ => False) w).alloc (.cells #[.int .i64 3, .int .i64 t, .int .u64 o, .int .u64 n] 37)).trans_ hK
  have s1 : St w a bw r lo B ws cnt m w.heap.size p 3 t o n w1 := ⟨⟨h'.out.1.keeps K id id, h'.out.2.1.keeps K (fun _ _ _ h => h), h'.out.2.2.1, h'.out.2.2.2.1, Nat.le_trans h'.out.2.2.2.2 K.size⟩, (Whole.made w _ _).keeps hK id, hP, g'.out.keeps K id, K.mono fun _ _ h => h.elim⟩
  have s1' := Lib.hid s1
  have e1 := s1.at_
  have e1b : w1.cell? ⟨w.heap.size, 2, none⟩ = some (.int .u64 o) := s1.2.1.at_ 2
  have e1c : w1.cell? ⟨w.heap.size, 3, none⟩ = some (.int .u64 n) := s1.2.1.at_ 3
  clear hP hK K s1
  go_wp2_with fail
  refine (cd'.out _ s1'.out.1.2.1).mono ?_
  rintro e w' ⟨rfl, rfl⟩
  go_wp2_with fail
  have s1 := s1'.out
  refine wp_region_noPanic ?_
  refine wp_region_held_drew (S := (fun w' => w'.cell? ⟨w.heap.size, 1, none⟩ = some (.int .i64 t) ∧ St w a bw r lo B ws cnt m w.heap.size p 3 t o n w')) (by kernel_rfl) ⟨e1, s1.drew⟩ (fun hHeld => ?_)
  refine wpAnyH_take (i := 0) (oi := ⟨some 118, _, _, _, _, _⟩) (v := .bool false) rfl (by kernel_rfl) (by kernel_rfl) (by kernel_rfl) (fun _ _ _ h => h) (Or.inl ⟨by rfl, ?_⟩) hHeld ?_
  · intro w' hSw
    go_split_ands
    go_simp
  try simp only [Act.put, List.setIfInBounds_toArray, List.set_cons_zero, List.set_cons_succ]
  refine wpAnyH_take (i := 1) (oi := ⟨some 119, _, _, _, _, _⟩) (v := .bool false) rfl (by kernel_rfl) (by kernel_rfl) (by kernel_rfl) (fun _ _ _ h => h) (Or.inl ⟨by rfl, ?_⟩) hHeld ?_
  · intro w' hSw
    go_split_ands
    go_simp
  try simp only [Act.put, List.setIfInBounds_toArray, List.set_cons_zero, List.set_cons_succ]
  refine wpAnyH_take (i := 2) (oi := ⟨some 120, _, _, _, _, _⟩) (v := .bool false) rfl (by kernel_rfl) (by kernel_rfl) (by kernel_rfl) (fun _ _ _ h => h) (Or.inl ⟨by rfl, ?_⟩) hHeld ?_
  · intro w' hSw
    go_split_ands
    go_simp
  try simp only [Act.put, List.setIfInBounds_toArray, List.set_cons_zero, List.set_cons_succ]
  refine wpAnyH_take (i := 3) (oi := ⟨some 121, _, _, _, _, _⟩) (v := undef) rfl (by kernel_rfl) (by kernel_rfl) (by kernel_rfl) (fun _ _ _ h => h) (Or.inr ⟨by rfl, rfl⟩) hHeld ?_
  try simp only [Act.put, List.setIfInBounds_toArray, List.set_cons_zero, List.set_cons_succ]
  refine wpAnyH_take (i := 4) (oi := ⟨some 122, _, _, _, _, _⟩) (v := undef) rfl (by kernel_rfl) (by kernel_rfl) (by kernel_rfl) (fun _ _ _ h => h) (Or.inr ⟨by rfl, rfl⟩) hHeld ?_
  try simp only [Act.put, List.setIfInBounds_toArray, List.set_cons_zero, List.set_cons_succ]
  refine wpAnyH_take (i := 5) (oi := ⟨some 123, _, _, _, _, _⟩) (v := .bool false) rfl (by kernel_rfl) (by kernel_rfl) (by kernel_rfl) (fun _ _ _ h => h) (Or.inl ⟨by rfl, ?_⟩) hHeld ?_
  · intro w' hSw
    go_split_ands
    go_simp
  try simp only [Act.put, List.setIfInBounds_toArray, List.set_cons_zero, List.set_cons_succ]
  refine wpAnyH_take (i := 6) (oi := ⟨some 124, _, _, _, _, _⟩) (v := .bool true) rfl (by kernel_rfl) (by kernel_rfl) (by kernel_rfl) (fun _ _ _ h => h) (Or.inl ⟨by rfl, ?_⟩) hHeld ?_
  · intro w' hSw
    go_split_ands
    go_simp
  try simp only [Act.put, List.setIfInBounds_toArray, List.set_cons_zero, List.set_cons_succ]
  refine wpAnyH_take (i := 7) (oi := ⟨some 125, _, _, _, _, _⟩) (v := .bool true) rfl (by kernel_rfl) (by kernel_rfl) (by kernel_rfl) (fun _ _ _ h => h) (Or.inl ⟨by rfl, ?_⟩) hHeld ?_
  · intro w' hSw
    go_split_ands
    go_simp
  try simp only [Act.put, List.setIfInBounds_toArray, List.set_cons_zero, List.set_cons_succ]
  refine wpAnyH_take (i := 8) (oi := ⟨some 126, _, _, _, _, _⟩) (v := .iface 61 (.pointer (some ⟨p, 0, none⟩))) rfl (by kernel_rfl) (by kernel_rfl) (by kernel_rfl) (fun _ _ _ h => h) (Or.inl ⟨by rfl, ?_⟩) hHeld ?_
  · intro w' hSw
    go_split_ands
    go_simp
  try simp only [Act.put, List.setIfInBounds_toArray, List.set_cons_zero, List.set_cons_succ]
  refine wpAnyH_take (i := 10) (oi := ⟨some 128, _, _, _, _, _⟩) (v := .int .i64 3) rfl (by kernel_rfl) (by kernel_rfl) (by kernel_rfl) (fun _ _ _ h => h) (Or.inl ⟨by rfl, ?_⟩) hHeld ?_
  · intro w' hSw
    go_split_ands
    go_simp
  try simp only [Act.put, List.setIfInBounds_toArray, List.set_cons_zero, List.set_cons_succ]
  refine wpAnyH_ready (rs := [9]) (by kernel_rfl) (by simp) ?_
  refine AllReadyH.cons (o := ⟨some 127, _, _, _, _, _⟩) rfl (fun K hK => ?_) AllReadyH.nil
  rw [if_pos (by rfl)]
  go_wp2_with fail
  refine (st_no (w := w) (a := a) (bw := bw) (r := r) (lo := lo) (B := B) (ws := ws) (cnt := cnt) (m := m) (L := w.heap.size) (k := 3) (t := t) (o := o) (n := n) ?_).mono ?_
  · exact s1.drew
  rintro e w' ⟨rfl, rfl⟩
  go_wp2_with fail
  refine hK.out _ _ ⟨e1, s1.drew⟩ (fun hHeld2 => ?_)
  clear hK hHeld
  try simp only [Act.put, List.setIfInBounds_toArray, List.set_cons_zero, List.set_cons_succ]
  refine wpAnyH_take (i := 11) (oi := ⟨some 129, _, _, _, _, _⟩) (v := .bool true) rfl (by kernel_rfl) (by kernel_rfl) (by kernel_rfl) (fun _ _ _ h => h) (Or.inl ⟨by rfl, ?_⟩) hHeld2 ?_
  · intro w' hSw
    go_split_ands
    go_simp
  try simp only [Act.put, List.setIfInBounds_toArray, List.set_cons_zero, List.set_cons_succ]
  refine wpAnyH_take (i := 12) (oi := ⟨some 130, _, _, _, _, _⟩) (v := .bool true) rfl (by kernel_rfl) (by kernel_rfl) (by kernel_rfl) (fun _ _ _ h => h) (Or.inl ⟨by rfl, ?_⟩) hHeld2 ?_
  · intro w' hSw
    go_split_ands
    go_simp
  try simp only [Act.put, List.setIfInBounds_toArray, List.set_cons_zero, List.set_cons_succ]
  refine wpAnyH_take (i := 13) (oi := ⟨some 131, _, _, _, _, _⟩) (v := .bool true) rfl (by kernel_rfl) (by kernel_rfl) (by kernel_rfl) (fun _ _ _ h => h) (Or.inl ⟨by rfl, ?_⟩) hHeld2 ?_
  · intro w' hSw
    go_split_ands
    go_simp
  try simp only [Act.put, List.setIfInBounds_toArray, List.set_cons_zero, List.set_cons_succ]
  refine wpAnyH_take (i := 14) (oi := ⟨some 132, _, _, _, _, _⟩) (v := .int .i64 3) rfl (by kernel_rfl) (by kernel_rfl) (by kernel_rfl) (fun _ _ _ h => h) (Or.inl ⟨by rfl, ?_⟩) hHeld2 ?_
  · intro w' hSw
    go_split_ands
    go_simp
  try simp only [Act.put, List.setIfInBounds_toArray, List.set_cons_zero, List.set_cons_succ]
  refine wpAnyH_take (i := 15) (oi := ⟨some 133, _, _, _, _, _⟩) (v := .bool false) rfl (by kernel_rfl) (by kernel_rfl) (by kernel_rfl) (fun _ _ _ h => h) (Or.inl ⟨by rfl, ?_⟩) hHeld2 ?_
  · intro w' hSw
    go_split_ands
    go_simp
  try simp only [Act.put, List.setIfInBounds_toArray, List.set_cons_zero, List.set_cons_succ]
  refine wpAnyH_take (i := 16) (oi := ⟨some 134, _, _, _, _, _⟩) (v := .bool false) rfl (by kernel_rfl) (by kernel_rfl) (by kernel_rfl) (fun _ _ _ h => h) (Or.inl ⟨by rfl, ?_⟩) hHeld2 ?_
  · intro w' hSw
    go_split_ands
    go_simp
  try simp only [Act.put, List.setIfInBounds_toArray, List.set_cons_zero, List.set_cons_succ]
  refine wpAnyH_take (i := 17) (oi := ⟨some 135, _, _, _, _, _⟩) (v := .iface 61 (.pointer (some ⟨p, 0, none⟩))) rfl (by kernel_rfl) (by kernel_rfl) (by kernel_rfl) (fun _ _ _ h => h) (Or.inl ⟨by rfl, ?_⟩) hHeld2 ?_
  · intro w' hSw
    go_split_ands
    go_simp
  try simp only [Act.put, List.setIfInBounds_toArray, List.set_cons_zero, List.set_cons_succ]
  refine wpAnyH_take (i := 19) (oi := ⟨some 137, _, _, _, _, _⟩) (v := .pointer (some ⟨w.heap.size, 1, none⟩)) rfl (by kernel_rfl) (by kernel_rfl) (by kernel_rfl) (fun _ _ _ h => h) (Or.inl ⟨by rfl, ?_⟩) hHeld2 ?_
  · intro w' hSw
    go_split_ands
    go_simp
  try simp only [Act.put, List.setIfInBounds_toArray, List.set_cons_zero, List.set_cons_succ]
  refine wpAnyH_take (i := 20) (oi := ⟨some 138, _, _, _, _, _⟩) (v := .int .i64 t) rfl (by kernel_rfl) (by kernel_rfl) (by kernel_rfl) (fun _ _ _ h => h) (Or.inl ⟨by rfl, ?_⟩) hHeld2 ?_
  · intro w' hSw
    go_split_ands
    go_simp
  try simp only [Act.put, List.setIfInBounds_toArray, List.set_cons_zero, List.set_cons_succ]
  refine wpAnyH_ready (rs := [18]) (by kernel_rfl) (by simp) ?_
  refine AllReadyH.cons (o := ⟨some 136, _, _, _, _, _⟩) rfl (fun K hK => ?_) AllReadyH.nil
  rw [if_pos (by rfl)]
  go_wp2_with fail
  refine (st_place (w := w) (a := a) (bw := bw) (r := r) (lo := lo) (B := B) (ws := ws) (cnt := cnt) (m := m) (L := w.heap.size) (k := 3) (t := t) (o := o) (n := n) ?_).mono ?_
  · exact s1.drew
  rintro e w2 ⟨rfl, e2, s2⟩
  go_wp2_with fail
  refine hK.out _ _ ⟨e2, s2⟩ (fun hHeld3 => ?_)
  clear hK hHeld2
  try simp only [Act.put, List.setIfInBounds_toArray, List.set_cons_zero, List.set_cons_succ]
  refine wpAnyH_take (i := 21) (oi := ⟨some 139, _, _, _, _, _⟩) (v := .bool true) rfl (by kernel_rfl) (by kernel_rfl) (by kernel_rfl) (fun _ _ _ h => h) (Or.inl ⟨by rfl, ?_⟩) hHeld3 ?_
  · intro w' hSw
    go_split_ands
    go_simp
  try simp only [Act.put, List.setIfInBounds_toArray, List.set_cons_zero, List.set_cons_succ]
  refine wpAnyH_take (i := 22) (oi := ⟨some 140, _, _, _, _, _⟩) (v := .bool true) rfl (by kernel_rfl) (by kernel_rfl) (by kernel_rfl) (fun _ _ _ h => h) (Or.inl ⟨by rfl, ?_⟩) hHeld3 ?_
  · intro w' hSw
    go_split_ands
    go_simp
  try simp only [Act.put, List.setIfInBounds_toArray, List.set_cons_zero, List.set_cons_succ]
  refine wpAnyH_take (i := 23) (oi := ⟨some 141, _, _, _, _, _⟩) (v := .bool true) rfl (by kernel_rfl) (by kernel_rfl) (by kernel_rfl) (fun _ _ _ h => h) (Or.inl ⟨by rfl, ?_⟩) hHeld3 ?_
  · intro w' hSw
    go_split_ands
    go_simp
  try simp only [Act.put, List.setIfInBounds_toArray, List.set_cons_zero, List.set_cons_succ]
  refine wpAnyH_take (i := 24) (oi := ⟨some 6, _, _, _, _, _⟩) (v := .bool true) rfl (by kernel_rfl) (by kernel_rfl) (by kernel_rfl) (fun _ _ _ h => h) (Or.inl ⟨by rfl, ?_⟩) hHeld3 ?_
  · intro w' hSw
    go_split_ands
    go_simp
  try simp only [Act.put, List.setIfInBounds_toArray, List.set_cons_zero, List.set_cons_succ]
  refine wpAnyH_done (by kernel_rfl) (NoPanic.normal ?_) _
  all_goals go_wp2
  all_goals go_ret
  all_goals
    refine ⟨rfl, ⟨ws, cnt, m, ?_, rfl, by omega, by omega⟩, ?_⟩
  any_goals exact s2.1
  any_goals exact s2.2.2.2.2
theorem both_other (a bw r lo B : Nat) (ws : List Int) (cnt m : Nat) (k t o n : Int) (h1 : k ≠ 1) (h2 : k ≠ 2) (h3 : k ≠ 3) (w : World) (h : Both w a bw r lo B ws cnt m) :
    Calls Tryd.prog 10 #[.pointer (some ⟨a, 0, none⟩), .pointer (some ⟨r, 0, none⟩), .agg #[.int .i64 k, .int .i64 t, .int .u64 o, .int .u64 n]] w fun e w' => Went w a bw r lo B ws.length cnt m e w' := by
  have h' := Lib.hid h
  have q1 : (k == 1) = false := by simpa using h1
  have q2 : (k == 2) = false := by simpa using h2
  have q3 : (k == 3) = false := by simpa using h3
  clear h h1 h2 h3
  go_enter Tryd.func10, Tryd.ntmps10
  go_wp2_with fail
  go_ret
  exact ⟨rfl, ⟨ws, cnt, m, h'.out.alloc _, rfl, by omega, by omega⟩, (Keeps.refl _ w).alloc _⟩

theorem both_any (a bw r lo B : Nat) (ws : List Int) (cnt m : Nat) (k t o n : Int) (hcnt : cnt ≤ 100000) (hm : m ≤ 100000) (w : World) (hg : Glob w) (h : Both w a bw r lo B ws cnt m) :
    Calls Tryd.prog 10 #[.pointer (some ⟨a, 0, none⟩), .pointer (some ⟨r, 0, none⟩), .agg #[.int .i64 k, .int .i64 t, .int .u64 o, .int .u64 n]] w fun e w' => Went w a bw r lo B ws.length cnt m e w' := by
  by_cases h1 : k = 1
  · subst h1
    rcases in_or_out t ws.length with ho | ⟨i, rfl, hi⟩
    · exact both_load_out a bw r lo B ws cnt m t o n ho w hg h
    · exact both_load_in a bw r lo B ws cnt m i o n hi hcnt hm w h
  by_cases h2 : k = 2
  · subst h2
    rcases in_or_out t ws.length with ho | ⟨i, rfl, hi⟩
    · exact both_store_out a bw r lo B ws cnt m t o n ho w hg h
    · exact both_store a bw r lo B ws cnt m i o n hi hcnt hm w h
  by_cases h3 : k = 3
  · subst h3
    rcases in_or_out t ws.length with ho | ⟨i, rfl, hi⟩
    · exact both_cas_out a bw r lo B ws cnt m t o n ho w hg h
    · by_cases hp : ws.getD i 0 = o
      · exact both_cas_yes a bw r lo B ws cnt m i o n hp hi hcnt hm w h
      · exact both_cas_no a bw r lo B ws cnt m i o n hp hi hcnt hm w h
  exact both_other a bw r lo B ws cnt m k t o n h1 h2 h3 w h
end Go.Proofs.YtokcchgccfpbpaaDoor
