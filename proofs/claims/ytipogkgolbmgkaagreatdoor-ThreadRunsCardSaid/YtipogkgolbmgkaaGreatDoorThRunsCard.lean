/-
  ThreadRuns: called with any program and any portions, concordlaw05.ThreadRuns returns true and changes nothing; the library's variable errors.errorType holds what the program's text lays in it (the card ties it). The card says nothing of code outside the pruned copy.
-/
import Derived.Test.YtipogkgolbmgkaaGreatDoorThAlive
import Derived.Test.YtipogkgolbmgkaaGreatDoorBkLive
import Derived.Test.YtipogkgolbmgkaaGreatDoorBkKeys
import Derived.Test.YtipogkgolbmgkaaGreatDoorBkArgs
import Derived.Test.YtipogkgolbmgkaaGreatDoorTie
import Derived.Test.YtipogkgolbmgkaaGreatDoorCards
import Derived.Laws.StructEq
import Derived.Deep.Slices
import Derived.Deep.Fields
import Derived.ChangeSame
import Derived.ProofKit
import Derived.OpenShut
import Derived.ShutString
import Derived.ChangeOld
import Derived.RowKitTokens
import Derived.LaidLaws
import Derived.LaidHandle
import Derived.LaidMore
import Derived.Stop.Joined
import Derived.SevenTiedAt
namespace Go.Proofs.YtipogkgolbmgkaaGreatDoor
open Go.RowKit Go.Extern.Stop Go.Stop Go.Extern

theorem ent_fields : Tryz.prog.underlying 73 = some (.struct (Tryz.prog.fieldsOf 73)) := by kernel_rfl
theorem ent_held : Tryz.prog.stoodInHeld 73 = false := by kernel_rfl
theorem ent_guard : Tryz.prog.eqGuardType Tryz.prog.depth 73 = false := by kernel_rfl
theorem ent_list : ((Tryz.prog.fieldsOf 73).toList.map fun f => (f.type, f.offset, f.name == "_")) = [(3, 0, false), (52, 1, false), (3, 2, false), (52, 3, false), (4, 4, false), (60, 5, false)] := by kernel_rfl

theorem eqIn_ent (w : World) (k r i x e : Int) (d : Bool) : (Op.equalIn 10000 73 (.agg #[.int .i64 k, .int .u64 r, .int .i64 i, .int .u64 x, .bool d, .int .i64 e]) (.agg #[.int .i64 k, .int .u64 r, .int .i64 i, .int .u64 x, .bool d, .int .i64 e])).run Tryz.prog w = .ok true w := by
  rw [run_equalIn_agg w 9999 _ _ _ ent_fields ent_held]
  have h := ent_list
  generalize (Tryz.prog.fieldsOf 73).toList = fs at h ⊢
  obtain ⟨f0, f1, f2, f3, f4, f5, rfl⟩ : ∃ a b c d e f, fs = [a, b, c, d, e, f] := by
    have hl := congrArg List.length h
    rw [List.length_map] at hl
    match fs, hl with
    | [a, b, c, d, e, f], _ => exact ⟨a, b, c, d, e, f, rfl⟩
    | [], hl => simp at hl
    | [_], hl => simp at hl
    | [_, _], hl => simp at hl
    | [_, _, _], hl => simp at hl
    | [_, _, _, _], hl => simp at hl
    | [_, _, _, _, _], hl => simp at hl
    | _ :: _ :: _ :: _ :: _ :: _ :: _ :: _, hl => simp at hl
  simp only [List.map_cons, List.map_nil, List.cons.injEq, Prod.mk.injEq, and_true] at h
  obtain ⟨⟨a1, a2, a3⟩, ⟨b1, b2, b3⟩, ⟨c1, c2, c3⟩, ⟨d1, d2, d3⟩, ⟨e1, e2, e3⟩, g1, g2, g3⟩ := h
  have uI := Tryz.underlying3
  have uW := Tryz.underlying52
  have uB := Tryz.underlying4
  have uE := Tryz.underlying60
  simp [Op.eqFields, a1, a2, b1, b2, c1, c2, d1, d2, e1, e2, g1, g2, beq_eq_false_iff_ne.1 a3, beq_eq_false_iff_ne.1 b3, beq_eq_false_iff_ne.1 c3, beq_eq_false_iff_ne.1 d3, beq_eq_false_iff_ne.1 e3, beq_eq_false_iff_ne.1 g3, part, go_sem]

theorem ent_whole {w : World} {g : Nat} {t : TypeId} {log : List Ent} (h : Whole w g t (entCells log).toArray) {k : Nat} (hk : k < log.length) {j : Nat} (hj : j < 6) : w.cell? ⟨g, k * 6 + j, none⟩ = (entC (log.getD k (.zero .ok)))[j]? := by
  rw [h.at_ (k * 6 + j), List.getElem?_toArray]
  exact entCells_at log k hk j hj

set_option maxRecDepth 100000 in
set_option maxHeartbeats 1000000 in
theorem samelog_yes (g h : Nat) (log : List Ent) (w : World) (h1 : Whole w g 73 (entCells log).toArray) (h2 : Whole w h 73 (entCells log).toArray) (few : log.length ≤ 6000) :
    Calls Tryz.prog 13 #[.slice (some ⟨g, 0, none⟩) log.length log.length, .slice (some ⟨h, 0, none⟩) log.length log.length] w fun e w' => e = .returned (.bool true) ∧ Keeps (fun _ => False) w w' := by
  have h1' := Lib.hid h1
  have h2' := Lib.hid h2
  have hE := eqIn_ent
  have hgd := ent_guard
  have hb : (log.length : Int) ≤ 6000 := by omega
  clear h1 h2
  go_enter Tryz.func13, Tryz.ntmps13
  go_wp2_with fail
  go_loopw [5] (fun i wr => ∃ k : Nat, k ≤ log.length ∧ i = .int .i64 k ∧ Keeps (fun _ => False) w wr) (fun i _ => log.length - (intOf i).toNat)
  case atStart => exact ⟨0, by omega, rfl, Keeps.refl _ _⟩
  case round =>
    obtain ⟨k, hk, rfl, hK⟩ := hrel
    have K1 := Lib.hid hK
    clear hK
    by_cases hlt : k < log.length
    · have hlt' : (k : Int) < (log.length : Int) := by omega
      have hk0 : (0 : Int) ≤ (k : Int) := by omega
      have G := h1'.out.keeps K1.out.drew id
      have H := h2'.out.keeps K1.out.drew id
      have g0 := ent_whole G hlt (j := 0) (by omega)
      have g1 := ent_whole G hlt (j := 1) (by omega)
      have g2 := ent_whole G hlt (j := 2) (by omega)
      have g3 := ent_whole G hlt (j := 3) (by omega)
      have g4 := ent_whole G hlt (j := 4) (by omega)
      have g5 := ent_whole G hlt (j := 5) (by omega)
      have y0 := ent_whole H hlt (j := 0) (by omega)
      have y1 := ent_whole H hlt (j := 1) (by omega)
      have y2 := ent_whole H hlt (j := 2) (by omega)
      have y3 := ent_whole H hlt (j := 3) (by omega)
      have y4 := ent_whole H hlt (j := 4) (by omega)
      have y5 := ent_whole H hlt (j := 5) (by omega)
      clear G H
      generalize log.getD k (.zero .ok) = en at *
      obtain ⟨kd, rf, i, wd, dn, er⟩ := en
      simp only [entC, List.getElem?_cons_zero, List.getElem?_cons_succ, Nat.add_zero] at g0 g1 g2 g3 g4 g5 y0 y1 y2 y3 y4 y5
      generalize er.num = en at *
      go_wp2_with fail
      go_region
      go_wp2_with fail
      go_roundw
      case rel => exact ⟨k + 1, by omega, by go_num, K1.out.drew⟩
      case measure => simp [intOf]; omega
    · go_wp2_with fail
      go_ret
      exact ⟨rfl, K1.out⟩

/-- A slice that reads as words. -/
def RdW (w : World) (v : Value) (l : List Nat) : Prop :=
  ∃ a c, v = .slice a l.length c ∧ (l = [] ∨ ∃ b, a = some ⟨b, 0, none⟩ ∧ ∀ k, k < l.length → w.cell? ⟨b, k, none⟩ = some (.int .u64 (l.getD k 0 : Int)))

theorem RdW.same {w w' : World} {v : Value} {l : List Nat} (h : RdW w v l) (k : Keeps (fun _ => False) w w') : RdW w' v l := by
  obtain ⟨a, c, rfl, h⟩ := h
  refine ⟨a, c, rfl, h.imp id ?_⟩
  rintro ⟨b, rfl, hc⟩
  exact ⟨b, rfl, fun i hi => (k.cell (p := ⟨b, i, none⟩) (cell_lt (hc i hi)) id).trans (hc i hi)⟩

theorem Mine.rdw {w0 w : World} {X : Nat → Prop} {v : Value} {l : List Nat} (h : Mine w0 w X 52 v (refVals l)) : RdW w v l := by
  obtain ⟨o, c, rfl, ho⟩ := h.shape
  rw [refVals_len] at ho
  rw [refVals_len] at h ⊢
  refine ⟨o, c, rfl, ?_⟩
  cases l with
  | nil => exact .inl rfl
  | cons x l =>
    obtain ⟨g, rfl⟩ := ho (by simp)
    refine .inr ⟨g, rfl, fun k hk => ?_⟩
    have := Mine.cell (xs := refVals (x :: l)) (c := c) (by rw [refVals_len]; exact h) k (by rw [refVals_len]; exact hk)
    rw [this, refVals, List.getElem?_map, List.getD, List.getElem?_eq_getElem hk]
    rfl

set_option maxRecDepth 100000 in
theorem samew_yes (l : List Nat) (v v' : Value) (w : World) (h1 : RdW w v l) (h2 : RdW w v' l) (few : l.length ≤ 100000) :
    Calls Tryz.prog 17 #[v, v'] w fun e w' => e = .returned (.bool true) ∧ Keeps (fun _ => False) w w' := by
  obtain ⟨a, c, rfl, ha⟩ := h1
  obtain ⟨a', c', rfl, ha'⟩ := h2
  have h1' := Lib.hid ha
  have h2' := Lib.hid ha'
  have hl0 := Lib.hid (show l = [] → l.length = 0 from fun e => by rw [e]; rfl)
  have hb : (l.length : Int) ≤ 100000 := by omega
  clear ha ha'
  go_enter Tryz.func17, Tryz.ntmps17
  go_wp2_with fail
  go_loopw [5] (fun i wr => ∃ k : Nat, k ≤ l.length ∧ i = .int .i64 k ∧ Keeps (fun _ => False) w wr) (fun i _ => l.length - (intOf i).toNat)
  case atStart => exact ⟨0, by omega, rfl, Keeps.refl _ _⟩
  case round =>
    obtain ⟨k, hk, rfl, hK⟩ := hrel
    have K1 := Lib.hid hK
    clear hK
    by_cases hlt : k < l.length
    · obtain ⟨b, rfl, hc⟩ := h1'.out.resolve_left (fun e => by have := hl0.out e; omega)
      obtain ⟨b', rfl, hc'⟩ := h2'.out.resolve_left (fun e => by have := hl0.out e; omega)
      have hlt' : (k : Int) < (l.length : Int) := by omega
      have hk0 : (0 : Int) ≤ (k : Int) := by omega
      have K2 := K1.out.drew
      have x1 := (K2.cell (p := ⟨b, k, none⟩) (cell_lt (hc k hlt)) id).trans (hc k hlt)
      have x2 := (K2.cell (p := ⟨b', k, none⟩) (cell_lt (hc' k hlt)) id).trans (hc' k hlt)
      generalize l.getD k 0 = x at x1 x2
      clear K2 hc hc'
      go_wp2_with fail
      go_region
      go_wp2_with fail
      go_roundw
      case rel => exact ⟨k + 1, by omega, by go_num, K1.out.drew⟩
      case measure => simp [intOf]; omega
    · go_wp2_with fail
      go_ret
      exact ⟨rfl, K1.out⟩

/-- few of a list of one program. -/
theorem few_one (g : Nat) (o : Option Addr) (n c : Nat) (w : World) (h : w.cell? ⟨g, 0, none⟩ = some (.slice o n c)) :
    Calls Tryz.prog 5 #[.slice (some ⟨g, 0, none⟩) 1 1] w fun e w' => e = .returned (.bool (decide (n ≤ 20))) ∧ w = w' := by
  by_cases hn : n ≤ 20
  · have hn' : ¬ (20 : Int) < (n : Int) := by omega
    rw [decide_eq_true hn]
    go_enter Tryz.func5, Tryz.ntmps5
    go_wp2
    refine wp_loop_rounds 2 ?_
    rw [rounds_succ]
    go_wp2
    rw [rounds_succ]
    go_wp2
    go_ret
    exact ⟨rfl, rfl⟩
  · have hn' : (20 : Int) < (n : Int) := by omega
    rw [decide_eq_false hn]
    go_enter Tryz.func5, Tryz.ntmps5
    go_wp2
    refine wp_loop_rounds 1 ?_
    rw [rounds_succ]
    go_wp2
    go_ret
    exact ⟨rfl, rfl⟩
end Go.Proofs.YtipogkgolbmgkaaGreatDoor
namespace Go.Proofs.YtipogkgolbmgkaaGreatDoor
open Go.RowKit Go.Extern.Stop Go.Stop Go.Extern

/-- An error that a thread may end with. -/
def ErrFew (e : EA) : Prop := e = .ok ∨ (1 ≤ e.num ∧ e.num ≤ 17)

theorem step_few {t : Ths} (h : t.Ok) {p : List Mic} (hp : SmallP p) : ErrFew (step p t).err := by
  have c3 := (h.came hp).ans
  unfold step
  generalize t.run p = R at c3 ⊢
  unfold Ths.close
  split
  · exact .inl rfl
  rename_i e1
  split
  · split
    · exact .inr (by simp [EA.num])
    · exact .inl rfl
  · rename_i e2
    rcases c3 with h' | h'
    · rcases h' with h | h | h | h | h | h
      · exact .inl h
      · exact absurd (by rw [h]; rfl) e2
      all_goals
        refine .inr ?_
        show 1 ≤ R.1.num ∧ R.1.num ≤ 17
        omega
    · exact absurd (by rw [h'.1]; rfl) e1

theorem runN_few {p : List Mic} (hp : SmallP p) : ∀ (n : Nat) (t : Ths), t.Ok → ErrFew t.err → ErrFew (runN p n t).err
  | 0, _, _, h => h
  | n + 1, t, h, he => by
    cases hd : t.done with
    | true => rw [runN_done p _ t hd]; exact he
    | false =>
      rw [runN_step p n t hd]
      exact runN_few hp n _ (step_ok h hp hd).1 (step_few h hp)

theorem no_any {w : World} {v : Value} {e : EA} (h : ErrV w v e) (hf : ErrFew e) :
    Calls Tryz.prog 10 #[v] w fun x w' => x = .returned (.int .i64 (e.num : Int)) ∧ w = w' := by
  cases e with
  | ok =>
    obtain rfl : v = .nilIface := h
    exact no_nil w
  | no k =>
    obtain rfl : v = .iface 60 (.int .i64 (k : Int)) := h
    rcases hf with hf | hf
    · cases hf
    · exact no_errno k hf.1 hf.2 w
  | at_ i k =>
    obtain ⟨p, rfl, hp⟩ := h
    rcases hf with hf | hf
    · cases hf
    · exact no_fault p 0 k hf.1 hf.2 w (hp.at_ 1)

/-- The live blocks of a thread's blocks. -/
theorem ThM.live {w : World} {t b a pl pb : Nat} {S : Ths} {Z : Nat → Prop} (h : ThM w t b a pl pb S Z) :
    ∃ ws cnt X, Bk w b ws cnt S.m.st X ∧ (liveRefs S.m.st.bs).length ≤ 100000 := by
  obtain ⟨ev, lv, X, hQ, hok, he, hf⟩ := h
  obtain ⟨h0, ws, cnt, hb, hlen, hc, hs⟩ := hQ.mm
  refine ⟨ws, cnt, X, hb.bk, ?_⟩
  obtain ⟨bw, hA⟩ := hb.arena
  have h1 := hb.ok.room
  have h2 := hA.2.2.2
  have h3 := bs_length hb.ok
  have h4 := liveN_le S.m.st.bs
  rw [liveRefs_len]
  omega

/-- The parts of a program, as they came in. -/
def MicsIn (w : World) (a : Option Addr) (len : Nat) : Prop :=
  (a = none ∧ len = 0) ∨ ∃ x : Addr, a = some x ∧ len ≤ maxLen ∧ ∀ i, i < len → ∃ (z0 z1 z2 z3 : Int) (z4 : Bool) (z5 : Int), w.cell? (x.add (i * 6 + 0)) = some (.int .i64 z0) ∧ w.cell? (x.add (i * 6 + 1)) = some (.int .i64 z1) ∧ w.cell? (x.add (i * 6 + 2)) = some (.int .i64 z2) ∧
    w.cell? (x.add (i * 6 + 3)) = some (.int .u64 z3) ∧ w.cell? (x.add (i * 6 + 4)) = some (.bool z4) ∧ w.cell? (x.add (i * 6 + 5)) = some (.int .i64 z5) ∧ (Lit.int .u64 z3).wf = true

theorem MicsIn.mics {w : World} {a : Option Addr} {len : Nat} (h : MicsIn w a len) : ∃ p : List Mic, p.length = len ∧ (∀ m ∈ p, m.x < 18446744073709551616) ∧ Mics w a p := by
  rcases h with ⟨rfl, rfl⟩ | ⟨x, rfl, hl, hc⟩
  · exact ⟨[], rfl, fun m hm => (by cases hm), fun i hi => absurd hi (Nat.not_lt_zero _)⟩
  · have hex : ∀ i, ∃ m : Mic, i < len → w.cell? (x.add (i * 6 + 0)) = some (.int .i64 m.kind) ∧ w.cell? (x.add (i * 6 + 1)) = some (.int .i64 m.a) ∧ w.cell? (x.add (i * 6 + 2)) = some (.int .i64 m.i) ∧
        w.cell? (x.add (i * 6 + 3)) = some (.int .u64 (m.x : Int)) ∧ w.cell? (x.add (i * 6 + 4)) = some (.bool m.add) ∧ w.cell? (x.add (i * 6 + 5)) = some (.int .i64 m.to_) ∧ m.x < 18446744073709551616 := by
      intro i
      by_cases hi : i < len
      · obtain ⟨z0, z1, z2, z3, z4, z5, h0, h1, h2, h3, h4, h5, hw⟩ := hc i hi
        have hw' : 0 ≤ z3 ∧ z3 ≤ 18446744073709551615 := by
          have : (decide (IntKind.u64.min ≤ z3) && decide (z3 ≤ IntKind.u64.max)) = true := hw
          rw [Bool.and_eq_true, decide_eq_true_iff, decide_eq_true_iff] at this
          exact this
        have hb : 0 ≤ z3 ∧ z3 < 18446744073709551616 := by omega
        have e3 : ((z3.toNat : Nat) : Int) = z3 := by omega
        exact ⟨⟨z0, z1, z2, z3.toNat, z4, z5⟩, fun _ => ⟨h0, h1, h2, by show _ = some (Value.int .u64 ((z3.toNat : Nat) : Int)); rw [e3]; exact h3, h4, h5, by show z3.toNat < _; omega⟩⟩
      · exact ⟨.zero, fun h => absurd h hi⟩
    obtain ⟨f, hf⟩ := Classical.axiomOfChoice hex
    refine ⟨(List.range len).map f, by simp, fun m hm => ?_, fun i hi => ?_⟩
    · obtain ⟨i, hi, rfl⟩ := List.mem_map.1 hm
      exact (hf i (List.mem_range.1 hi)).2.2.2.2.2.2
    · have hi' : i < len := by simpa using hi
      have hg : ((List.range len).map f).getD i .zero = f i := by simp [List.getD, hi']
      rw [hg]
      have hx : x = ⟨x.block, x.off, none⟩ := spot_none (hf 0 (by omega)).1
      obtain ⟨h0, h1, h2, h3, h4, h5, _⟩ := hf i hi'
      rw [add_plain x hx] at h0 h1 h2 h3 h4 h5
      refine ⟨x.block, x.off, by rw [← hx], ?_, ?_, ?_, ?_, ?_, ?_⟩
      · exact h0
      · exact h1
      · exact h2
      · exact h3
      · exact h4
      · exact h5

theorem tmod10 (z : Int) : -10 < z.tmod 10 ∧ z.tmod 10 < 10 :=
  ⟨by have := Int.tmod_def z 10; have := Int.lt_tmod_of_pos z (b := 10) (by decide); omega, Int.tmod_lt_of_pos z (by decide)⟩

set_option maxRecDepth 100000 in
set_option maxHeartbeats 4000000 in
theorem threadRuns_walk (a0 : Option Addr) (len0 cap0 : Nat) (a1 : Option Addr) (len1 cap1 : Nat) (w : World) (w0 : MicsIn w a0 len0) (w1 : Nums w a1 len1) (hg : Glob w) :
    Calls Tryz.prog 3 #[.slice a0 len0 cap0, .slice a1 len1 cap1] w fun e w' => e = .returned (.bool true) ∧ Below w.heap.size w w' := by
  obtain ⟨p, hpl, hpx, hpm⟩ := w0.mics
  subst hpl
  have hm1 : (len1 : Int) ≤ 9223372036854775807 := by have := w1.le; unfold maxLen at this; omega
  have g0 := Lib.hid hg
  have px := Lib.hid hpx
  have pm := Lib.hid hpm
  have in1 := Lib.hid w1
  clear w0 hpx hpm hg w1
  go_enter Tryz.func3, Tryz.ntmps3
  go_wp2_with fail
  refine (on_at 300 1 (by decide) (by decide) (by decide) w).mono ?_
  rintro e W1 ⟨a, b, X, rfl, hB, hX, hK⟩
  have B1 := Lib.hid (mm_start (n := 300) (by decide) (by decide) hB)
  have X1 := Lib.hid hX
  have K1 := Lib.hid hK
  clear hB hX hK
  go_wp2_with fail
  refine (on_at 300 1 (by decide) (by decide) (by decide) W1).mono ?_
  rintro e W2 ⟨a', d, Y, rfl, hB, hX, hK⟩
  have B2 := Lib.hid (mm_start (n := 300) (by decide) (by decide) hB)
  have X2 := Lib.hid hX
  have K2 := Lib.hid hK
  clear hB hX hK
  go_wp2_with fail
  refine (few_one _ _ _ _ _ (cell_one _ _ _)).mono ?_
  rintro e w' ⟨rfl, rfl⟩
  obtain ⟨W3, hW3⟩ : ∃ W, W = W2.alloc (.cells #[.slice a0 p.length cap0] 22) := ⟨_, rfl⟩
  have K3 := Lib.hid (show Keeps (fun _ => False) W2 W3 by rw [hW3]; exact (Keeps.refl _ W2).alloc _)
  rw [← hW3]
  have l3 : Hid (W2.heap.size < W3.heap.size) := Lib.hid (by rw [hW3]; simp)
  clear hW3
  by_cases hl : p.length ≤ 20 ∧ len1 ≤ 30
  · obtain ⟨hl0, hl1⟩ := hl
    have hl1' : ¬ (30 : Int) < (len1 : Int) := by omega
    rw [decide_eq_true hl0]
    have sp := Lib.hid (show SmallP p from ⟨px.out, hl0⟩)
    go_wp2_with fail
    refine (body_new _ _ _ _).mono ?_
    rintro e W4 ⟨rfl, hW4⟩
    have K4 := Lib.hid (show Keeps (fun _ => False) W3 W4 by rw [hW4]; exact (Keeps.refl _ W3).alloc _)
    have m4 := Lib.hid (show Whole W4 W3.heap.size 22 #[.slice a0 p.length cap0] by rw [hW4]; exact Whole.made _ _ _)
    have KW4 := Lib.hid (((K1.out.trans_ K2.out).trans_ K3.out).trans_ K4.out)
    have gl : Hid (etB < w.heap.size) := Lib.hid g0.out.lt
    have cn := Lib.hid (tnew_any (pb := W3.heap.size) (((B1.out.same K2.out).same K3.out).same K4.out) rfl (Mm.start_get 300) (g0.out.keeps KW4.out id) (fun hx => by have := (X1.out _ hx); have := gl.out; omega))
    clear hW4
    go_wp2_with fail
    refine cn.out.mono ?_
    rintro e W5 ⟨t, pl, Zt, rfl, hT, hZ, hK⟩
    have T5 := Lib.hid hT
    have Z5 := Lib.hid hZ
    have K5 := Lib.hid hK
    clear hT hZ hK
    go_wp2_with fail
    refine (body_new _ _ _ _).mono ?_
    rintro e W6 ⟨rfl, hW6⟩
    have K6 := Lib.hid (show Keeps (fun _ => False) W5 W6 by rw [hW6]; exact (Keeps.refl _ W5).alloc _)
    have m6 := Lib.hid (show Whole W6 W5.heap.size 22 #[.slice a0 p.length cap0] by rw [hW6]; exact Whole.made _ _ _)
    have KW6 := Lib.hid ((KW4.out.trans_ K5.out).trans_ K6.out)
    have cn2 := Lib.hid (tnew_any (pb := W5.heap.size) ((((B2.out.same K3.out).same K4.out).same K5.out).same K6.out) rfl (Mm.start_get 300) (g0.out.keeps KW6.out id) (fun hx => by have h1 := (X2.out _ hx); have := gl.out; have := K1.out.size; omega))
    clear hW6
    go_wp2_with fail
    refine cn2.out.mono ?_
    rintro e W7 ⟨u, ql, Zu, rfl, hT, hZ, hK⟩
    have T7 := Lib.hid ((T5.out.same K6.out).same hK)
    have U7 := Lib.hid hT
    have K7 := Lib.hid hK
    have KW7 := Lib.hid (KW6.out.trans_ hK)
    have sz : Hid (w.heap.size ≤ W1.heap.size ∧ W1.heap.size ≤ W2.heap.size ∧ W2.heap.size < W3.heap.size ∧ W3.heap.size < W4.heap.size ∧ W4.heap.size ≤ W5.heap.size ∧ W5.heap.size < W6.heap.size ∧ W6.heap.size ≤ W7.heap.size) := Lib.hid ⟨K1.out.size, K2.out.size, l3.out, m4.out.lt, K5.out.size, m6.out.lt, K7.out.size⟩
    have zt : Hid (∀ x, Zt x → w.heap.size ≤ x ∧ (x < W1.heap.size ∨ (W4.heap.size ≤ x ∧ x < W5.heap.size))) := Lib.hid fun x hx => by
      have h1 := T5.out.mono.1 x hx
      have := sz.out
      rcases Z5.out x hx with h | h
      · have h2 := B1.out.old x h
        have h3 := X1.out x h
        exact ⟨h3, .inl h2⟩
      · exact ⟨by omega, .inr ⟨h, h1⟩⟩
    have zu : Hid (∀ x, Zu x → (W1.heap.size ≤ x ∧ x < W2.heap.size) ∨ (W6.heap.size ≤ x ∧ x < W7.heap.size)) := Lib.hid fun x hx => by
      have h1 := hT.mono.1 x hx
      rcases hZ x hx with h | h
      · exact .inl ⟨X2.out x h, B2.out.old x h⟩
      · exact .inr ⟨h, h1⟩
    have ap : Hid (∀ x, Zu x → ¬ Zt x) := Lib.hid fun x hx hy => by
      have h1 := zu.out x hx
      have h2 := zt.out x hy
      have := sz.out
      omega
    have a0lt : Hid (∀ x, a0 = some x → 0 < p.length → x.block < w.heap.size) := Lib.hid fun x hx hp => by
      obtain ⟨c, off, hc, h0, _⟩ := pm.out 0 hp
      rw [hx] at hc
      injection hc with hc
      subst hc
      exact cell_lt h0
    have pt : Hid (Prog W7 W3.heap.size p Zt) := Lib.hid ⟨⟨a0, cap0, (m4.out.keeps ((K5.out.trans_ K6.out).trans_ K7.out) id).at_ 0, pm.out.keeps KW7.out fun _ _ => id, fun x hx hp hz => by
      have h1 := a0lt.out x hx hp
      have h2 := zt.out _ hz
      omega⟩, fun hz => by
      have h2 := zt.out _ hz
      have := sz.out
      omega⟩
    have pu : Hid (Prog W7 W5.heap.size p Zu) := Lib.hid ⟨⟨a0, cap0, (m6.out.keeps K7.out id).at_ 0, pm.out.keeps KW7.out fun _ _ => id, fun x hx hp hz => by
      have h1 := a0lt.out x hx hp
      have h2 := zu.out _ hz
      have := sz.out
      omega⟩, fun hz => by
      have h2 := zu.out _ hz
      have := sz.out
      omega⟩
    clear hT hZ hK
    obtain ⟨S0, hS0⟩ : ∃ S, S = Ths.start (Mm.start 300) := ⟨_, rfl⟩
    rw [← hS0] at T7 U7
    have e0 : Hid (S0.err = .ok) := Lib.hid (by rw [hS0]; rfl)
    have o0 : Hid S0.Ok := Lib.hid T7.out.mono.2.2.2
    clear hS0
    go_wp2_with fail
    go_loopw [65] (fun iv wr => ∃ (k K : Nat) (Z' : Nat → Prop), iv = .int .i64 (k : Int) ∧ k ≤ len1 ∧ ThM wr t b a pl W3.heap.size (runN p K S0) Z' ∧ Mv Zt Z' W7 wr) (fun iv _ => len1 - (intOf iv).toNat)
    case atStart => exact ⟨0, 0, Zt, rfl, Nat.zero_le _, T7.out, Mv.refl Zt W7⟩
    case round =>
      obtain ⟨k, K, Z', rfl, hk, hT, hm⟩ := hrel
      have T8 := Lib.hid hT
      have M8 := Lib.hid hm
      have K8 := Lib.hid (show Keeps (fun _ => False) w wr from KW7.out.trans hm.keeps fun x hx h => absurd (zt.out x h).1 (Nat.not_le.2 hx))
      clear hT hm
      by_cases hlt : k < len1
      · have hk30 : k < 30 := by omega
        obtain ⟨cb, off, zv, rfl, hc, z, rfl, _⟩ := (in1.out.keeps K8.out fun _ _ => id).at_ k hlt
        obtain ⟨b1, b2⟩ := tmod10 z
        obtain ⟨n, hn, hn9⟩ : ∃ n : Nat, z.tmod 10 % 10 = (n : Int) ∧ n ≤ 9 := ⟨(z.tmod 10 % 10).toNat, by omega, by omega⟩
        have hn' := Lib.hid hn
        have cr := Lib.hid (run_any T8.out (pt.out.mv M8.out) sp.out n (by omega))
        clear hn
        go_wp2_with fail
        rw [hn'.out]
        refine cr.out.mono ?_
        rintro e W9 ⟨v, rfl, hv, Z2, hT, hm, hf⟩
        rw [← runN_add] at hT
        have T9 := Lib.hid hT
        have M9 := Lib.hid (M8.out.trans hm)
        clear hT hm hv hf
        go_wp2_with fail
        go_roundw
        case rel => exact ⟨k + 1, _, Z2, by go_num, by omega, T9.out, M9.out⟩
        case measure => simp [intOf]; omega
      · obtain rfl : k = len1 := by omega
        go_wp2_with fail
        obtain ⟨SF, hSF⟩ : ∃ S, S = runN p 2000 S0 := ⟨_, rfl⟩
        have dn : Hid (SF.done = true) := Lib.hid (by rw [hSF]; exact runN_ends sp.out o0.out)
        have ef : Hid (ErrFew SF.err) := Lib.hid (by rw [hSF]; exact runN_few sp.out 2000 _ o0.out (.inl e0.out))
        have hSF' := Lib.hid hSF
        clear hSF
        refine (run_any T8.out (pt.out.mv M8.out) sp.out 2000 (by decide)).mono ?_
        rintro e W9 ⟨v, rfl, hv, Z9, hT, hm, hf⟩
        rw [runN_same sp.out o0.out, ← hSF'.out] at hv hT
        have T9 := Lib.hid hT
        have M9 := Lib.hid (M8.out.trans hm)
        have V9 := Lib.hid hv
        have F9 := Lib.hid hf
        have KW9 := Lib.hid (show Keeps (fun _ => False) w W9 from KW7.out.trans M9.out.keeps fun x hx h => absurd (zt.out x h).1 (Nat.not_le.2 hx))
        have U9 := Lib.hid (U7.out.keeps M9.out.keeps ap.out (fun h => by have := (zt.out _ h).1; have := gl.out; omega))
        have pu9 : Hid (Prog W9 W5.heap.size p Zu) := Lib.hid ⟨⟨a0, cap0, ((m6.out.keeps K7.out id).keeps M9.out.keeps fun h => by
          have h2 := zt.out _ h
          have := sz.out
          omega).at_ 0, pm.out.keeps KW9.out fun _ _ => id, fun x hx hp hz => by
          have h1 := a0lt.out x hx hp
          have h2 := zu.out _ hz
          have := sz.out
          omega⟩, pu.out.apart⟩
        clear hT hm hv hf
        go_wp2_with fail
        refine (run_any U9.out pu9.out sp.out 2000 (by decide)).mono ?_
        rintro e W10 ⟨v', rfl, hv, Z10, hT, hm, hf⟩
        rw [← hSF'.out] at hv hT
        have ap9 : ∀ x, Z9 x → ¬ Zu x := fun x hx hu => by
          have h1 := zu.out x hu
          have := sz.out
          rcases M9.out.new x hx with h | h
          · exact ap.out x hu h
          · omega
        have U10 := Lib.hid hT
        have V10' := Lib.hid hv
        have T10 := Lib.hid (T9.out.keeps hm.keeps ap9 (fun h => by have := zu.out _ h; have := gl.out; have := sz.out; omega))
        have V10 := Lib.hid (V9.out.keeps hm.keeps fun ty x hx => ap9 _ (F9.out ty x hx))
        have KW10 := Lib.hid (show Keeps (fun _ => False) w W10 from KW9.out.trans hm.keeps fun x hx h => by have := zu.out x h; have := sz.out; omega)
        clear hT hm hv hf ap9
        go_wp2_with fail
        refine (no_any V10.out ef.out).mono ?_
        rintro e w' ⟨rfl, rfl⟩
        go_wp2_with fail
        refine (no_any V10'.out ef.out).mono ?_
        rintro e w' ⟨rfl, rfl⟩
        obtain ⟨ev, lv, c1, _, _, _, c7, c8, he, _, _⟩ := T10.out.look
        obtain ⟨ev', lv', c1', _, _, _, c7', _⟩ := U10.out.look
        rw [dn.out] at c7 c7'
        have C1 := Lib.hid (done_any c1 c7)
        have C2 := Lib.hid (done_any c1' c7')
        have C3 := Lib.hid (err_any he.forms c1 c8)
        have E10 := Lib.hid he
        clear c1 c7 c8 he c1' c7'
        go_wp2_with fail
        refine C1.out.mono ?_
        rintro e w' ⟨rfl, rfl⟩
        go_wp2_with fail
        refine C2.out.mono ?_
        rintro e w' ⟨rfl, rfl⟩
        go_wp2_with fail
        refine C3.out.mono ?_
        rintro e w' ⟨rfl, rfl⟩
        go_wp2_with fail
        refine (no_any E10.out ef.out).mono ?_
        rintro e w' ⟨rfl, rfl⟩
        go_wp2_with fail
        refine (no_any V10.out ef.out).mono ?_
        rintro e w' ⟨rfl, rfl⟩
        go_wp2_with fail
        have fw := T10.out.mono.2.2.2.few
        have fw' := Lib.hid fw
        clear fw
        obtain ⟨_, _, c1, _, _, c4, _, _, _, cr, _⟩ := T10.out.look
        refine (log_any c1 c4 cr (by have := fw'.out; omega)).mono ?_
        clear c1 c4 cr
        rintro e W11 ⟨g, rfl, hW, _, hK⟩
        have G11 := Lib.hid hW
        have K11 := Lib.hid hK
        clear hW hK
        go_wp2_with fail
        obtain ⟨_, _, c1, _, _, c4, _, _, _, cr, _⟩ := (U10.out.same K11.out).look
        refine (log_any c1 c4 cr (by have := fw'.out; omega)).mono ?_
        clear c1 c4 cr
        rintro e W12 ⟨g', rfl, hW, _, hK⟩
        have G12 := Lib.hid hW
        have G11' := Lib.hid (G11.out.keeps hK id)
        have K12 := Lib.hid (K11.out.trans_ hK)
        clear hW hK
        go_wp2_with fail
        refine (samelog_yes g g' SF.log _ G11'.out G12.out (by have := fw'.out; omega)).mono ?_
        rintro e W13 ⟨rfl, hK⟩
        have K13 := Lib.hid (K12.out.trans_ hK)
        clear hK
        obtain ⟨_, _, c1, c2, c3, _⟩ := (T10.out.same K13.out).look
        obtain ⟨_, _, c1', c2', c3', _⟩ := (U10.out.same K13.out).look
        have C1 := Lib.hid (steps_any c1 c3)
        have C2 := Lib.hid (steps_any c1' c3')
        have C3 := Lib.hid (round_any c1 c2)
        have C4 := Lib.hid (round_any c1' c2')
        clear c1 c2 c3 c1' c2' c3'
        go_wp2_with fail
        refine C1.out.mono ?_
        rintro e w' ⟨rfl, rfl⟩
        go_wp2_with fail
        refine C2.out.mono ?_
        rintro e w' ⟨rfl, rfl⟩
        go_wp2_with fail
        refine C3.out.mono ?_
        rintro e w' ⟨rfl, rfl⟩
        go_wp2_with fail
        refine C4.out.mono ?_
        rintro e w' ⟨rfl, rfl⟩
        go_wp2_with fail
        obtain ⟨ws, cnt, X', hBk, hlv⟩ := (T10.out.same K13.out).live
        have hlv' := Lib.hid hlv
        refine (live_bk keysSaid sortedSaid _ hBk).mono ?_
        clear hBk hlv
        rintro e W14 ⟨vl, rfl, hM, hK⟩
        have R14 := Lib.hid hM.rdw
        have K14 := Lib.hid (K13.out.trans_ hK)
        clear hM hK
        go_wp2_with fail
        obtain ⟨ws', cnt', X'', hBk, _⟩ := (U10.out.same K14.out).live
        refine (live_bk keysSaid sortedSaid _ hBk).mono ?_
        clear hBk
        rintro e W15 ⟨vl', rfl, hM, hK⟩
        have R15' := Lib.hid hM.rdw
        have R15 := Lib.hid (R14.out.same hK)
        have K15 := Lib.hid (K14.out.trans_ hK)
        clear hM hK
        go_wp2_with fail
        refine (samew_yes _ _ _ _ R15.out R15'.out hlv'.out).mono ?_
        rintro e W16 ⟨rfl, hK⟩
        have K16 := Lib.hid ((KW10.out.trans_ K15.out).trans_ hK)
        clear hK
        go_wp2_with fail
        refine (alive5 _ (g0.out.keeps K16.out id)).mono ?_
        rintro e W17 ⟨rfl, hK⟩
        have K17 := Lib.hid (K16.out.trans_ hK)
        clear hK
        go_wp2_with fail
        go_ret
        exact ⟨rfl, K17.out.below (Nat.le_refl _) fun _ _ => id⟩
  · have G4 := Lib.hid (g0.out.keeps ((K1.out.trans_ K2.out).trans_ K3.out) id)
    by_cases hl0 : p.length ≤ 20
    · have hl1 : (30 : Int) < (len1 : Int) := by omega
      rw [decide_eq_true hl0]
      go_wp2_with (go_at_call 6; refine (alive5 _ G4.out).mono ?_; rintro e W9 ⟨rfl, hK⟩; have K9 := Lib.hid (((K1.out.trans_ K2.out).trans_ K3.out).trans_ hK); clear hK)
      go_ret
      exact ⟨rfl, K9.out.below (Nat.le_refl _) fun _ _ => id⟩
    · rw [decide_eq_false hl0]
      go_wp2_with (go_at_call 6; refine (alive5 _ G4.out).mono ?_; rintro e W9 ⟨rfl, hK⟩; have K9 := Lib.hid (((K1.out.trans_ K2.out).trans_ K3.out).trans_ hK); clear hK)
      go_ret
      exact ⟨rfl, K9.out.below (Nat.le_refl _) fun _ _ => id⟩
end Go.Proofs.YtipogkgolbmgkaaGreatDoor
namespace Go.Proofs.YtipogkgolbmgkaaGreatDoor
open Go.ChangeShapes Go.WideShapes Go.Deep
section
variable {H : Type} {enc : TypeId × Value → H} {P : Program} {w : World} {base : Nat} {spare : Nat → Bool} {held : Bool}
theorem open_slice_fields {t e : TypeId} {fs : Array Field} {fuel : Nat} {cs : List Value} {x : DataW H × List MemPlace} (ht : P.underlying t = some (.slice e)) (he : P.underlying e = some (.struct fs))
    (hone : oneCellFields P fs = true) (hC : P.cellsOf e = fs.size) (h : DataW.trod enc P w base spare held fuel t cs = some x) :
    (cs = [.slice none 0 0] ∧ x = (.nil, [])) ∨
    ∃ (a : Addr) (len cap m : Nat) (D : Nat → DataW H) (Pl : Nat → List MemPlace), cs = [.slice (some a) len cap] ∧ base ≤ a.block ∧ len ≤ cap ∧ cap ≤ maxLen ∧ m = (if spare a.block then cap else len) ∧
      x = (.slice ((List.range len).map D) ((List.range (m - len)).map fun j => D (len + j)), MemPlace.row a (m * fs.size) ++ (List.range m).flatMap Pl) ∧
      ∀ i, i < m → ∃ (ys : List (DataW H × List MemPlace)) (n : Nat), D i = .agg (ys.map (·.1)) ∧ Pl i = ys.flatMap (·.2) ∧ ys.length = fs.size ∧
        ∀ (j : Nat) (f : Field), fs[j]? = some f → ∃ (v : Value) (y : DataW H × List MemPlace), w.cell? (a.add (i * fs.size + j)) = some v ∧ ys[j]? = some y ∧ DataW.trod enc P w base spare held n f.type [v] = some y := by
  rcases open_slice ht h with h0 | ⟨a, len, cap, m, n, D, Pl, hcs, hb, hl, hm, hmm, hx, hi⟩
  · exact .inl h0
  · refine .inr ⟨a, len, cap, m, D, Pl, hcs, hb, hl, hm, hmm, by rw [hC] at hx; exact hx, fun i him => ?_⟩
    obtain ⟨cs', hc, ht'⟩ := hi i him
    rw [hC] at hc
    obtain ⟨ys, n', hn', hy, hlen, hyl, hf⟩ := DataW.trod_struct he ht'
    obtain ⟨_, hcl, hat⟩ := World.cells?_some hc
    simp only [Prod.mk.injEq] at hy
    refine ⟨ys, n', hy.1, hy.2, hyl, fun j f hj => ?_⟩
    obtain ⟨ho, hk⟩ := hone_of hone j f hj
    have hjl : j < fs.size := (Array.getElem?_eq_some_iff.1 hj).1
    have hcell := hat j hjl
    have hv : cs'[j]? = some (cs'[j]'(by omega)) := List.getElem?_eq_getElem (by omega)
    have h1 := hf j f hj
    rw [ho, hk] at h1
    have hone' : (cs'.drop j).take 1 = [cs'[j]'(by omega)] := by
      rw [List.drop_eq_getElem_cons (by omega)]
      rfl
    rw [hone'] at h1
    have hys : ys[j]? = some (ys[j]'(by omega)) := List.getElem?_eq_getElem (by omega)
    refine ⟨_, _, ?_, hys, h1.trans hys⟩
    rw [← Go.Deep.add_add, hcell, hv]
end
end Go.Proofs.YtipogkgolbmgkaaGreatDoor
namespace Go.Proofs.YtipogkgolbmgkaaGreatDoor
open Go.RowKit Go.Extern.Stop Go.Stop Go.Extern
open Go.ChangeShapes Go.WideShapes Go.ChangeAt

theorem threadRuns_et : Tryz.prog.globalNamed "errors.errorType" = some 0 := by kernel_rfl
theorem threadRuns_rt : (Tryz.prog.cutTypes.find? (·.1 == "internal/reflectlite.rtype")).map (·.2) = some 116 := by kernel_rfl
theorem threadRuns_oneRow : ((List.range 200).filter fun t => Tryz.prog.rowNamed t [101, 114, 114, 111, 114]) = [36] := by kernel_rfl
theorem threadRuns_size : Tryz.prog.types.size = 200 := by kernel_rfl

/-- What the listed variable gives the walk. -/
theorem threadRuns_glob {W : World} (h : laidMetH Tryz.prog Rows.threadRunsRow.laid W) : Glob W := by
  have h' : laidMet Tryz.prog [] W ∧ handlesMet Tryz.prog Rows.threadRunsRow.laid W := h
  obtain ⟨name, u, ty, e1, e2, e3, e4, e5⟩ := h'.2 _ (List.mem_singleton.2 rfl)
  have en : name = [101, 114, 114, 111, 114] := (Option.some.inj e1).symm
  subst en
  obtain rfl := Option.some.inj (threadRuns_rt.symm.trans e2)
  have hm : ty ∈ (List.range 200).filter fun t => Tryz.prog.rowNamed t [101, 114, 114, 111, 114] := List.mem_filter.2 ⟨List.mem_range.2 (by rw [← threadRuns_size]; exact e3), e4⟩
  rw [threadRuns_oneRow] at hm
  obtain rfl := List.mem_singleton.1 hm
  have hh : typeHandle Tryz.prog 36 = .pointer (some ⟨1, 36, none⟩) := by kernel_rfl
  rw [hh] at e5
  unfold Glob
  simpa using World.var?_cell threadRuns_et e5 0

/-- A world that meets the condition: the settled one, the variable's cell laid. -/
noncomputable def threadRuns_laidWorld (os : Os) : World :=
  let w0 := World.holding Tryz.prog os ⟨#[], #[], []⟩
  { w0 with heap := w0.heap.modify 0 fun
      | .cells _ t frozen => .cells #[.iface 116 (.agg #[.pointer (some ⟨1, 36, none⟩)])] t frozen
      | o => o }
theorem threadRuns_met (os : Os) (args : Array Value) : laidMetH Tryz.prog Rows.threadRunsRow.laid ((threadRuns_laidWorld os).forCall (fun _ _ => 0) ⟨#[], args, []⟩).memory :=
  laidMetH_of_parts (laidMet_nil _ _) (by kernel_rfl)

theorem threadRuns_own : ownKnob Tryz.prog.godebug = none := by kernel_rfl
theorem threadRuns_laidOut : laidOutB Tryz.prog = true := by kernel_rfl

set_option maxRecDepth 100000 in
theorem threadRuns_lifted (os : Os) (started : os.Started) (H : Type) (enc : TypeId × Value → H) :
    ReturnsInHanded {} Tryz.checked os 3 .any (fun w args => (Rows.threadRunsSpec.pre enc Tryz.prog Tryz.f3 [] false w args ∧ laidMetH Tryz.prog Rows.threadRunsRow.laid w) ∧ sizedMet enc Tryz.prog Tryz.f3 (OpenSpec.ofChange Rows.threadRunsSpec) false w args)
      (Rows.threadRunsSpec.post enc Tryz.prog Tryz.f3 false true false false) := by
  refine returnsInHanded_of_change_and (C := Tryz.checked) (X := fun w _ => laidMetH Tryz.prog Rows.threadRunsRow.laid w) (fun _ _ _ hh h => h.of_heap hh) threadRuns_own started (by kernel_rfl) Tryz.func3
    (ChangeSpec.witness_at (enc := enc) (C := Tryz.checked) (os := os) (X := fun w _ => laidMetH Tryz.prog Rows.threadRunsRow.laid w) false (threadRuns_laidWorld os) #[.slice none 0 0, .slice none 0 0] 8 rfl (by kernel_rfl) (by kernel_rfl) (by kernel_rfl) (by kernel_rfl) (by kernel_rfl) (threadRuns_met os _)) ?_
  intro W base args ds gs before hval0 hW hcnd _ hL _
  have hGl := threadRuns_glob hL
  clear hcnd
  have hval : ∀ (j : Nat) t v, Tryz.f3.params[j]? = some t → args[j]? = some v → Value.okWide Tryz.prog W .any base t v := hval0
  have hW' := hW
  obtain ⟨p, q, hA0, hV, rfl, hfz, hnd⟩ := hW
  have hA : DataW.TrodAll enc Tryz.prog W 0 (fun _ => true) true Tryz.f3.params.toList args.toList ds p := hA0
  rw [Tryz.params3] at hA hval
  obtain ⟨v0, vs0, d0, ds0, p0, q0, hargs, rfl, rfl, h0, r0⟩ := trodAll_cons hA
  obtain ⟨v1, vs1, d1, ds1, p1, q1, rfl, rfl, rfl, h1, r1⟩ := trodAll_cons r0
  obtain ⟨rfl, rfl, rfl⟩ := trodAll_nil r1
  obtain rfl : args = #[v0, v1] := by cases args; simp_all
  obtain ⟨rfl, rfl⟩ := trodVars_none hV
  have k0 := h0
  have lt0 : ∀ x ∈ p0, x.block < W.heap.size := by obtain ⟨m, hm⟩ := k0; exact DataW.trod_lt m _ _ _ hm
  obtain ⟨a0, len0, cap0, rfl⟩ := okWide_slice Tryz.underlying22 (hval 0 22 v0 rfl rfl)
  have w0 : MicsIn W a0 len0 := by
    obtain ⟨fuel, hf⟩ := h0
    rcases open_slice_fields Tryz.underlying22 Tryz.underlying54 (by kernel_rfl) (by kernel_rfl) hf with ⟨hcs, _⟩ | ⟨x, l, c, m, D, Pl, hcs, _, hl, hm, hmm, _, hi⟩
    · simp [Value.cells] at hcs
      obtain ⟨rfl, rfl, rfl⟩ := hcs
      exact .inl ⟨rfl, rfl⟩
    · simp [Value.cells] at hcs
      obtain ⟨rfl, rfl, rfl⟩ := hcs
      refine .inr ⟨_, rfl, Nat.le_trans hl hm, fun i hlt => ?_⟩
      obtain ⟨ys, n, _, _, _, hf⟩ := hi i (by rw [hmm]; split <;> omega)
      obtain ⟨u0, y0, c0, _, t0⟩ := hf 0 _ rfl
      obtain ⟨z0, e0, _, _⟩ := DataW.trod_int (k := .i64) (by kernel_rfl) t0
      simp at e0
      subst e0
      obtain ⟨u1, y1, c1, _, t1⟩ := hf 1 _ rfl
      obtain ⟨z1, e1, _, _⟩ := DataW.trod_int (k := .i64) (by kernel_rfl) t1
      simp at e1
      subst e1
      obtain ⟨u2, y2, c2, _, t2⟩ := hf 2 _ rfl
      obtain ⟨z2, e2, _, _⟩ := DataW.trod_int (k := .i64) (by kernel_rfl) t2
      simp at e2
      subst e2
      obtain ⟨u3, y3, c3, _, t3⟩ := hf 3 _ rfl
      obtain ⟨z3, e3, _, f3⟩ := DataW.trod_int (k := .u64) (by kernel_rfl) t3
      simp at e3
      subst e3
      obtain ⟨u4, y4, c4, _, t4⟩ := hf 4 _ rfl
      obtain ⟨z4, e4, _⟩ := DataW.trod_bool (by kernel_rfl) t4
      simp at e4
      subst e4
      obtain ⟨u5, y5, c5, _, t5⟩ := hf 5 _ rfl
      obtain ⟨z5, e5, _, _⟩ := DataW.trod_int (k := .i64) (by kernel_rfl) t5
      simp at e5
      subst e5
      exact ⟨z0, z1, z2, z3, z4, z5, c0, c1, c2, c3, c4, c5, f3⟩
  have k1 := h1
  have lt1 : ∀ x ∈ p1, x.block < W.heap.size := by obtain ⟨m, hm⟩ := k1; exact DataW.trod_lt m _ _ _ hm
  obtain ⟨a1, len1, cap1, rfl⟩ := okWide_slice Tryz.underlying23 (hval 1 23 v1 rfl rfl)
  have w1 : Nums W a1 len1 := by
    obtain ⟨fuel, hf⟩ := h1
    rcases open_ints Tryz.underlying23 Tryz.underlying3 (by kernel_rfl) hf with ⟨hcs, _⟩ | ⟨x, l, c, zs, hcs, _, hl, hm, hzl, _, hi, hwf⟩
    · simp [Value.cells] at hcs
      obtain ⟨rfl, rfl, rfl⟩ := hcs
      exact .inl ⟨rfl, rfl⟩
    · have hz : zs.length = c := by simpa using hzl
      simp [Value.cells] at hcs
      obtain ⟨rfl, rfl, rfl⟩ := hcs
      refine .inr ⟨_, rfl, Nat.le_trans hl hm, fun i hlt => ⟨_, hi i (by omega), _, rfl, hwf _ ?_⟩⟩
      have hiz : i < zs.length := by omega
      rw [show zs.getD i 0 = zs[i] by simp [List.getD, hiz]]
      exact List.getElem_mem hiz
  clear hA0 hval0
  refine (threadRuns_walk a0 len0 cap0 a1 len1 cap1 W w0 w1 hGl).mono fun e W' ⟨he, bel⟩ => ?_
  subst he
  exact ⟨_, rfl, _, _, _, [], _, [], hW', trodAll_mk1 (shut_bool Tryz.underlying4 _), (trodAll_cons_mk (Below.trod threadRuns_laidOut (by kernel_rfl) (of_decide_eq_true (by kernel_rfl)) k0 bel lt0) (trodAll_cons_mk (Below.trod threadRuns_laidOut (by kernel_rfl) (of_decide_eq_true (by kernel_rfl)) k1 bel lt1) trodAll_mk0)), rfl, bel.frame _, fun h => by cases h⟩

/-- The statement ThreadRuns. -/
theorem threadRuns_holds : Rows.ThreadRunsSaid :=
  OpenClaim.holds_of_wide 3 Tryz.f3 rfl rfl rfl rfl rfl rfl rfl ⟨rfl, rfl, rfl, rfl, rfl⟩ rfl rfl rfl rfl rfl (by kernel_rfl) Tryz.func3 (by kernel_rfl)
    (of_decide_eq_true (by kernel_rfl)) (by unfold Func.isWrapper; first | (rw [if_pos (by decide +kernel)]; kernel_rfl) | (rw [if_neg (by decide +kernel)]; exact ⟨rfl, rfl⟩))
    (fun os started H enc _ => threadRuns_lifted os started H enc)
#print axioms threadRuns_holds

/-- The card: the row, what it lists tied to the program's text. -/
theorem threadRuns_card : Rows.ThreadRunsCardSaid :=
  Claim7.holds_tied_plain_at .later [] [.handle] true Rows.threadRunsCard.stood.harness true
    threadRuns_holds (fun _ h => by cases h) (by kernel_rfl) (fun _ h => by cases h) threadRuns_row_tie rfl ⟨rfl, rfl⟩ (by kernel_rfl) rfl
    (fun f fn hf hfn => by
      obtain rfl : f = 3 := Option.some.inj ((show Tryz.prog.funcNamed "concord/concordlaw05.ThreadRuns" = some 3 by kernel_rfl).symm.trans hf) |>.symm
      obtain rfl : fn = Tryz.f3 := (Option.some.inj (Tryz.func3.symm.trans hfn)).symm
      exact ⟨by kernel_rfl, fun j t ht => by
        rw [Tryz.params3] at ht
        have hm : t ∈ Tryz.f3.params.toList := by rw [Tryz.params3]; simpa using Array.mem_of_getElem? ht
        have hall : (Tryz.f3.params.toList.all fun u => !Tryz.prog.wantsStandIn u) = true := by kernel_rfl
        exact (show Tryz.prog.wantsStandIn t = false by simpa using List.all_eq_true.1 hall t hm)⟩)
    (by kernel_rfl)
#print axioms threadRuns_card
end Go.Proofs.YtipogkgolbmgkaaGreatDoor
