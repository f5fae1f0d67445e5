/-
  concordref06.Same by contract, of answers that are the same.
  concordlaw06.alive returns true; nothing that was there has changed.
  meta, plainly, over three words alone: the clock, the cell's Meta, its value; a tree that runs alone; invariants of pools.
  Rows of calls and of answers of one's own: what append of several leaves; both at once.
  Lists of lists of calls, as laws build them: a row of one's own of slices that literals laid; another list is appended.
-/
import Derived.Test.YtenhmficiegpiaaGreatDoorMtRows
import Derived.Test.YtenhmficiegpiaaGreatDoorMtRunW
import Derived.LoopTactic
import Derived.Laws.StructEq
import Derived.Deep.Grids

namespace Go.Proofs.YtenhmficiegpiaaGreatDoor
open Go.RowKit Go.Extern.Stop Go.Stop Go.Extern

theorem answ_fields : Tryz.prog.underlying 38 = some (.struct (Tryz.prog.fieldsOf 38)) := by kernel_rfl
theorem answ_held : Tryz.prog.stoodInHeld 38 = false := by kernel_rfl
theorem answ_guard : Tryz.prog.eqGuardType Tryz.prog.depth 38 = false := by kernel_rfl
theorem answ_list : ((Tryz.prog.fieldsOf 38).toList.map fun f => (f.type, f.offset, f.name == "_")) = [(3, 0, false), (24, 1, false), (3, 2, false)] := by kernel_rfl

theorem eqIn_ans (w : World) (e v n : Int) : (Op.equalIn 10000 38 (.agg #[.int .i64 e, .int .u64 v, .int .i64 n]) (.agg #[.int .i64 e, .int .u64 v, .int .i64 n])).run Tryz.prog w = .ok true w := by
  rw [run_equalIn_agg w 9999 _ _ _ answ_fields answ_held]
  have h := answ_list
  generalize (Tryz.prog.fieldsOf 38).toList = fs at h ⊢
  obtain ⟨f0, f1, f2, rfl⟩ : ∃ a b c, fs = [a, b, c] := by
    have hl := congrArg List.length h
    rw [List.length_map] at hl
    match fs, hl with
    | [a, b, c], _ => exact ⟨a, b, c, rfl⟩
    | [], hl => simp at hl
    | [_], hl => simp at hl
    | [_, _], hl => simp at hl
    | _ :: _ :: _ :: _ :: _, hl => simp at hl
  simp only [List.map_cons, List.map_nil, List.cons.injEq, Prod.mk.injEq, and_true] at h
  obtain ⟨⟨a1, a2, a3⟩, ⟨b1, b2, b3⟩, c1, c2, c3⟩ := h
  have uI := Tryz.underlying3
  have uW := Tryz.underlying24
  simp [Op.eqFields, a1, a2, b1, b2, c1, c2, beq_eq_false_iff_ne.1 a3, beq_eq_false_iff_ne.1 b3, beq_eq_false_iff_ne.1 c3, part, go_sem]

/-- A slice that reads as answers. -/
def ARd (w : World) (v : Value) (l : List Ans) : Prop :=
  ∃ o c, v = .slice o l.length c ∧ (0 < l.length → ∃ g, o = some ⟨g, 0, none⟩ ∧ ∀ k, k < l.length → ∀ j, j < 3 → w.cell? ⟨g, k * 3 + j, none⟩ = (ansC (l.getD k ⟨0, 0, 0⟩))[j]?)

theorem ARow.rd {w : World} {v : Value} {l : List Ans} (h : ARow w v l) : ARd w v l := by
  obtain ⟨o, c, rfl, hg⟩ := h.shape
  refine ⟨o, c, rfl, fun hl => ?_⟩
  obtain ⟨g, rfl⟩ := hg hl
  exact ⟨g, rfl, fun k hk j hj => h.at_ rfl hk hj⟩
theorem ARd.keeps {w w' : World} {v : Value} {l : List Ans} (h : ARd w v l) (k : Keeps (fun _ => False) w w') : ARd w' v l := by
  obtain ⟨o, c, hv, hg⟩ := h
  refine ⟨o, c, hv, fun hl => ?_⟩
  obtain ⟨g, ho, hc⟩ := hg hl
  refine ⟨g, ho, fun i hi j hj => ?_⟩
  have h1 := hc i hi j hj
  have hx : ∃ x, (ansC (l.getD i ⟨0, 0, 0⟩))[j]? = some x := ⟨_, List.getElem?_eq_getElem (show j < (ansC (l.getD i ⟨0, 0, 0⟩)).length by show j < 3; omega)⟩
  obtain ⟨x, hx⟩ := hx
  rw [hx] at h1 ⊢
  exact (k.cell (cell_lt h1) id).trans h1
/-- A row that a literal laid. -/
theorem ARd.made {w : World} {g : Nat} {t : TypeId} {l : List Ans} (h : Whole w g t (ansCells l).toArray) (c : Nat) : ARd w (.slice (some ⟨g, 0, none⟩) l.length c) l :=
  ⟨_, c, rfl, fun _ => ⟨g, rfl, fun k hk j hj => by rw [h.at_, List.getElem?_toArray]; exact ansCells_at l k hk j hj⟩⟩

set_option maxRecDepth 100000 in
set_option maxHeartbeats 1000000 in
theorem same_yes (L : List Ans) (v v' : Value) (w : World) (h1 : ARd w v L) (h2 : ARd w v' L) (few : L.length ≤ 1000) :
    Calls Tryz.prog 10 #[v, v'] w fun e w' => e = .returned (.bool true) ∧ Keeps (fun _ => False) w w' := by
  obtain ⟨a, c, rfl, ha⟩ := h1
  obtain ⟨a', c', rfl, ha'⟩ := h2
  have h1' := Lib.hid ha
  have h2' := Lib.hid ha'
  have hE := eqIn_ans
  have hgd := answ_guard
  have hb : (L.length : Int) ≤ 1000 := by omega
  clear ha ha'
  go_enter Tryz.func10, Tryz.ntmps10
  go_wp2_with fail
  go_loopw [5] (fun i wr => ∃ k : Nat, k ≤ L.length ∧ i = .int .i64 k ∧ Keeps (fun _ => False) w wr) (fun i _ => L.length - (intOf i).toNat)
  case atStart => exact ⟨0, by omega, rfl, Keeps.refl _ _⟩
  case round =>
    obtain ⟨k, hk, rfl, hK⟩ := hrel
    have K1 := Lib.hid hK
    clear hK
    by_cases hlt : k < L.length
    · have hlt' : (k : Int) < (L.length : Int) := by omega
      have hk0 : (0 : Int) ≤ (k : Int) := by omega
      obtain ⟨b, rfl, hc⟩ := h1'.out (by omega)
      obtain ⟨b', rfl, hc'⟩ := h2'.out (by omega)
      have K2 := K1.out.drew
      have cell1 : ∀ j, j < 3 → ∀ x, (ansC (L.getD k ⟨0, 0, 0⟩))[j]? = some x → wr.drew.cell? ⟨b, k * 3 + j, none⟩ = some x := fun j hj x hx => by
        have h := hc k hlt j hj
        rw [hx] at h
        exact (K2.cell (cell_lt h) id).trans h
      have cell2 : ∀ j, j < 3 → ∀ x, (ansC (L.getD k ⟨0, 0, 0⟩))[j]? = some x → wr.drew.cell? ⟨b', k * 3 + j, none⟩ = some x := fun j hj x hx => by
        have h := hc' k hlt j hj
        rw [hx] at h
        exact (K2.cell (cell_lt h) id).trans h
      generalize L.getD k ⟨0, 0, 0⟩ = x at cell1 cell2
      have g0 : wr.drew.cell? ⟨b, k * 3, none⟩ = _ := cell1 0 (by omega) _ rfl
      have g1 := cell1 1 (by omega) _ rfl
      have g2 := cell1 2 (by omega) _ rfl
      have y0 : wr.drew.cell? ⟨b', k * 3, none⟩ = _ := cell2 0 (by omega) _ rfl
      have y1 := cell2 1 (by omega) _ rfl
      have y2 := cell2 2 (by omega) _ rfl
      clear K2 hc hc' cell1 cell2
      go_wp2_with fail
      go_region
      go_wp2_with fail
      go_roundw
      case rel => exact ⟨k + 1, by omega, by go_num, K1.out.drew⟩
      case measure => simp [intOf]; omega
    · go_wp2_with fail
      go_ret
      exact ⟨rfl, K1.out⟩
end Go.Proofs.YtenhmficiegpiaaGreatDoor

namespace Go.Proofs.YtenhmficiegpiaaGreatDoor
open Go.RowKit Go.Extern.Stop Go.Stop Go.Extern

/-- The cells of a call. -/
def calC (x : Cal) : List Value := [.int .i64 (x.kind : Int), .int .i64 0, .int .i64 (x.n : Int), .int .i64 (x.own : Int), .int .u64 (x.value : Int)]
def calCells (l : List Cal) : List Value := l.flatMap calC
theorem calCells_at : ∀ (l : List Cal) (k : Nat) (x : Cal), l[k]? = some x → ∀ j, j < 5 → (calCells l)[k * 5 + j]? = (calC x)[j]?
  | t :: l, 0, x, h, j, hj => by
    rw [show calCells (t :: l) = calC t ++ calCells l from rfl, List.getElem?_append_left (by show 0 * 5 + j < 5; omega)]
    simp at h
    subst h
    simp
  | t :: l, k + 1, x, h, j, hj => by
    rw [show calCells (t :: l) = calC t ++ calCells l from rfl, List.getElem?_append_right (by show 5 ≤ (k + 1) * 5 + j; omega), show (k + 1) * 5 + j - (calC t).length = k * 5 + j by show (k + 1) * 5 + j - 5 = _; omega, calCells_at l k x (by simpa using h) j hj]
/-- A row of calls that a literal laid. -/
theorem CRow.made {w : World} {g : Nat} {t : TypeId} {l : List Cal} (h : Whole w g t (calCells l).toArray) (c : Nat) : CRow w (.slice (some ⟨g, 0, none⟩) l.length c) l :=
  ⟨_, c, rfl, fun _ => ⟨g, rfl, fun i hi x hx => by
    have hc := fun j hj => (h.at_ (i * 5 + j)).trans ((List.getElem?_toArray ..).trans (calCells_at l i x hx j hj))
    exact ⟨hc 0 (by omega), hc 1 (by omega), hc 2 (by omega), hc 3 (by omega), hc 4 (by omega)⟩⟩⟩

/-- The chapter's example. -/
def aliveL : List Cal := [⟨3, 0, 0, 0⟩, ⟨5, 0, 3, 0⟩, ⟨3, 0, 0, 0⟩, ⟨6, 5, 0, 8⟩, ⟨3, 0, 0, 0⟩, ⟨5, 0, 0, 0⟩, ⟨2, 0, 0, 0⟩]
def aliveA : List Ans := [⟨0, 10, 0⟩, ⟨0, 0, 0⟩, ⟨12, 0, 0⟩, ⟨0, 0, 0⟩, ⟨0, 8, 5⟩, ⟨12, 0, 0⟩, ⟨0, 0, 1⟩]
theorem aliveL_ok : ∀ x ∈ aliveL, CalOk x := by
  intro x hx
  simp only [aliveL, List.mem_cons, List.not_mem_nil, or_false] at hx
  rcases hx with rfl | rfl | rfl | rfl | rfl | rfl | rfl <;> exact ⟨by decide, by decide, by decide, by decide⟩
theorem alive_runs : (Pr.runs 100 (callsT 1 3 aliveL []) scM).1 = .ret aliveA ∧ (Pr.runs 100 (callsT 1 3 aliveL []) scM).2.2 = true := ⟨by kernel_rfl, by kernel_rfl⟩

set_option maxRecDepth 100000 in
set_option maxHeartbeats 4000000 in
theorem alive_any6 (w : World) (hg : Glob w) :
    Calls Tryz.prog 8 #[] w fun e w' => e = .returned (.bool true) ∧ Keeps (fun _ => False) w w' := by
  have hg' := Lib.hid hg
  clear hg
  go_enter Tryz.func8, Tryz.ntmps8
  go_wp2_with fail
  refine (scene_any w hg'.out).mono ?_
  rintro e W0 ⟨b, a, X, row, rfl, hS, hrow, hK, hX, hrw, hrX⟩
  obtain ⟨W1, hW1⟩ : ∃ V, V = (W0.alloc (.cells #[.slice none 0 0] 59)).alloc (.cells #[.int .i64 3, .int .i64 0, .int .i64 0, .int .i64 0, .int .u64 0, .int .i64 5, .int .i64 0, .int .i64 0, .int .i64 3, .int .u64 0, .int .i64 3, .int .i64 0, .int .i64 0, .int .i64 0, .int .u64 0, .int .i64 6, .int .i64 0, .int .i64 5, .int .i64 0, .int .u64 8, .int .i64 3, .int .i64 0, .int .i64 0, .int .i64 0, .int .u64 0, .int .i64 5, .int .i64 0, .int .i64 0, .int .i64 0, .int .u64 0, .int .i64 2, .int .i64 0, .int .i64 0, .int .i64 0, .int .u64 0] 31) := ⟨_, rfl⟩
  have k1 : Keeps (fun _ => False) W0 W1 := by rw [hW1]; exact ((Keeps.refl _ W0).alloc _).alloc _
  have mO : Whole W1 W0.heap.size 59 #[.slice none 0 0] := by rw [hW1]; exact (made_at _ rfl _ _).alloc _
  have mC : Whole W1 (W0.heap.size + 1) 31 (calCells aliveL).toArray := by rw [hW1]; exact made_at _ (by simp) _ _
  have oldX := Lib.hid hS.old
  have S0 := Lib.hid hS
  have K1 := Lib.hid (hK.trans_ k1)
  have k01 := Lib.hid k1
  have X0 := Lib.hid hX
  have RW := Lib.hid (And.intro hrow (And.intro hrw hrX))
  have MO := Lib.hid mO
  have MC := Lib.hid mC
  have hW1' := Lib.hid hW1
  have sz0 := Lib.hid hK.size
  clear hS hrow hK hX hrw hrX k1 mO mC hW1
  go_wp2_with fail
  rw [← hW1'.out]
  refine (body_new _ _ _ W1 ⟨_, _, _, rfl⟩ ⟨_, _, _, rfl⟩).mono ?_
  rintro e W2 ⟨rfl, hW2⟩
  have k2 : Keeps (fun _ => False) W1 W2 := by rw [hW2]; exact ((((Keeps.refl _ W1).alloc _).alloc _).alloc _).alloc _
  have v0 : Whole W2 W1.heap.size 32 #[.slice (some ⟨W0.heap.size + 1, 0, none⟩) 7 7] := by rw [hW2]; exact (((made_at _ rfl _ _).alloc _).alloc _).alloc _
  have v1 : Whole W2 (W1.heap.size + 1) 24 #[.int .u64 1] := by rw [hW2]; exact ((made_at _ (by simp) _ _).alloc _).alloc _
  have v2 : Whole W2 (W1.heap.size + 1 + 1) 25 #[.slice (some ⟨row, 0, none⟩) 1 1] := by rw [hW2]; exact (made_at _ (by simp) _ _).alloc _
  have v3 : Whole W2 (W1.heap.size + 1 + 1 + 1) 57 #[.pointer (some ⟨W0.heap.size, 0, none⟩)] := by rw [hW2]; exact made_at _ (by simp) _ _
  have K2 := Lib.hid (k01.out.trans_ k2)
  have VV := Lib.hid (And.intro v0 (And.intro v1 (And.intro v2 v3)))
  have k12 := Lib.hid k2
  have cn := Lib.hid (tnew_any (F := 28) (caps := #[.pointer (some ⟨W1.heap.size, 0, none⟩), .pointer (some ⟨W1.heap.size + 1 + 1, 0, none⟩), .pointer (some ⟨W1.heap.size + 1, 0, none⟩), .pointer (some ⟨W1.heap.size + 1 + 1 + 1, 0, none⟩)]) (S0.out.same K2.out) rfl)
  clear hW2 k2 v0 v1 v2 v3
  go_wp2_with fail
  refine cn.out.mono ?_
  rintro e W3 ⟨t, pl, O', rfl, hO, hOn, hK3⟩
  have K3 := Lib.hid (K2.out.trans_ hK3)
  have hsz1 : W0.heap.size + 1 < W1.heap.size := MC.out.lt
  have hsz2 : W1.heap.size + 1 + 1 + 1 < W2.heap.size := VV.out.2.2.2.lt
  have hsz3 : W2.heap.size ≤ W3.heap.size := hK3.size
  have hrl : row < W0.heap.size := cell_lt RW.out.1
  have hTI := Lib.hid (show TI (fun x => (x = W1.heap.size ∨ x = W1.heap.size + 1 + 1 ∨ x = W1.heap.size + 1 ∨ x = W1.heap.size + 1 + 1 + 1) ∨ x = row ∨ x = W0.heap.size + 1) W3 b ⟨t, pl, W0.heap.size, W1.heap.size, W1.heap.size + 1 + 1, W1.heap.size + 1, W1.heap.size + 1 + 1 + 1, aliveL⟩ (callsT 1 3 aliveL []) false 0 O' (fun x => x = W0.heap.size) from {
    tg := ⟨[], hO, ⟨⟨⟨_, (VV.out.1.keeps hK3 id).at_ 0, CRow.made ((MC.out.keeps k12.out id).keeps hK3 id) 7, fun g hg => .inr (.inr (by injection hg with hg; exact hg.symm))⟩,
      ⟨row, 1, (VV.out.2.2.1.keeps hK3 id).at_ 0, (K3.out.cell (p := ⟨row, 0, none⟩) (cell_lt RW.out.1) id).trans RW.out.1, .inr (.inl rfl)⟩, (VV.out.2.1.keeps hK3 id).at_ 0, (VV.out.2.2.2.keeps hK3 id).at_ 0, .inl (.inl rfl), .inl (.inr (.inl rfl)), .inl (.inr (.inr (.inl rfl))), .inl (.inr (.inr (.inr rfl)))⟩,
      fun y hy => by rcases hy with (rfl | rfl | rfl | rfl) | rfl | rfl <;> omega,
      .slice none 0 0, [], (MO.out.keeps k12.out id).keeps hK3 id, ARow.nil _, fun y => ⟨.inl, fun h => h.elim id fun h => by cases h⟩, fun L' h => by cases h⟩, eats_nil _, after_nil _, fun e he => (by cases he), Nat.le_refl _, fun h => by cases h⟩
    cal := aliveL_ok
    len := by show (7 : Nat) ≤ 10; decide
    ro := fun hy => by
      rcases hy with (h | h | h | h) | h | h <;> simp only at h <;> omega })
  have run := Lib.hid (tg_run hTI.out.body (Y := fun x => x = W0.heap.size) (p := callsT 1 3 aliveL []) (st := 0) 100 hTI.out.tg (S0.out.same K3.out) (fun x hx ho => by have := oldX.out x hx; have := hOn x ho; omega)
    (fun x hx => ⟨fun h => by have := oldX.out x h; rcases hx with rfl | (rfl | rfl | rfl | rfl) | rfl | rfl <;> first | omega | exact RW.out.2.2 h, fun h => by have := hOn x h; rcases hx with rfl | (rfl | rfl | rfl | rfl) | rfl | rfl <;> omega⟩)
    ((callsT_fits aliveL [] aliveL_ok).cans 100 _ _ rfl S0.out.mm.1) (by decide) (by decide))
  have O3 := Lib.hid hOn
  have Kw3 := Lib.hid (K1.out.trans_ (k12.out.trans_ hK3))
  clear hO hOn hK3 cn
  go_wp2_with fail
  refine run.out.mono ?_
  clear run
  rintro e W4 ⟨rfl, st', X', O2, Y2, _, _, hT, hS, hF⟩
  rw [alive_runs.1, alive_runs.2] at hT
  obtain ⟨log, hO, hP, _⟩ := hT
  obtain ⟨_, _, v, L, hWo, hA, hY, hx⟩ := hP
  obtain rfl := hx aliveA rfl
  obtain ⟨vo, vc, hvs, _⟩ := hA.shape
  subst hvs
  have co : W4.cell? ⟨W0.heap.size, 0, none⟩ = some (.slice vo aliveA.length vc) := hWo.at_ 0
  have KW4 := Lib.hid (show Keeps (fun _ => False) w W4 from Kw3.out.trans hF.keeps fun x hx hz => by
    have := sz0.out
    rcases hz with (hz | hz) | hz
    · have := X0.out x hz; omega
    · have := O3.out x hz; omega
    · omega)
  have AR4 := Lib.hid hA.rd
  clear hO hWo hA hY hx hS hF
  obtain ⟨W5, hW5⟩ : ∃ V, V = W4.alloc (.cells #[.int .i64 0, .int .u64 10, .int .i64 0, .int .i64 0, .int .u64 0, .int .i64 0, .int .i64 12, .int .u64 0, .int .i64 0, .int .i64 0, .int .u64 0, .int .i64 0, .int .i64 0, .int .u64 8, .int .i64 5, .int .i64 12, .int .u64 0, .int .i64 0, .int .i64 0, .int .u64 0, .int .i64 1] 38) := ⟨_, rfl⟩
  have k5 : Keeps (fun _ => False) W4 W5 := by rw [hW5]; exact (Keeps.refl _ W4).alloc _
  have m5 : Whole W5 W4.heap.size 38 (ansCells aliveA).toArray := by rw [hW5]; exact Whole.made _ _ _
  have cs := Lib.hid (same_yes aliveA _ _ W5 (AR4.out.keeps k5) (ARd.made m5 7) (by decide))
  have hW5' := Lib.hid hW5
  have KW5 := Lib.hid (KW4.out.trans_ k5)
  clear hW5 k5 m5
  go_wp2_with (go_at_call 16; refine (no_nil _).mono ?_; rintro e w' ⟨rfl, rfl⟩)
  rw [← hW5'.out]
  refine cs.out.mono ?_
  rintro e W6 ⟨rfl, hK⟩
  have K6 := Lib.hid (KW5.out.trans_ hK)
  clear hK
  go_wp2_with fail
  go_ret
  exact ⟨rfl, K6.out⟩
end Go.Proofs.YtenhmficiegpiaaGreatDoor

namespace Go.Proofs.YtenhmficiegpiaaGreatDoor

/-- The three words of a scene. -/
structure T3 where
  k : Nat
  w : Nat
  v : Nat
deriving DecidableEq

def view (m : Mm) : T3 := ⟨m.mem 2, m.mem 4, m.mem 5⟩

def T3.get (t : T3) : Option Nat → Nat
  | some 2 => t.k
  | some 4 => t.w
  | some 5 => t.v
  | _ => 0
def T3.put (t : T3) (j : Option Nat) (x : Nat) : T3 :=
  match j with
  | some 2 => { t with k := x }
  | some 4 => { t with w := x }
  | some 5 => { t with v := x }
  | _ => t

def req3 (t : T3) : Req → Ent × T3
  | .load r i => (⟨1, r, i, t.get (slotOf r i), false, .ok⟩, t)
  | .store r i x => (⟨2, r, i, x, false, .ok⟩, t.put (slotOf r i) x)
  | .cas r i o x => if t.get (slotOf r i) = o then (⟨3, r, i, x, true, .ok⟩, t.put (slotOf r i) x) else (⟨3, r, i, x, false, .ok⟩, t)
  | _ => (.zero .ok, t)

theorem slot_cases {r : Nat} {i : Int} {j : Nat} (h : slotOf r i = some j) : j = 2 ∨ j = 4 ∨ j = 5 := by
  unfold slotOf at h
  split at h
  · injection h with h; exact .inl h.symm
  · split at h
    · injection h with h; exact .inr (.inl h.symm)
    · split at h
      · injection h with h; exact .inr (.inr h.symm)
      · cases h

theorem view_get {m : Mm} {j : Nat} (h : j = 2 ∨ j = 4 ∨ j = 5) : m.mem j = (view m).get (some j) := by
  rcases h with rfl | rfl | rfl <;> rfl
theorem view_put {m : Mm} {j x : Nat} {c : Nat} (h : j = 2 ∨ j = 4 ∨ j = 5) : view { m with mem := putAt m.mem j x, cnt := c } = (view m).put (some j) x := by
  rcases h with rfl | rfl | rfl <;> rfl

theorem req_view {m : Mm} (h : m.st = scM.st) {q : Req} (hs : q.slot.isSome = true) : (doReq m q).1 = (req3 (view m) q).1 ∧ view (doReq m q).2 = (req3 (view m) q).2 := by
  obtain ⟨j, hj⟩ := Option.isSome_iff_exists.1 hs
  cases q with
  | load r i =>
    have hj' : slotOf r i = some j := hj
    rw [req_load_ok (scene_word h hj')]
    simp only [req3, hj', view_get (slot_cases hj')]
    exact ⟨trivial, rfl⟩
  | store r i x =>
    have hj' : slotOf r i = some j := hj
    rw [req_store_ok (scene_word h hj')]
    simp only [req3, hj']
    exact ⟨trivial, view_put (slot_cases hj')⟩
  | cas r i o x =>
    have hj' : slotOf r i = some j := hj
    simp only [req3, hj']
    by_cases c : m.mem j = o
    · rw [req_cas_yes (scene_word h hj') c, if_pos (by rw [← view_get (slot_cases hj')]; exact c)]
      exact ⟨rfl, view_put (slot_cases hj')⟩
    · rw [req_cas_no (scene_word h hj') c, if_neg (by rw [← view_get (slot_cases hj')]; exact c)]
      exact ⟨rfl, rfl⟩
  | alloc n => cases hj
  | free r => cases hj

def Pr.step3 {α : Type} : Pr α → T3 → Pr α × T3
  | .ret a, t => (.ret a, t)
  | .acc q k, t => (k (req3 t q).1, (req3 t q).2)

theorem step_view {α : Type} {p : Pr α} (hf : p.Fits) {m : Mm} (h : m.st = scM.st) : (p.step m).1 = (p.step3 (view m)).1 ∧ view (p.step m).2 = (p.step3 (view m)).2 := by
  cases p with
  | ret a => exact ⟨rfl, rfl⟩
  | acc q k =>
    obtain ⟨e1, e2⟩ := req_view h hf.2.1
    exact ⟨congrArg k e1, e2⟩

/-- What is kept by each step over the three words is kept by a pool. -/
theorem lift3 {n : Nat} (J : T3 → (Nat → Pr (List Ans)) → Prop) (hJ : ∀ t p k, J t p → k < n → J ((p k).step3 t).2 (setAt p k ((p k).step3 t).1)) : Stays n (fun S => PInv n S ∧ J (view S.m) S.p) where
  step := fun S k h hk hd => by
    refine ⟨(PInv.stays n).step S k h.1 hk hd, ?_⟩
    rw [PS.step_go hd]
    obtain ⟨e1, e2⟩ := step_view (h.1.fit k hk) h.1.st
    simp only
    rw [e1, e2]
    exact hJ _ _ k h.2 hk

/-- A tree that runs alone. -/
def Pr.solo {α : Type} : Pr α → T3 → α × T3
  | .ret a, t => (a, t)
  | .acc q k, t => (k (req3 t q).1).solo (req3 t q).2
theorem Pr.solo_step {α : Type} (p : Pr α) (t : T3) : (p.step3 t).1.solo (p.step3 t).2 = p.solo t := by cases p <;> rfl
theorem Pr.solo_bind {α β : Type} (f : α → Pr β) : ∀ (p : Pr α) (t : T3), (p.bind f).solo t = (f (p.solo t).1).solo (p.solo t).2
  | .ret a, t => rfl
  | .acc q k, t => by simp only [Pr.bind, Pr.solo]; exact Pr.solo_bind f _ _

/-- One thread alone comes to what its tree comes to. -/
theorem solo_stays (r : List Ans × T3) : Stays 1 (fun S => PInv 1 S ∧ (S.p 0).solo (view S.m) = r) :=
  lift3 (fun t p => (p 0).solo t = r) fun t p k h hk => by
    obtain rfl : k = 0 := by omega
    rw [setAt_same, Pr.solo_step]
    exact h

theorem RunTo.solo {w w' : World} {b a C : Nat} {m : Mm} {l : List Cal} {X : Nat → Prop} {e : Ending} (h : RunTo w b a 1 (S0of m [l]) C X e w') (hinv : PInv 1 (S0of m [l])) {L : List Ans} {t : T3} (hs : (callsT 1 3 l []).solo (view m) = (L, t)) :
    ∃ v u X' m', e = .returned (.tuple #[v, .bool true]) ∧ w'.ownsRow 0 36 1 v 1 [u] ∧ ARow w' u L ∧ Sha w' b a m' X' ∧ m'.st = scM.st ∧ m'.cnt ≤ C ∧ view m' = t ∧ Mv X X' w w' := by
  obtain ⟨v, xs, Sf, X', h1, h2, h3, h4, h5, h6, h7, h8⟩ := h
  obtain ⟨u, L', hu, hp, hA⟩ := h4 0 (by decide)
  obtain ⟨hi, hI⟩ := h5 _ (solo_stays (L, t)) ⟨hinv, hs⟩
  rw [hp] at hI
  injection hI with e1 e2
  subst e1
  obtain rfl : xs = [u] := by
    match xs, h3, hu with
    | [x], _, hu => simp at hu; rw [hu]
  exact ⟨v, u, X', Sf.m, h1, h2, hA, h6, hi.st, h7, e2, h8⟩

/-! ### calls, alone -/
theorem solo_calls (x : Cal) (l : List Cal) (acc : List Ans) (t : T3) (h : x.kind ≠ 9) : (callsT 1 3 (x :: l) acc).solo t = (callsT 1 3 l (acc ++ [((callT 1 3 x).solo t).1])).solo ((callT 1 3 x).solo t).2 := by
  rw [callsT_go (fun hh => h hh.1), Pr.solo_bind]
theorem solo_nil (acc : List Ans) (t : T3) : (callsT 1 3 [] acc).solo t = (acc, t) := rfl

theorem meta_n {v o : Nat} {c b : Bool} (_ : v ≤ 281474976710655) (ho : o ≤ 255) : verN (packN v o c b) = v ∧ ownN (packN v o c b) = o ∧ chg (packN v o c b) = c ∧ wai (packN v o c b) = b := by
  have hf := flagN_lt c b
  refine ⟨?_, ?_, ?_, ?_⟩
  · unfold verN packN; omega
  · unfold ownN packN; omega
  · unfold chg bitB packN
    cases c <;> cases b <;> simp [flagN] <;> omega
  · unfold wai bitB packN
    cases c <;> cases b <;> simp [flagN] <;> omega

theorem slot30 : slotOf 3 0 = some 4 := rfl
theorem slot31 : slotOf 3 1 = some 5 := rfl
theorem slot10 : slotOf 1 0 = some 2 := rfl

/-- Lock of a cell that is not locked, at its version. -/
theorem solo_lock {k v o own x : Nat} {b : Bool} (hv : v ≤ 281474976710655) (ho : o ≤ 255) : (lockT 3 v own).solo ⟨k, packN v o false b, x⟩ = (⟨0, 0, 0⟩, ⟨k, packN v own true b, x⟩) := by
  obtain ⟨h1, h2, h3, h4⟩ := meta_n (c := false) (b := b) hv ho
  simp [lockT, turnT, Pr.solo, req3, slot30, T3.get, T3.put, h1, h3, h4, lockG]
/-- .. of one that is locked, or has another version. -/
theorem solo_lock_no {k v v' o own x : Nat} {c b : Bool} (hv : v' ≤ 281474976710655) (ho : o ≤ 255) (h : c = true ∨ v' ≠ v) : (lockT 3 v own).solo ⟨k, packN v' o c b, x⟩ = (⟨12, 0, 0⟩, ⟨k, packN v' o c b, x⟩) := by
  obtain ⟨h1, h2, h3, h4⟩ := meta_n (c := c) (b := b) hv ho
  simp [lockT, turnT, Pr.solo, req3, slot30, T3.get, h1, h3, h]
theorem solo_await {k v o x : Nat} (hv : v ≤ 281474976710655) (ho : o ≤ 255) : (awaitT 3 v).solo ⟨k, packN v o false false, x⟩ = (⟨0, 0, 0⟩, ⟨k, packN v o false true, x⟩) := by
  obtain ⟨h1, h2, h3, h4⟩ := meta_n (c := false) (b := false) hv ho
  simp [awaitT, turnT, Pr.solo, req3, slot30, T3.get, T3.put, h1, h2, h3, h4, awaitG]
theorem solo_await_no {k v v' o x : Nat} {b : Bool} (hv : v' ≤ 281474976710655) (ho : o ≤ 255) : (awaitT 3 v).solo ⟨k, packN v' o true b, x⟩ = (⟨12, 0, 0⟩, ⟨k, packN v' o true b, x⟩) := by
  obtain ⟨h1, h2, h3, h4⟩ := meta_n (c := true) (b := b) hv ho
  simp [awaitT, turnT, Pr.solo, req3, slot30, T3.get, h3]
theorem solo_release {k v o x : Nat} {b : Bool} (hv : v ≤ 281474976710655) (ho : o ≤ 255) : (releaseT 3).solo ⟨k, packN v o true b, x⟩ = (⟨0, 0, 0⟩, ⟨k, packN v 0 false b, x⟩) := by
  obtain ⟨h1, h2, h3, h4⟩ := meta_n (c := true) (b := b) hv ho
  simp [releaseT, Pr.solo, req3, slot30, T3.get, T3.put, h1, h3, h4]
theorem solo_release_no {k v o x : Nat} {b : Bool} (hv : v ≤ 281474976710655) (ho : o ≤ 255) : (releaseT 3).solo ⟨k, packN v o false b, x⟩ = (⟨2, 0, 0⟩, ⟨k, packN v o false b, x⟩) := by
  obtain ⟨h1, h2, h3, h4⟩ := meta_n (c := false) (b := b) hv ho
  simp [releaseT, Pr.solo, req3, slot30, T3.get, h3]
theorem solo_commit {k v o x value ver : Nat} {b : Bool} (hv : v ≤ 281474976710655) (ho : o ≤ 255) : (commitT 3 value ver).solo ⟨k, packN v o true b, x⟩ = (⟨0, 0, if b then 1 else 0⟩, ⟨k, packN ver 0 false false, value⟩) := by
  obtain ⟨h1, h2, h3, h4⟩ := meta_n (c := true) (b := b) hv ho
  simp [commitT, Pr.solo, req3, slot30, slot31, T3.get, T3.put, h3, h4]
theorem solo_read {k v o x : Nat} {b : Bool} (hv : v ≤ 281474976710655) (ho : o ≤ 255) : (readT 3).solo ⟨k, packN v o false b, x⟩ = (⟨0, x, v⟩, ⟨k, packN v o false b, x⟩) := by
  obtain ⟨h1, h2, h3, h4⟩ := meta_n (c := false) (b := b) hv ho
  simp [readT, readL, Pr.solo, req3, slot30, slot31, T3.get, h1, h3]
end Go.Proofs.YtenhmficiegpiaaGreatDoor

namespace Go.Proofs.YtenhmficiegpiaaGreatDoor
open Go.RowKit Go.Extern.Stop Go.Stop Go.Extern

theorem info_call : (Tryz.prog.info? 31).map (fun i => (i.zero, i.size, i.bytes)) = some (some (.agg #[.int .i64 0, .int .i64 0, .int .i64 0, .int .i64 0, .int .u64 0]), 5, 40) := by kernel_rfl

theorem calCells_len (l : List Cal) : (calCells l).length = l.length * 5 := by
  induction l with
  | nil => rfl
  | cons t l ih => simp only [calCells, List.flatMap_cons, List.length_append, List.length_cons, calC, List.length_nil] at ih ⊢; omega
theorem calCells_app (l m : List Cal) : calCells (l ++ m) = calCells l ++ calCells m := by simp [calCells]
theorem calCells_one (l : List Cal) : ∀ u ∈ calCells l, u.oneCell' = true := by
  intro u hu
  simp only [calCells, List.mem_flatMap] at hu
  obtain ⟨t, _, hu⟩ := hu
  simp [calC] at hu
  rcases hu with rfl | rfl | rfl | rfl | rfl <;> rfl

def CalRow (w : World) (v : Value) (l : List Cal) : Prop := w.ownsRow 0 31 5 v l.length (calCells l)
theorem CalRow.keeps {w w' : World} {v : Value} {l : List Cal} {S : Nat → Prop} (h : CalRow w v l) (k : Keeps S w w') (hS : ∀ g, v.ownBlock = some g → ¬ S g) : CalRow w' v l := ownsRow_keeps h k hS
theorem CalRow.shape {w : World} {v : Value} {l : List Cal} (h : CalRow w v l) : ∃ o c, v = .slice o l.length c ∧ (0 < l.length → ∃ g, o = some ⟨g, 0, none⟩) := by
  rcases h.2 with ⟨hv, hn⟩ | ⟨g, cap, cur, hv, _⟩
  · exact ⟨_, _, by rw [hn]; exact hv, fun h => by omega⟩
  · exact ⟨_, _, hv, fun _ => ⟨g, rfl⟩⟩
theorem CalRow.crow {w : World} {v : Value} {l : List Cal} (h : CalRow w v l) : CRow w v l := by
  obtain ⟨o, c, rfl, hg⟩ := h.shape
  refine ⟨o, c, rfl, fun hl => ?_⟩
  obtain ⟨g, rfl⟩ := hg hl
  refine ⟨g, rfl, fun i hi x hx => ?_⟩
  have hc : ∀ j, j < 5 → w.cell? ⟨g, i * 5 + j, none⟩ = (calC x)[j]? := fun j hj => (World.ownsRow.cellAt h (i * 5 + j) (by omega)).trans (calCells_at l i x hx j hj)
  exact ⟨hc 0 (by omega), hc 1 (by omega), hc 2 (by omega), hc 3 (by omega), hc 4 (by omega)⟩

/-- A literal's row is one's own. -/
theorem ownsRow_lit {w : World} {g : Nat} {e : TypeId} {cs : List Value} {n size : Nat} (h : Whole w g e cs.toArray) (hl : cs.length = n * size) (hn : n ≤ maxLen) : w.ownsRow 0 e size (.slice (some ⟨g, 0, none⟩) n n) n cs :=
  ⟨hl, .inr ⟨g, n, cs.toArray, rfl, Nat.zero_le _, h, Nat.le_refl _, hn, by simp [hl], by rw [← hl]; simp⟩⟩

theorem lit_cells {w : World} {b : Nat} {ty : TypeId} {cs : List Value} (h : Whole w b ty cs.toArray) : ∀ j u, cs[j]? = some u → w.cell? ((⟨b, 0, none⟩ : Addr).add j) = some u := by
  intro j u hj
  have := h.at_ j
  rw [List.getElem?_toArray, hj] at this
  rw [show (⟨b, 0, none⟩ : Addr).add j = ⟨b, j, none⟩ by unfold Addr.add; split <;> simp_all]
  exact this

theorem wpList_append_cals (w : World) {ops : Array Oper} {rest : List Oper} {o : Oper} {a : Act} {Q : Exit → Act → World → Prop}
    (hg : o.guard = none) (s x : Operand) (hop : o.op = Op.call { callee := Callee.builtin Builtin.append, args := #[s, x], argTypes := #[32, 32] })
    (v : Value) (l news : List Cal) (N : Nat) (hN : l.length + news.length = N) (hs : a.eval s = v) (hown : CalRow w v l) (ad : Addr) (c : Nat) (hx : a.eval x = .slice (some ad) news.length c) (hnews : ∀ j u, (calCells news)[j]? = some u → w.cell? (ad.add j) = some u) (hbig : N ≤ 10000)
    (hK : ∀ ao cap w', CalRow w' (.slice ao N cap) (l ++ news) → w.grownBy w' v.ownBlock → ((Value.slice ao N cap).ownBlock = v.ownBlock ∨ (Value.slice ao N cap).ownBlock = some w.heap.size) → wpList Tryz.prog ops Q rest (a.put o.dst (.slice ao N cap)) w') :
    wpList Tryz.prog ops Q (o :: rest) a w := by
  subst hN
  refine wpList_plain hg fun K hK' => ?_
  obtain ⟨i0, hi, hz0, hz1, hz2⟩ := info_parts info_call
  obtain ⟨v', w', hr, h2, h3, h4, h5⟩ := run_append_own_at (P := Tryz.prog) w 0 32 o.type 31 i0 _ 5 40 Tryz.underlying32 hi hz0 hz1 hz2 rfl (by decide) v l.length (calCells l) hown ad news.length c (calCells news) (calCells_len news) hnews (calCells_one news) (by unfold maxLen; omega) (by omega) (Nat.zero_le _)
  rw [← calCells_app] at h2
  have h2' : CalRow w' v' (l ++ news) := by
    show World.ownsRow _ _ _ _ _ (l ++ news).length _
    rw [List.length_append]
    exact h2
  obtain ⟨ao, cap, hv, _⟩ := CalRow.shape h2'
  rw [List.length_append] at hv
  subst hv
  unfold Oper.wp execOp
  simp only [hop, resolve, invoke, builtin, Sem.run_bind, Sem.run_pure, Result.andThen_ok, List.map_toArray, List.map_cons, List.map_nil, hs, hx, hr]
  exact hK' _ _ (hK ao cap w' h2' h3 h5)

theorem wpList_append_anss (w : World) {ops : Array Oper} {rest : List Oper} {o : Oper} {a : Act} {Q : Exit → Act → World → Prop}
    (hg : o.guard = none) (s x : Operand) (hop : o.op = Op.call { callee := Callee.builtin Builtin.append, args := #[s, x], argTypes := #[36, 36] })
    (v : Value) (l news : List Ans) (N : Nat) (hN : l.length + news.length = N) (hs : a.eval s = v) (hown : ARow w v l) (ad : Addr) (c : Nat) (hx : a.eval x = .slice (some ad) news.length c) (hnews : ∀ j u, (ansCells news)[j]? = some u → w.cell? (ad.add j) = some u) (hbig : N ≤ 10000)
    (hK : ∀ ao cap w', ARow w' (.slice ao N cap) (l ++ news) → w.grownBy w' v.ownBlock → ((Value.slice ao N cap).ownBlock = v.ownBlock ∨ (Value.slice ao N cap).ownBlock = some w.heap.size) → wpList Tryz.prog ops Q rest (a.put o.dst (.slice ao N cap)) w') :
    wpList Tryz.prog ops Q (o :: rest) a w := by
  subst hN
  refine wpList_plain hg fun K hK' => ?_
  obtain ⟨i0, hi, hz0, hz1, hz2⟩ := info_parts info_answer
  obtain ⟨v', w', hr, h2, h3, h4, h5⟩ := run_append_own_at (P := Tryz.prog) w 0 36 o.type 38 i0 _ 3 24 Tryz.underlying36 hi hz0 hz1 hz2 rfl (by decide) v l.length (ansCells l) hown ad news.length c (ansCells news) (ansCells_len news) hnews (ansCells_one news) (by unfold maxLen; omega) (by omega) (Nat.zero_le _)
  rw [← ansCells_app] at h2
  have h2' : ARow w' v' (l ++ news) := by
    show World.ownsRow _ _ _ _ _ (l ++ news).length _
    rw [List.length_append]
    exact h2
  obtain ⟨ao, cap, hv, _⟩ := ARow.shape h2'
  rw [List.length_append] at hv
  subst hv
  unfold Oper.wp execOp
  simp only [hop, resolve, invoke, builtin, Sem.run_bind, Sem.run_pure, Result.andThen_ok, List.map_toArray, List.map_cons, List.map_nil, hs, hx, hr]
  exact hK' _ _ (hK ao cap w' h2' h3 h5)

/-- A row of calls and a row of answers, both made since w0. -/
structure TwoR (w0 w : World) (v u : Value) (lc : List Cal) (la : List Ans) : Prop where
  c : CalRow w v lc
  a : ARow w u la
  cf : ∀ g, v.ownBlock = some g → w0.heap.size ≤ g
  af : ∀ g, u.ownBlock = some g → w0.heap.size ≤ g
  k : Keeps (fun _ => False) w0 w

theorem TwoR.ne {w0 w : World} {v u : Value} {lc : List Cal} {la : List Ans} (h : TwoR w0 w v u lc la) {g : Nat} (hg : v.ownBlock = some g) : u.ownBlock ≠ some g := fun hu => by
  obtain ⟨c1, h1⟩ := own_cells6 h.c hg
  obtain ⟨c2, h2⟩ := own_cells6 h.a hu
  exact absurd (show 31 = 38 by
    unfold Whole at h1 h2
    rw [h1] at h2
    injection h2 with h2
    injection h2) (by decide)

/-- The row of answers, while calls are appended. -/
theorem TwoR.mid {w0 w V : World} {v u : Value} {lc : List Cal} {la : List Ans} {o1 o2 : Obj} (h : TwoR w0 w v u lc la) (hG : (w.alloc o1).grownBy V v.ownBlock) : ARow (V.alloc o2) u la :=
  (((h.a.keeps ((Keeps.refl (fun _ => False) w).alloc o1) fun _ _ => id).keeps (keeps_row hG) fun _ hg hs => h.ne hs hg).keeps ((Keeps.refl (fun _ => False) V).alloc o2) fun _ _ => id)

theorem TwoR.next {w0 w V V' : World} {v u v' u' : Value} {lc lc' : List Cal} {la la' : List Ans} {o1 o2 : Obj} (h : TwoR w0 w v u lc la) (hG : (w.alloc o1).grownBy V v.ownBlock) (hc : CalRow V v' lc') (hl : v'.ownBlock = v.ownBlock ∨ v'.ownBlock = some (w.alloc o1).heap.size)
    (hG2 : (V.alloc o2).grownBy V' u.ownBlock) (ha : ARow V' u' la') (hl2 : u'.ownBlock = u.ownBlock ∨ u'.ownBlock = some (V.alloc o2).heap.size) : TwoR w0 V' v' u' lc' la' := by
  have k0 := h.k.size
  have k1 : Keeps (fun _ => False) w (w.alloc o1) := (Keeps.refl _ w).alloc _
  have k2 := keeps_row hG
  have k3 : Keeps (fun _ => False) V (V.alloc o2) := (Keeps.refl _ V).alloc _
  have k4 := keeps_row hG2
  have s1 := k1.size
  have s2 := k2.size
  have s3 := k3.size
  refine ⟨(hc.keeps k3 fun _ _ => id).keeps k4 fun g hg hs => ?_, ha, fun g hg => ?_, fun g hg => ?_, ?_⟩
  · rcases hl with e | e
    · exact h.ne (e ▸ hg) hs
    · rw [e] at hg
      injection hg with hg
      have := (h.a.lt hs)
      omega
  · rcases hl with e | e
    · exact h.cf g (e ▸ hg)
    · rw [e] at hg; injection hg with hg; omega
  · rcases hl2 with e | e
    · exact h.af g (e ▸ hg)
    · rw [e] at hg; injection hg with hg; omega
  · exact (((h.k.trans_ k1).trans k2 fun x hx hs => by have := h.cf x hs; omega).trans_ k3).trans k4 fun x hx hs => by have := h.af x hs; omega
end Go.Proofs.YtenhmficiegpiaaGreatDoor

namespace Go.Proofs.YtenhmficiegpiaaGreatDoor
open Go.RowKit Go.Extern.Stop Go.Stop Go.Extern

theorem info_rowC : (Tryz.prog.info? 32).map (fun i => (i.zero, i.size, i.bytes)) = some (some (.slice none 0 0), 1, 24) := by kernel_rfl

/-- Slices that literals laid since w0, of the lists ls. -/
def Lits (w0 w : World) (xs : List Value) (ls : List (List Cal)) : Prop :=
  xs.length = ls.length ∧ ∀ j, j < ls.length → ∃ g c, xs[j]? = some (.slice (some ⟨g, 0, none⟩) (ls.getD j []).length c) ∧ Whole w g 31 (calCells (ls.getD j [])).toArray ∧ w0.heap.size ≤ g

structure LR (w0 w : World) (v : Value) (ls : List (List Cal)) (xs : List Value) : Prop where
  row : w.ownsRow 0 32 1 v ls.length xs
  lits : Lits w0 w xs ls
  far : ∀ g, v.ownBlock = some g → w0.heap.size ≤ g
  k : Keeps (fun _ => False) w0 w

theorem LR.nil (w0 : World) : LR w0 w0 (.slice none 0 0) [] [] := ⟨World.ownsRow_nil _ _ _ _, ⟨rfl, fun j hj => absurd hj (Nat.not_lt_zero _)⟩, fun g hg => (by cases hg), Keeps.refl _ _⟩

/-- Another list. -/
theorem LR.next {w0 w V : World} {v : Value} {ls : List (List Cal)} {xs : List Value} {l : List Cal} {o2 : Obj} {g' cap n c : Nat} (h : LR w0 w v ls xs) (hn : ls.length = n)
    (hO : V.ownsRow 0 32 1 (.slice (some ⟨g', 0, none⟩) (n + 1) cap) (n + 1) (xs ++ [.slice (some ⟨w.heap.size, 0, none⟩) l.length c]))
    (hG : ((w.alloc (.cells (calCells l).toArray 31)).alloc o2).grownBy V v.ownBlock) (hl : v.ownBlock = some g' ∨ g' = ((w.alloc (.cells (calCells l).toArray 31)).alloc o2).heap.size) :
    LR w0 V (.slice (some ⟨g', 0, none⟩) (n + 1) cap) (ls ++ [l]) (xs ++ [.slice (some ⟨w.heap.size, 0, none⟩) l.length c]) := by
  subst hn
  have k1 : Keeps (fun _ => False) w (w.alloc (.cells (calCells l).toArray 31)) := (Keeps.refl _ w).alloc _
  have k2 : Keeps (fun _ => False) (w.alloc (.cells (calCells l).toArray 31)) ((w.alloc (.cells (calCells l).toArray 31)).alloc o2) := (Keeps.refl _ _).alloc _
  have k3 := keeps_row hG
  have m1 := (Whole.made w 31 (calCells l).toArray).keeps k2 id
  have s0 := h.k.size
  have s1 := k1.size
  have s2 := k2.size
  have nown : ∀ g cs, Whole w g 31 cs → v.ownBlock ≠ some g := fun g cs hw he => by
    obtain ⟨c2, h2⟩ := own_cells6 h.row he
    unfold Whole at hw h2
    rw [hw] at h2
    injection h2 with h2
    injection h2 with _ h2
    exact absurd h2 (by decide)
  have nnew : v.ownBlock ≠ some w.heap.size := fun he => Nat.lt_irrefl _ (World.ownsRow.lt h.row _ he).2
  obtain ⟨hxl, hlit⟩ := h.lits
  refine ⟨by rw [List.length_append]; exact hO, ⟨by simp [hxl], fun j hj => ?_⟩, fun g hg => ?_, (((h.k.trans_ k1).trans_ k2).trans k3 fun x hx he => by have := h.far x he; omega)⟩
  · rw [List.length_append, List.length_singleton] at hj
    by_cases e : j = ls.length
    · subst e
      have e1 : (ls ++ [l]).getD ls.length [] = l := by simp
      rw [e1]
      refine ⟨w.heap.size, c, ?_, m1.keeps k3 nnew, s0⟩
      rw [List.getElem?_append_right (by omega), hxl, Nat.sub_self]; rfl
    · have hj' : j < ls.length := by omega
      have e1 : (ls ++ [l]).getD j [] = ls.getD j [] := by simp [List.getD, List.getElem?_append_left hj']
      rw [e1]
      obtain ⟨g, cc, h1, h2, h3⟩ := hlit j hj'
      exact ⟨g, cc, by rw [List.getElem?_append_left (by omega)]; exact h1, ((h2.keeps k1 id).keeps k2 id).keeps k3 (nown g _ h2), h3⟩
  · have : g' = g := by simpa [Value.ownBlock] using hg
    subst this
    rcases hl with hl | hl
    · exact h.far _ hl
    · omega

/-- .. as run reads them. -/
theorem LR.rows {w0 w : World} {lg c : Nat} {ls : List (List Cal)} {xs : List Value} {n : Nat} (h : LR w0 w (.slice (some ⟨lg, 0, none⟩) n c) ls xs) {X : Nat → Prop} (hX : ∀ x, X x → x < w0.heap.size) : LRow w X lg ls := by
  intro i hi
  obtain ⟨hxl, hlit⟩ := h.lits
  obtain ⟨g, cc, h1, h2, h3⟩ := hlit i hi
  have hn : n = ls.length := by
    rcases h.row.2 with ⟨hv, _⟩ | ⟨_, _, _, hv, _⟩
    · cases hv
    · injection hv
  subst hn
  refine ⟨_, ((h.row.cellAt i (by omega)).trans h1), CRow.made h2 cc, fun g' hg' => ?_⟩
  have : g = g' := by simpa [Value.ownBlock] using hg'
  subst this
  exact ⟨fun hx => by have := hX _ hx; omega, h2.lt⟩
theorem LR.head {w0 w : World} {v : Value} {ls : List (List Cal)} {xs : List Value} (h : LR w0 w v ls xs) : ∃ o c, v = .slice o ls.length c ∧ (0 < ls.length → ∃ g, o = some ⟨g, 0, none⟩) := by
  rcases h.row.2 with ⟨hv, hn⟩ | ⟨g, cap, cur, hv, _⟩
  · exact ⟨_, _, by rw [hn]; exact hv, fun h => by omega⟩
  · exact ⟨_, _, hv, fun _ => ⟨g, rfl⟩⟩

/-- A literal of one list. -/
theorem lrow_lit {w : World} {X : Nat → Prop} {g g0 : Nat} {t0 : TypeId} {l : List Cal} {c : Nat} (h : Whole w g 31 (calCells l).toArray) (h0 : Whole w g0 t0 #[.slice (some ⟨g, 0, none⟩) l.length c]) (hX : ¬ X g) : LRow w X g0 [l] := by
  intro i hi
  have hi : i < 1 := hi
  obtain rfl : i = 0 := by omega
  refine ⟨_, h0.at_ 0, CRow.made h c, fun g' hg' => ?_⟩
  have : g = g' := by simpa [Value.ownBlock] using hg'
  subst this
  exact ⟨hX, h.lt⟩
end Go.Proofs.YtenhmficiegpiaaGreatDoor
