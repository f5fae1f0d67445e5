/-
  prog.next by contract: the first statement of what is left.
-/
import Derived.Test.YthidipigpfcbbaaGreatDoorPvMem
import Derived.Test.YthidipigpfcbbaaGreatDoorPgRef2
namespace Go.Proofs.YthidipigpfcbbaaGreatDoor
open Go.RowKit Go.Extern.Stop Go.Stop Go.Extern

/-- The rest of a slice, behind its first statement. -/
theorem sl_rest {w : World} {b o m c : Nat} {s : St7} {B E R : Fo} (h : SlOf w (.slice (some ⟨b, o, none⟩) m c) (.cons s B E R)) : SlOf w (.slice (if c = 1 then some ⟨b, o, none⟩ else some ⟨b, o + 9, none⟩) (m - 1) (c - 1)) R := by
  obtain ⟨a', c', e, h2, _, h4⟩ := h
  injection e with e1 e2 e3
  subst e3
  have hl : (Fo.cons s B E R).len = R.len + 1 := rfl
  obtain ⟨b', o', e, hr⟩ := h4 (by omega)
  rw [← e1] at e
  injection e with e
  injection e with eb eo
  subst eb
  subst eo
  have hm : m = R.len + 1 := by omega
  subst hm
  refine ⟨_, _, rfl, ⟨by omega, by omega⟩, (fun e => by split at e <;> cases e), fun h0 => ⟨b, o + 9, ?_, hr.2.2.2⟩⟩
  rw [if_neg (by omega)]

theorem made_two (w : World) (o : Obj) (t : TypeId) (cs : Array Value) : Whole ((w.alloc o).alloc (.cells cs t)) (w.heap.size + 1) t cs := by
  have := Whole.made (w.alloc o) t cs
  rwa [World.size_alloc] at this

/-- The cells of the last part of a row. -/
theorem pt_cells {w : World} {g n c m : Nat} {l : List PtV} {x : PtV} (h : partK.Row w (.slice (some ⟨g, 0, none⟩) n c) (l ++ [x])) (hm : l.length = m) :
    w.cell? ⟨g, m * 2, none⟩ = some (slv x.1) ∧ w.cell? ⟨g, m * 2 + 1, none⟩ = some (.int .i64 x.2) ∧ w.frozen? ⟨g, m * 2, none⟩ = false := by
  subst hm
  have hl : (l ++ [x]).length = l.length + 1 := by simp
  have hn : n = l.length + 1 := by
    obtain ⟨o, c', e, _⟩ := row_shape h
    injection e with _ e
    rw [e, hl]
  subst hn
  have h' : w.ownsRow 0 partK.e partK.size (.slice (some ⟨g, 0, none⟩) (l.length + 1) c) (l.length + 1) (partK.cs (l ++ [x])) := by
    have := h
    unfold RK.Row at this
    rw [hl] at this
    exact this
  have get : ∀ j, j < 2 → w.cell? ⟨g, l.length * 2 + j, none⟩ = (ptCells x)[j]? := fun j hj => by
    rw [World.ownsRow.cellAt h' (l.length * 2 + j) (by show _ < (l.length + 1) * 2; omega)]
    exact flat_get ptCells 2 (fun _ => rfl) (l ++ [x]) l.length j x (by simp) hj
  exact ⟨get 0 (by omega), get 1 (by omega), World.ownsRow.frozenAt h' _⟩

theorem nine_set {W : World} {p : Nat} {t : TypeId} {z0 z1 z2 z3 z4 z5 z6 z7 z8 : Value} (h : Whole W p t #[z0, z1, z2, z3, z4, z5, z6, z7, z8]) (a0 a1 a2 a3 a4 a5 a6 a7 a8 : Value) :
    Whole (((((((((W.setCell ⟨p, 0, none⟩ a0).setCell ⟨p, 1, none⟩ a1).setCell ⟨p, 2, none⟩ a2).setCell ⟨p, 3, none⟩ a3).setCell ⟨p, 4, none⟩ a4).setCell ⟨p, 5, none⟩ a5).setCell ⟨p, 6, none⟩ a6).setCell ⟨p, 7, none⟩ a7).setCell ⟨p, 8, none⟩ a8).drew p t #[a0, a1, a2, a3, a4, a5, a6, a7, a8] ∧ Keeps (fun x => x = p) W (((((((((W.setCell ⟨p, 0, none⟩ a0).setCell ⟨p, 1, none⟩ a1).setCell ⟨p, 2, none⟩ a2).setCell ⟨p, 3, none⟩ a3).setCell ⟨p, 4, none⟩ a4).setCell ⟨p, 5, none⟩ a5).setCell ⟨p, 6, none⟩ a6).setCell ⟨p, 7, none⟩ a7).setCell ⟨p, 8, none⟩ a8).drew := by
  refine ⟨?_, ?_⟩
  · have := (((((((((h.set_ 0 a0).set_ 1 a1).set_ 2 a2).set_ 3 a3).set_ 4 a4).set_ 5 a5).set_ 6 a6).set_ 7 a7).set_ 8 a8).drew
    simpa using this
  · exact ((((((((((Keeps.refl (fun x => x = p) W).setCell (p := ⟨p, 0, none⟩) (fun _ => rfl) a0).setCell (p := ⟨p, 1, none⟩) (fun _ => rfl) a1).setCell (p := ⟨p, 2, none⟩) (fun _ => rfl) a2).setCell (p := ⟨p, 3, none⟩) (fun _ => rfl) a3).setCell (p := ⟨p, 4, none⟩) (fun _ => rfl) a4).setCell (p := ⟨p, 5, none⟩) (fun _ => rfl) a5).setCell (p := ⟨p, 6, none⟩) (fun _ => rfl) a6).setCell (p := ⟨p, 7, none⟩) (fun _ => rfl) a7).setCell (p := ⟨p, 8, none⟩) (fun _ => rfl) a8).drew

set_option maxRecDepth 100000 in
set_option maxHeartbeats 1000000 in
theorem next_any {w0 w : World} {wb : Nat} {lk : Value} {us : List PtV} {st : St7} {B E R : Fo} {d : Nat} {t : Lf} {lo : Option Addr} {n c : Nat} (h : Wk w0 w wb lk us ((.cons st B E R, d) :: t) lo n c) (few : n ≤ 50000) (hk : Keeps (fun x => w0.heap.size ≤ x) w0 w) (hy : ∀ x, Ys wb lo x → w0.heap.size ≤ x) :
    Calls Tryz.prog 68 #[.pointer (some ⟨wb, 0, none⟩)] w fun e w' => ∃ b e', e = .returned (.tuple #[.agg (stAgg st b e'), .int .i64 (d : Nat)]) ∧ SlOf w0 (slv b) B ∧ SlOf w0 (slv e') E ∧ (∃ us' n', Wk w0 w' wb lk us' (pushL R d t) lo n' c ∧ n' ≤ n) ∧ Keeps (Ys wb lo) w w' := by
  have H := Lib.hid h
  obtain ⟨hbox, hrow, hlen, hst, hfull⟩ := h
  obtain ⟨x, us, rfl⟩ : ∃ x us', us = x :: us' := by
    cases us with
    | nil => exact hst.elim
    | cons x us => exact ⟨x, us, rfl⟩
  obtain ⟨⟨xo, xn, xc⟩, xd⟩ := x
  obtain ⟨⟨hS, hd⟩, hst⟩ := hst
  simp only at hS hd
  subst hd
  obtain ⟨m, hm⟩ : ∃ m, us.length = m := ⟨_, rfl⟩
  have hn : n = m + 1 := by rw [← hlen, ← hm]; rfl
  obtain ⟨g, rfl⟩ : ∃ g, lo = some ⟨g, 0, none⟩ := by
    obtain ⟨o, c', e, ho⟩ := row_shape hrow
    injection e with e1 e2
    obtain ⟨g, hg⟩ := ho (by omega)
    exact ⟨g, e1.trans hg⟩
  have hmc : n ≤ c ∧ c ≤ maxLen := by
    rcases hrow.2 with ⟨e, _⟩ | ⟨g', cap, cur, e, _, _, hnc, hcm, _⟩
    · injection e with e
      cases e
    · injection e with _ e2 e3
      subst e3
      rw [← e2] at hnc
      exact ⟨hnc, hcm⟩
  rw [List.reverse_cons] at hrow
  obtain ⟨r0, r1, -⟩ := pt_cells hrow (m := m) (by rw [List.length_reverse]; exact hm)
  have low : ∀ x, x < w0.heap.size → ¬ w0.heap.size ≤ x := fun x hx hc => Nat.not_lt.2 hc hx
  obtain ⟨b, o, hit⟩ : ∃ b o, xo = some ⟨b, o, none⟩ ∧ At w0 (.cons st B E R) b o := by
    obtain ⟨a', c', e, _, _, h4⟩ := hS
    injection e with e1
    obtain ⟨b, o, e, hr⟩ := h4 (by show 0 < R.len + 1; omega)
    exact ⟨b, o, e1.trans e, hr⟩
  obtain ⟨rfl, hat⟩ := hit
  have hxc : xn = R.len + 1 ∧ xn ≤ xc ∧ xc ≤ maxLen := by
    obtain ⟨a', c', e, h2, _⟩ := hS
    injection e with e1 e2 e3
    subst e3
    rw [show (Fo.cons st B E R).len = R.len + 1 from rfl] at e2
    subst e2
    exact ⟨rfl, h2.1, h2.2⟩
  obtain ⟨p, hp⟩ : ∃ p, R.len = p := ⟨_, rfl⟩
  obtain ⟨h7', ⟨vB, cB', oB⟩, ⟨vE, cE', oE⟩, _⟩ := hat
  have hB : SlOf w0 vB B := oB
  have hE : SlOf w0 vE E := oE
  have FA0 : ∀ V, Keeps (fun x => w0.heap.size ≤ x) w0 V → Cells7 V st b o ∧ V.cell? ⟨b, o + 7, none⟩ = some vB ∧ V.cell? ⟨b, o + 8, none⟩ = some vE := fun V k => ⟨h7'.keeps k low, (k.cell (cell_lt cB') (low _ (cell_lt cB'))).trans cB', (k.cell (cell_lt cE') (low _ (cell_lt cE'))).trans cE'⟩
  clear cB' cE' h7' oB oE
  obtain ⟨⟨b1, b2, b3⟩, rfl, -⟩ := hB.plain
  obtain ⟨⟨e1, e2, e3⟩, rfl, -⟩ := hE.plain
  obtain ⟨k, cc, r', ar, an, br, bn⟩ := st
  unfold slv at r0 FA0
  simp only at r0 r1
  have FA : Hid (∀ V, Keeps (fun x => w0.heap.size ≤ x) w0 V → V.cell? ⟨b, o, none⟩ = some (.int .i64 k) ∧ V.cell? ⟨b, o + 1, none⟩ = some (.int .i64 cc) ∧ V.cell? ⟨b, o + 2, none⟩ = some (.int .i64 r') ∧ V.cell? ⟨b, o + 3, none⟩ = some (.int .i64 ar) ∧ V.cell? ⟨b, o + 4, none⟩ = some (.int .i64 an) ∧ V.cell? ⟨b, o + 5, none⟩ = some (.int .i64 br) ∧ V.cell? ⟨b, o + 6, none⟩ = some (.int .i64 bn) ∧ V.cell? ⟨b, o + 7, none⟩ = some (.slice b1 b2 b3) ∧ V.cell? ⟨b, o + 8, none⟩ = some (.slice e1 e2 e3)) := Lib.hid fun V kV => by
    obtain ⟨q, q7, q8⟩ := FA0 V kV
    exact ⟨q.k, q.c, q.r, q.ar, q.an, q.br, q.bn, q7, q8⟩
  have c0 : w.cell? ⟨wb, 1, none⟩ = some (.slice (some ⟨g, 0, none⟩) n c) := hbox.at_ 1
  have wm : IntKind.i64.wrap ((n : Int) - 1) = (m : Int) := by rw [hn, show ((m + 1 : Nat) : Int) - 1 = (m : Int) by omega]; exact IntWalk.i64_in _ (by omega)
  have lmn : (m : Int) < (n : Int) := by omega
  have ls := hbox.lt
  have lg := cell_lt r0
  simp only at lg
  have HK := Lib.hid hk
  have hy1 := hy wb (.inl rfl)
  have hy2 := hy g (.inr ⟨_, rfl, rfl⟩)
  have HR := Lib.hid hrow
  have HX := Lib.hid hxc
  have HB := Lib.hid hB
  have HE := Lib.hid hE
  have HM := Lib.hid hmc
  have HN := Lib.hid hn
  have HP := Lib.hid hp
  have HS := Lib.hid hS
  have HT := Lib.hid hst
  have HBX := Lib.hid hbox
  clear hrow hxc hB hE hmc hn hp hS hst hbox hk hfull hlen hy FA0 low
  unfold stAgg slv
  go_enter Tryz.func68, Tryz.ntmps68
  go_upto_region 3 with fail
  obtain ⟨W2, hW2⟩ : ∃ W, W = ((w.alloc (.cells #[.int .i64 0, .int .i64 0, .int .i64 0, .int .i64 0, .int .i64 0, .int .i64 0, .int .i64 0, .slice none 0 0, .slice none 0 0] 40)).alloc (.cells #[.slice (some ⟨b, o, none⟩) xn xc, .int .i64 (d : Int)] 172)) := ⟨_, rfl⟩
  have K2 : Keeps (fun _ => False) w W2 := by rw [hW2]; exact ((Keeps.refl _ w).alloc _).alloc _
  have Z2 : Whole W2 w.heap.size 40 #[.int .i64 0, .int .i64 0, .int .i64 0, .int .i64 0, .int .i64 0, .int .i64 0, .int .i64 0, .slice none 0 0, .slice none 0 0] := by rw [hW2]; exact (Whole.made w _ _).alloc _
  have X2 : Whole W2 (w.heap.size + 1) 172 #[.slice (some ⟨b, o, none⟩) xn xc, .int .i64 (d : Int)] := by rw [hW2]; exact made_two w _ _ _
  have sz2 : W2.heap.size = w.heap.size + 1 + 1 := by rw [hW2, World.size_alloc, World.size_alloc]
  rw [← hW2]
  have g0 : W2.cell? ⟨wb, 1, none⟩ = some (.slice (some ⟨g, 0, none⟩) n c) := (K2.cell (cell_lt c0) id).trans c0
  have g1 : W2.cell? ⟨w.heap.size + 1, 0, none⟩ = some (.slice (some ⟨b, o, none⟩) xn xc) := X2.at_ 0
  have R2 := ownsRow_keeps HR.out K2 fun _ _ => id
  have g2 : W2.frozen? ⟨g, m * 2, none⟩ = false := (pt_cells (m := m) R2 (by rw [List.length_reverse]; exact hm)).2.2
  have g3 : W2.cell? ⟨g, m * 2, none⟩ = some (.slice (some ⟨b, o, none⟩) xn xc) := (K2.cell (cell_lt r0) id).trans r0
  have x1 : (1 : Int) ≤ (xn : Int) := by have := HX.out.1; omega
  have x2 : (xn : Int) ≤ (xc : Int) := by have := HX.out.2; omega
  have hW2' := Lib.hid hW2
  clear hW2 c0 r0 r1
  go_region
  have SR := sl_rest HS.out
  generalize (if xc = 1 then some (⟨b, o, none⟩ : Addr) else some ⟨b, o + 9, none⟩) = ro at *
  obtain ⟨W3, hW3⟩ : ∃ W, W = (W2.setCell ⟨g, m * 2, none⟩ (.slice ro (xn - 1) (xc - 1))).drew := ⟨_, rfl⟩
  have K3 : Keeps (fun x => x = g) W2 W3 := by rw [hW3]; exact ((Keeps.refl (fun x => x = g) W2).setCell (p := ⟨g, m * 2, none⟩) (fun _ => rfl) _).drew
  have R3 : partK.Row W3 (.slice (some ⟨g, 0, none⟩) n c) (us.reverse ++ [((ro, xn - 1, xc - 1), (d : Int))]) := by
    rw [hW3]; exact pt_set (b := (ro, xn - 1, xc - 1)) R2 (by rw [List.length_reverse]; exact hm) HN.out
  have B3 := (HBX.out.keeps K2 id).keeps K3 fun e => row_ne HR.out HBX.out (by decide) (by rw [e]; rfl)
  have Z3 := Z2.keeps K3 fun e => by omega
  have X3 := X2.keeps K3 fun e => by omega
  have K4 : Keeps (fun x => x = g) w W3 := (K2.mono fun _ _ => False.elim : Keeps (fun x => x = g) w W2).trans K3 fun _ _ => id
  have D3 : Keeps (fun x => w0.heap.size ≤ x) w0 W3 := HK.out.trans K4 fun x hx e => by rw [e]; exact hy2
  obtain ⟨f0, f1, f2, f3, f4, f5, f6, f7, f8⟩ := FA.out _ D3
  have u0 : W3.cell? ⟨wb, 1, none⟩ = some (.slice (some ⟨g, 0, none⟩) n c) := B3.at_ 1
  have u1 : W3.cell? ⟨w.heap.size + 1, 0, none⟩ = some (.slice (some ⟨b, o, none⟩) xn xc) := X3.at_ 0
  have u2 : W3.cell? ⟨w.heap.size + 1, 1, none⟩ = some (.int .i64 (d : Int)) := X3.at_ 1
  have u3 : W3.frozen? ⟨wb, 1, none⟩ = false := B3.free 1
  rw [← hW3]
  replace B3 := Lib.hid B3
  replace Z3 := Lib.hid Z3
  replace R3 := Lib.hid R3
  replace D3 := Lib.hid D3
  replace K4 := Lib.hid K4
  replace SR := Lib.hid SR
  replace hW3 := Lib.hid hW3
  clear K2 Z2 X2 g0 g1 R2 g2 g3 K3 X3
  have zc0 : W3.cell? ⟨w.heap.size, 0, none⟩ = some (.int .i64 0) := Z3.out.at_ 0
  have zf0 : W3.frozen? ⟨w.heap.size, 0, none⟩ = false := Z3.out.free 0
  have zc1 : W3.cell? ⟨w.heap.size, 1, none⟩ = some (.int .i64 0) := Z3.out.at_ 1
  have zf1 : W3.frozen? ⟨w.heap.size, 1, none⟩ = false := Z3.out.free 1
  have zc2 : W3.cell? ⟨w.heap.size, 2, none⟩ = some (.int .i64 0) := Z3.out.at_ 2
  have zf2 : W3.frozen? ⟨w.heap.size, 2, none⟩ = false := Z3.out.free 2
  have zc3 : W3.cell? ⟨w.heap.size, 3, none⟩ = some (.int .i64 0) := Z3.out.at_ 3
  have zf3 : W3.frozen? ⟨w.heap.size, 3, none⟩ = false := Z3.out.free 3
  have zc4 : W3.cell? ⟨w.heap.size, 4, none⟩ = some (.int .i64 0) := Z3.out.at_ 4
  have zf4 : W3.frozen? ⟨w.heap.size, 4, none⟩ = false := Z3.out.free 4
  have zc5 : W3.cell? ⟨w.heap.size, 5, none⟩ = some (.int .i64 0) := Z3.out.at_ 5
  have zf5 : W3.frozen? ⟨w.heap.size, 5, none⟩ = false := Z3.out.free 5
  have zc6 : W3.cell? ⟨w.heap.size, 6, none⟩ = some (.int .i64 0) := Z3.out.at_ 6
  have zf6 : W3.frozen? ⟨w.heap.size, 6, none⟩ = false := Z3.out.free 6
  have zc7 : W3.cell? ⟨w.heap.size, 7, none⟩ = some (.slice none 0 0) := Z3.out.at_ 7
  have zf7 : W3.frozen? ⟨w.heap.size, 7, none⟩ = false := Z3.out.free 7
  have zc8 : W3.cell? ⟨w.heap.size, 8, none⟩ = some (.slice none 0 0) := Z3.out.at_ 8
  have zf8 : W3.frozen? ⟨w.heap.size, 8, none⟩ = false := Z3.out.free 8
  have x0 : (0 : Int) < (xn : Int) := by omega
  have x00 : 0 < xn := by omega
  have ngw : ¬ g = wb := fun e => row_ne HR.out HBX.out (by decide) (by rw [← e]; rfl)
  by_cases h1 : xn = 1
  · have y1 : ((xn : Int) == 1) = true := by simp [h1]
    have y2 : (m : Int) ≤ (c : Int) := by have := HM.out.1; omega
    go_wp2_with fail
    obtain ⟨W5, hW5⟩ : ∃ V, V = W3.setCell ⟨wb, 1, none⟩ (.slice (some ⟨g, 0, none⟩) m c) := ⟨_, rfl⟩
    have K5 : Keeps (fun x => x = wb) W3 W5 := by rw [hW5]; exact (Keeps.refl (fun x => x = wb) W3).setCell (p := ⟨wb, 1, none⟩) (fun _ => rfl) _
    have B5 : Whole W5 wb 133 #[lk, .slice (some ⟨g, 0, none⟩) m c] := by rw [hW5]; exact B3.out.set_ 1 _
    have R5 : partK.Row W5 (.slice (some ⟨g, 0, none⟩) m c) us.reverse := ownsRow_keeps (partK.cut R3.out (by rw [List.length_reverse]; exact hm)) K5 fun x hx e => by
      simp [Value.ownBlock] at hx
      exact ngw (hx.trans e)
    have Z5 := Z3.out.keeps K5 (by omega)
    obtain ⟨f0', f1', f2', f3', f4', f5', f6', f7', f8'⟩ := FA.out _ (D3.out.trans K5 fun x hx e => by rw [e]; exact hy1)
    have u1' : W5.cell? ⟨w.heap.size + 1, 0, none⟩ = some (.slice (some ⟨b, o, none⟩) xn xc) := (K5.cell (cell_lt u1) (by simp only; omega)).trans u1
    have u2' : W5.cell? ⟨w.heap.size + 1, 1, none⟩ = some (.int .i64 (d : Int)) := (K5.cell (cell_lt u2) (by simp only; omega)).trans u2
    have yc0 : W5.cell? ⟨w.heap.size, 0, none⟩ = some (.int .i64 0) := Z5.at_ 0
    have yf0 : W5.frozen? ⟨w.heap.size, 0, none⟩ = false := Z5.free 0
    have yc1 : W5.cell? ⟨w.heap.size, 1, none⟩ = some (.int .i64 0) := Z5.at_ 1
    have yf1 : W5.frozen? ⟨w.heap.size, 1, none⟩ = false := Z5.free 1
    have yc2 : W5.cell? ⟨w.heap.size, 2, none⟩ = some (.int .i64 0) := Z5.at_ 2
    have yf2 : W5.frozen? ⟨w.heap.size, 2, none⟩ = false := Z5.free 2
    have yc3 : W5.cell? ⟨w.heap.size, 3, none⟩ = some (.int .i64 0) := Z5.at_ 3
    have yf3 : W5.frozen? ⟨w.heap.size, 3, none⟩ = false := Z5.free 3
    have yc4 : W5.cell? ⟨w.heap.size, 4, none⟩ = some (.int .i64 0) := Z5.at_ 4
    have yf4 : W5.frozen? ⟨w.heap.size, 4, none⟩ = false := Z5.free 4
    have yc5 : W5.cell? ⟨w.heap.size, 5, none⟩ = some (.int .i64 0) := Z5.at_ 5
    have yf5 : W5.frozen? ⟨w.heap.size, 5, none⟩ = false := Z5.free 5
    have yc6 : W5.cell? ⟨w.heap.size, 6, none⟩ = some (.int .i64 0) := Z5.at_ 6
    have yf6 : W5.frozen? ⟨w.heap.size, 6, none⟩ = false := Z5.free 6
    have yc7 : W5.cell? ⟨w.heap.size, 7, none⟩ = some (.slice none 0 0) := Z5.at_ 7
    have yf7 : W5.frozen? ⟨w.heap.size, 7, none⟩ = false := Z5.free 7
    have yc8 : W5.cell? ⟨w.heap.size, 8, none⟩ = some (.slice none 0 0) := Z5.at_ 8
    have yf8 : W5.frozen? ⟨w.heap.size, 8, none⟩ = false := Z5.free 8
    rw [← hW5]
    clear hW5
    go_region
    go_wp2_with fail
    obtain ⟨nw, nk⟩ := nine_set Z5 (.int .i64 k) (.int .i64 cc) (.int .i64 r') (.int .i64 ar) (.int .i64 an) (.int .i64 br) (.int .i64 bn) (.slice b1 b2 b3) (.slice e1 e2 e3)
    generalize hV : (((((((((W5.setCell ⟨w.heap.size, 0, none⟩ (.int .i64 k)).setCell ⟨w.heap.size, 1, none⟩ (.int .i64 cc)).setCell ⟨w.heap.size, 2, none⟩ (.int .i64 r')).setCell ⟨w.heap.size, 3, none⟩ (.int .i64 ar)).setCell ⟨w.heap.size, 4, none⟩ (.int .i64 an)).setCell ⟨w.heap.size, 5, none⟩ (.int .i64 br)).setCell ⟨w.heap.size, 6, none⟩ (.int .i64 bn)).setCell ⟨w.heap.size, 7, none⟩ (.slice b1 b2 b3)).setCell ⟨w.heap.size, 8, none⟩ (.slice e1 e2 e3)).drew = V at nw nk ⊢
    have n0 : V.cell? ⟨w.heap.size, 0, none⟩ = some (.int .i64 k) := nw.at_ 0
    have n1 : V.cell? ⟨w.heap.size, 1, none⟩ = some (.int .i64 cc) := nw.at_ 1
    have n2 : V.cell? ⟨w.heap.size, 2, none⟩ = some (.int .i64 r') := nw.at_ 2
    have n3 : V.cell? ⟨w.heap.size, 3, none⟩ = some (.int .i64 ar) := nw.at_ 3
    have n4 : V.cell? ⟨w.heap.size, 4, none⟩ = some (.int .i64 an) := nw.at_ 4
    have n5 : V.cell? ⟨w.heap.size, 5, none⟩ = some (.int .i64 br) := nw.at_ 5
    have n6 : V.cell? ⟨w.heap.size, 6, none⟩ = some (.int .i64 bn) := nw.at_ 6
    have n7 : V.cell? ⟨w.heap.size, 7, none⟩ = some (.slice b1 b2 b3) := nw.at_ 7
    have n8 : V.cell? ⟨w.heap.size, 8, none⟩ = some (.slice e1 e2 e3) := nw.at_ 8
    refine bodyPost_ret (v := .tuple #[.agg #[.int .i64 k, .int .i64 cc, .int .i64 r', .int .i64 ar, .int .i64 an, .int .i64 br, .int .i64 bn, .slice b1 b2 b3, .slice e1 e2 e3], .int .i64 (d : Int)]) (by simp [results, Tryz.results68, go_sem, n0, n1, n2, n3, n4, n5, n6, n7, n8]) rfl ?_
    have hR0 : R = .nil := by
      have := HX.out.1
      exact fo_rest.1 (by omega)
    have nY : Keeps (fun x => x = w.heap.size) W5 V := nk
    refine ⟨(b1, b2, b3), (e1, e2, e3), rfl, HB.out, HE.out, ⟨us, m, ⟨?_, ?_, hm, ?_, ?_⟩, by have := HN.out; omega⟩, ?_⟩
    · exact B5.keeps nk (by omega)
    · exact ownsRow_keeps R5 nk fun x hx e => by simp [Value.ownBlock] at hx; omega
    · rw [hR0]; exact HT.out
    · rw [hR0]; exact H.out.full.tail
    · exact ((K4.out.mono fun x _ e => .inr ⟨_, rfl, e⟩ : Keeps (Ys wb (some ⟨g, 0, none⟩)) w W3).trans K5 fun x _ e => .inl e).trans nk fun x hx e => absurd hx (by omega)
  · have y1 : ((xn : Int) == 1) = false := by simp; omega
    go_wp2_with fail
    go_region
    go_wp2_with fail
    obtain ⟨nw, nk⟩ := nine_set Z3.out (.int .i64 k) (.int .i64 cc) (.int .i64 r') (.int .i64 ar) (.int .i64 an) (.int .i64 br) (.int .i64 bn) (.slice b1 b2 b3) (.slice e1 e2 e3)
    generalize hV : (((((((((W3.setCell ⟨w.heap.size, 0, none⟩ (.int .i64 k)).setCell ⟨w.heap.size, 1, none⟩ (.int .i64 cc)).setCell ⟨w.heap.size, 2, none⟩ (.int .i64 r')).setCell ⟨w.heap.size, 3, none⟩ (.int .i64 ar)).setCell ⟨w.heap.size, 4, none⟩ (.int .i64 an)).setCell ⟨w.heap.size, 5, none⟩ (.int .i64 br)).setCell ⟨w.heap.size, 6, none⟩ (.int .i64 bn)).setCell ⟨w.heap.size, 7, none⟩ (.slice b1 b2 b3)).setCell ⟨w.heap.size, 8, none⟩ (.slice e1 e2 e3)).drew = V at nw nk ⊢
    have n0 : V.cell? ⟨w.heap.size, 0, none⟩ = some (.int .i64 k) := nw.at_ 0
    have n1 : V.cell? ⟨w.heap.size, 1, none⟩ = some (.int .i64 cc) := nw.at_ 1
    have n2 : V.cell? ⟨w.heap.size, 2, none⟩ = some (.int .i64 r') := nw.at_ 2
    have n3 : V.cell? ⟨w.heap.size, 3, none⟩ = some (.int .i64 ar) := nw.at_ 3
    have n4 : V.cell? ⟨w.heap.size, 4, none⟩ = some (.int .i64 an) := nw.at_ 4
    have n5 : V.cell? ⟨w.heap.size, 5, none⟩ = some (.int .i64 br) := nw.at_ 5
    have n6 : V.cell? ⟨w.heap.size, 6, none⟩ = some (.int .i64 bn) := nw.at_ 6
    have n7 : V.cell? ⟨w.heap.size, 7, none⟩ = some (.slice b1 b2 b3) := nw.at_ 7
    have n8 : V.cell? ⟨w.heap.size, 8, none⟩ = some (.slice e1 e2 e3) := nw.at_ 8
    refine bodyPost_ret (v := .tuple #[.agg #[.int .i64 k, .int .i64 cc, .int .i64 r', .int .i64 ar, .int .i64 an, .int .i64 br, .int .i64 bn, .slice b1 b2 b3, .slice e1 e2 e3], .int .i64 (d : Int)]) (by simp [results, Tryz.results68, go_sem, n0, n1, n2, n3, n4, n5, n6, n7, n8]) rfl ?_
    obtain ⟨s', B', E', R', rfl⟩ : ∃ s' B' E' R', R = .cons s' B' E' R' := by
      cases R with
      | nil => exact absurd (show xn = 1 from HX.out.1) h1
      | cons s' B' E' R' => exact ⟨_, _, _, _, rfl⟩
    refine ⟨(b1, b2, b3), (e1, e2, e3), rfl, HB.out, HE.out, ⟨((ro, xn - 1, xc - 1), (d : Int)) :: us, n, ⟨?_, ?_, ?_, ?_, ?_⟩, Nat.le_refl _⟩, ?_⟩
    · exact B3.out.keeps nk (by omega)
    · rw [List.reverse_cons]
      exact ownsRow_keeps R3.out nk fun x hx e => by simp [Value.ownBlock] at hx; omega
    · rw [List.length_cons, hm]; exact HN.out.symm
    · exact ⟨⟨SR.out, rfl⟩, HT.out⟩
    · exact full_push H.out.full.tail
    · exact (K4.out.mono fun x _ e => .inr ⟨_, rfl, e⟩ : Keeps (Ys wb (some ⟨g, 0, none⟩)) w W3).trans nk fun x hx e => absurd hx (by omega)
end Go.Proofs.YthidipigpfcbbaaGreatDoor
