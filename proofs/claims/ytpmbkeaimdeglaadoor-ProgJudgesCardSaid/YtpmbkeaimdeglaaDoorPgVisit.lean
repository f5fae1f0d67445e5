/-
  The law's own visit (concordlaw09.ProgWalks$1) by contract.
-/
import Derived.Test.YtpmbkeaimdeglaaDoorPgSame
import Derived.Test.YtpmbkeaimdeglaaDoorPgFace
import Derived.Test.YtpmbkeaimdeglaaDoorWdTail
namespace Go.Proofs.YtpmbkeaimdeglaaDoor
open Go.RowKit Go.Extern.Stop Go.Stop Go.Extern

set_option maxRecDepth 100000 in
set_option maxHeartbeats 4000000 in
theorem visit_any {w0 W : World} {i m c g nb ob lb eb : Nat} {l : Ln} {b e b2 e2 : Sl} {en d : Int}
    (hn : Whole W nb 3 #[.int .i64 (i : Nat)]) (ho : Whole W ob 4 #[.bool true]) (hl : W.cell? ⟨lb, 0, none⟩ = some (.slice (some ⟨g, 0, none⟩) m c)) (he : W.cell? ⟨eb, 0, none⟩ = some (.int .i64 en))
    (hi : i < m) (few : m ≤ 1000) (hA : LnAt W g (i * 10) l.s b2 e2 d) (hk : Keeps (fun x => w0.heap.size ≤ x) w0 W)
    (hB : SlOf w0 (slv b) l.B) (hE : SlOf w0 (slv e) l.E) (hB2 : SlOf w0 (slv b2) l.B) (hE2 : SlOf w0 (slv e2) l.E) (hsz : l.B.size + l.E.size ≤ 4000)
    (n1 : w0.heap.size ≤ nb) (d1 : nb ≠ ob) (d2 : nb ≠ lb) (d3 : nb ≠ eb) (d4 : nb ≠ g) (d6 : ob ≠ eb) :
    Calls Tryd.prog 24 #[.int .i64 ((i + 1 : Nat) : Int), .agg (stAgg l.s b e), .pointer (some ⟨nb, 0, none⟩), .pointer (some ⟨ob, 0, none⟩), .pointer (some ⟨lb, 0, none⟩), .pointer (some ⟨eb, 0, none⟩)] W fun e' W' =>
      e' = .returned (.bool (((i + 1 : Nat) : Int) != en)) ∧ Keeps (fun x => x = nb ∨ x = ob) W W' ∧ Whole W' nb 3 #[.int .i64 ((i + 1 : Nat) : Int)] ∧ Whole W' ob 4 #[.bool true] := by
  have wi : IntKind.i64.wrap ((i : Int) + 1) = ((i + 1 : Nat) : Int) := by rw [show (i : Int) + 1 = ((i + 1 : Nat) : Int) by omega]; exact IntWalk.i64_in _ (by omega)
  -- the world with the statement boxed and n one more
  obtain ⟨l', hl'⟩ : ∃ x, l = x := ⟨_, rfl⟩
  obtain ⟨s, B, E, dd⟩ := l
  obtain ⟨k, cc, r1, ar, an, br, bn⟩ := s
  obtain ⟨x1, x2, x3⟩ := b
  obtain ⟨y1, y2, y3⟩ := e
  obtain ⟨u1, u2, u3⟩ := b2
  obtain ⟨v1, v2, v3⟩ := e2
  clear hl' l'
  simp only at hA hB hE hB2 hE2 hsz
  unfold stAgg slv
  unfold slv at hB hE hB2 hE2
  simp only at hB hE hB2 hE2 ⊢
  obtain ⟨W1, hW1⟩ : ∃ V, V = (W.alloc (.cells #[.int .i64 k, .int .i64 cc, .int .i64 r1, .int .i64 ar, .int .i64 an, .int .i64 br, .int .i64 bn, .slice x1 x2 x3, .slice y1 y2 y3] 42)).setCell ⟨nb, 0, none⟩ (.int .i64 ((i + 1 : Nat) : Int)) := ⟨_, rfl⟩
  have lnb := hn.lt
  have lob := ho.lt
  have kW1 : Keeps (fun x => x = nb) W W1 := by rw [hW1]; exact ((Keeps.refl (fun x => x = nb) W).alloc _).setCell (p := ⟨nb, 0, none⟩) (fun _ => rfl) _
  have wB : Whole W1 W.heap.size 42 #[.int .i64 k, .int .i64 cc, .int .i64 r1, .int .i64 ar, .int .i64 an, .int .i64 br, .int .i64 bn, .slice x1 x2 x3, .slice y1 y2 y3] := by
    rw [hW1]; exact (Whole.made W _ _).far (fun h => by have h : W.heap.size = nb := h; omega) _
  have wn : Whole W1 nb 3 #[.int .i64 ((i + 1 : Nat) : Int)] := by rw [hW1]; exact (hn.alloc _).set_ 0 _
  have wo : Whole W1 ob 4 #[.bool true] := ho.keeps kW1 fun h => d1 h.symm
  have k0 : Keeps (fun x => w0.heap.size ≤ x) w0 W1 := hk.trans kW1 fun x _ h => by rw [h]; exact n1
  have cl : W1.cell? ⟨lb, 0, none⟩ = some (.slice (some ⟨g, 0, none⟩) m c) := (kW1.cell (cell_lt hl) fun h => d2 h.symm).trans hl
  have ce : W1.cell? ⟨eb, 0, none⟩ = some (.int .i64 en) := (kW1.cell (cell_lt he) fun h => d3 h.symm).trans he
  have go : ∀ {j : Nat} {v : Value}, W.cell? ⟨g, j, none⟩ = some v → W1.cell? ⟨g, j, none⟩ = some v := fun e => (kW1.cell (cell_lt e) fun h => d4 h.symm).trans e
  have a0 := go hA.st.k
  have a1 := go hA.st.c
  have a2 := go hA.st.r
  have a3 := go hA.st.ar
  have a4 := go hA.st.an
  have a5 := go hA.st.br
  have a6 := go hA.st.bn
  have a7 := go hA.b
  have a8 := go hA.e
  unfold slv at a7 a8
  simp only at a0 a1 a2 a3 a4 a5 a6 a7 a8
  have sB := fun V (q : Keeps (fun _ => False) W1 V) => (hB.keeps k0 fun x h => Nat.not_le.2 h).same q
  have sE := fun V (q : Keeps (fun _ => False) W1 V) => (hE.keeps k0 fun x h => Nat.not_le.2 h).same q
  have sB2 := fun V (q : Keeps (fun _ => False) W1 V) => (hB2.keeps k0 fun x h => Nat.not_le.2 h).same q
  have sE2 := fun V (q : Keeps (fun _ => False) W1 V) => (hE2.keeps k0 fun x h => Nat.not_le.2 h).same q
  have wfc : (Lit.int .i64 cc).wf = true := hA.st.wf
  have CS : Hid (∀ (V : World) (p q : Nat), Keeps (fun _ => False) W1 V → Whole V p 42 #[.int .i64 k, .int .i64 cc, .int .i64 r1, .int .i64 ar, .int .i64 an, .int .i64 br, .int .i64 bn, .slice x1 x2 x3, .slice y1 y2 y3] → Whole V q 42 #[.int .i64 k, .int .i64 cc, .int .i64 r1, .int .i64 ar, .int .i64 an, .int .i64 br, .int .i64 bn, .slice u1 u2 u3, .slice v1 v2 v3] → Calls Tryd.prog 25 #[.slice (some ⟨p, 0, none⟩) 1 1, .slice (some ⟨q, 0, none⟩) 1 1] V fun e w' => e = .returned (.bool true) ∧ Keeps (fun _ => False) W1 w') := Lib.hid fun V p q kV hp hq =>
    (same_yes9 _ (.cons ⟨k, cc, r1, ar, an, br, bn⟩ B E .nil) (Nat.le_refl _) V _ _ (sl_lit (s := ⟨k, cc, r1, ar, an, br, bn⟩) (b := (x1, x2, x3)) (e := (y1, y2, y3)) hp (sB V kV) (sE V kV) wfc) (sl_lit (s := ⟨k, cc, r1, ar, an, br, bn⟩) (b := (u1, u2, u3)) (e := (v1, v2, v3)) hq (sB2 V kV) (sE2 V kV) wfc) (by simp [Fo.size]; omega)).mono fun e w' ⟨h1, h2⟩ => ⟨h1, kV.trans h2 fun _ _ => id⟩
  have fin : Hid (∀ V : World, Keeps (fun _ => False) W1 V → Keeps (fun x => x = nb ∨ x = ob) W (V.setCell ⟨ob, 0, none⟩ (.bool true)) ∧ Whole (V.setCell ⟨ob, 0, none⟩ (.bool true)) nb 3 #[.int .i64 ((i + 1 : Nat) : Int)] ∧ Whole (V.setCell ⟨ob, 0, none⟩ (.bool true)) ob 4 #[.bool true] ∧ V.frozen? ⟨ob, 0, none⟩ = false ∧ V.cell? ⟨ob, 0, none⟩ = some (.bool true) ∧ (V.setCell ⟨ob, 0, none⟩ (.bool true)).cell? ⟨eb, 0, none⟩ = some (.int .i64 en)) := Lib.hid fun V kV => by
    have ks : Keeps (fun x => x = ob) V (V.setCell ⟨ob, 0, none⟩ (.bool true)) := (Keeps.refl (fun x => x = ob) V).setCell (p := ⟨ob, 0, none⟩) (fun _ => rfl) _
    have ce' := (kV.cell (cell_lt ce) id).trans ce
    exact ⟨((kW1.mono fun _ _ h => .inl h : Keeps (fun x => x = nb ∨ x = ob) W W1).trans kV fun _ _ => False.elim).trans ks fun _ _ h => .inr h, (wn.keeps kV id).keeps ks d1, (wo.keeps kV id).set_ 0 _, (wo.keeps kV id).free 0, (wo.keeps kV id).at_ 0, (ks.cell (cell_lt ce') fun h => d6 h.symm).trans ce'⟩
  have hn0 : W.cell? ⟨nb, 0, none⟩ = some (.int .i64 (i : Nat)) := hn.at_ 0
  have hnf : (W.alloc (.cells #[.int .i64 k, .int .i64 cc, .int .i64 r1, .int .i64 ar, .int .i64 an, .int .i64 br, .int .i64 bn, .slice x1 x2 x3, .slice y1 y2 y3] 42)).frozen? ⟨nb, 0, none⟩ = false := (hn.alloc _).free 0
  have hn1 : (W.alloc (.cells #[.int .i64 k, .int .i64 cc, .int .i64 r1, .int .i64 ar, .int .i64 an, .int .i64 br, .int .i64 bn, .slice x1 x2 x3, .slice y1 y2 y3] 42)).cell? ⟨nb, 0, none⟩ = some (.int .i64 (i : Nat)) := (hn.alloc _).at_ 0
  have hW1' := Lib.hid hW1
  have WB := Lib.hid wB
  have WN := Lib.hid wn
  have WO := Lib.hid wo
  have c0n : W1.cell? ⟨nb, 0, none⟩ = some (.int .i64 ((i + 1 : Nat) : Int)) := wn.at_ 0
  have c0o : W1.cell? ⟨ob, 0, none⟩ = some (.bool true) := wo.at_ 0
  have p0 : W1.cell? ⟨W.heap.size, 0, none⟩ = some (.int .i64 k) := wB.at_ 0
  have p1 : W1.cell? ⟨W.heap.size, 1, none⟩ = some (.int .i64 cc) := wB.at_ 1
  have p2 : W1.cell? ⟨W.heap.size, 2, none⟩ = some (.int .i64 r1) := wB.at_ 2
  have p3 : W1.cell? ⟨W.heap.size, 3, none⟩ = some (.int .i64 ar) := wB.at_ 3
  have p4 : W1.cell? ⟨W.heap.size, 4, none⟩ = some (.int .i64 an) := wB.at_ 4
  have p5 : W1.cell? ⟨W.heap.size, 5, none⟩ = some (.int .i64 br) := wB.at_ 5
  have p6 : W1.cell? ⟨W.heap.size, 6, none⟩ = some (.int .i64 bn) := wB.at_ 6
  have p7 : W1.cell? ⟨W.heap.size, 7, none⟩ = some (.slice x1 x2 x3) := wB.at_ 7
  have p8 : W1.cell? ⟨W.heap.size, 8, none⟩ = some (.slice y1 y2 y3) := wB.at_ 8
  have q1 := cell_lt p0
  have q2 := cell_lt a0
  have q3 := cell_lt c0n
  have q4 := cell_lt c0o
  have q5 := cell_lt cl
  have q6 := cell_lt ce
  simp only at q1 q2 q3 q4 q5 q6
  have hi2 : (i : Int) < (m : Int) := by omega
  have m1000 : (m : Int) ≤ 1000 := by omega
  have eqn : (((i + 1 : Nat) : Int) == ((i + 1 : Nat) : Int)) = true := by simp
  have wj : IntKind.i64.wrap (((i + 1 : Nat) : Int) - 1) = (i : Int) := by rw [show (((i + 1 : Nat) : Int)) - 1 = (i : Int) by omega]; exact IntWalk.i64_in _ (by omega)
  have le1 : ((i + 1 : Nat) : Int) ≤ (m : Int) := by omega
  have es : (i : Int) + 1 = ((i + 1 : Nat) : Int) := by omega
  have ES := Lib.hid es
  clear es
  generalize i + 1 = j at *
  have LE := Lib.hid le1
  clear le1
  clear hA hB hE hB2 hE2 hsz hk kW1 wB wn wo k0 sB sE sB2 sE2 go hn ho hl he hW1 few hi n1 d1 d2 d3 d4 d6 wfc lnb lob
  go_enter Tryd.func24, Tryd.ntmps24
  go_upto_region 2 with fail
  rw [← hW1'.out]
  clear hW1' hn0 hnf hn1
  go_cut [] from 11 to 34 (fun wx => ∃ V, Keeps (fun _ => False) W1 V ∧ wx = V.setCell ⟨ob, 0, none⟩ (.bool true))
  case first =>
    have FA : Hid (∀ V, Keeps (fun _ => False) W1 V → V.cell? ⟨ob, 0, none⟩ = some (.bool true) ∧ V.cell? ⟨nb, 0, none⟩ = some (.int .i64 (j : Int)) ∧ V.cell? ⟨lb, 0, none⟩ = some (.slice (some ⟨g, 0, none⟩) m c) ∧ V.cell? ⟨W.heap.size, 0, none⟩ = some (.int .i64 k) ∧ V.cell? ⟨W.heap.size, 1, none⟩ = some (.int .i64 cc) ∧ V.cell? ⟨W.heap.size, 2, none⟩ = some (.int .i64 r1) ∧ V.cell? ⟨W.heap.size, 3, none⟩ = some (.int .i64 ar) ∧ V.cell? ⟨W.heap.size, 4, none⟩ = some (.int .i64 an) ∧ V.cell? ⟨W.heap.size, 5, none⟩ = some (.int .i64 br) ∧ V.cell? ⟨W.heap.size, 6, none⟩ = some (.int .i64 bn) ∧ V.cell? ⟨W.heap.size, 7, none⟩ = some (.slice x1 x2 x3) ∧ V.cell? ⟨W.heap.size, 8, none⟩ = some (.slice y1 y2 y3) ∧ V.cell? ⟨g, i * 10, none⟩ = some (.int .i64 k) ∧ V.cell? ⟨g, i * 10 + 1, none⟩ = some (.int .i64 cc) ∧ V.cell? ⟨g, i * 10 + 2, none⟩ = some (.int .i64 r1) ∧ V.cell? ⟨g, i * 10 + 3, none⟩ = some (.int .i64 ar) ∧ V.cell? ⟨g, i * 10 + 4, none⟩ = some (.int .i64 an) ∧ V.cell? ⟨g, i * 10 + 5, none⟩ = some (.int .i64 br) ∧ V.cell? ⟨g, i * 10 + 6, none⟩ = some (.int .i64 bn) ∧ V.cell? ⟨g, i * 10 + 7, none⟩ = some (.slice u1 u2 u3) ∧ V.cell? ⟨g, i * 10 + 8, none⟩ = some (.slice v1 v2 v3)) := Lib.hid fun V kV =>
      ⟨(kV.cell (cell_lt c0o) id).trans c0o, (kV.cell (cell_lt c0n) id).trans c0n, (kV.cell (cell_lt cl) id).trans cl, (kV.cell (cell_lt p0) id).trans p0, (kV.cell (cell_lt p1) id).trans p1, (kV.cell (cell_lt p2) id).trans p2, (kV.cell (cell_lt p3) id).trans p3, (kV.cell (cell_lt p4) id).trans p4, (kV.cell (cell_lt p5) id).trans p5, (kV.cell (cell_lt p6) id).trans p6, (kV.cell (cell_lt p7) id).trans p7, (kV.cell (cell_lt p8) id).trans p8, (kV.cell (cell_lt a0) id).trans a0, (kV.cell (cell_lt a1) id).trans a1, (kV.cell (cell_lt a2) id).trans a2, (kV.cell (cell_lt a3) id).trans a3, (kV.cell (cell_lt a4) id).trans a4, (kV.cell (cell_lt a5) id).trans a5, (kV.cell (cell_lt a6) id).trans a6, (kV.cell (cell_lt a7) id).trans a7, (kV.cell (cell_lt a8) id).trans a8⟩
    clear c0o c0n cl p0 p1 p2 p3 p4 p5 p6 p7 p8 a0 a1 a2 a3 a4 a5 a6 a7 a8 q1 q2 q3 q4 q5 q6
    generalize W.heap.size = pb at *
    go_wp2_with fail
    have le1 := LE.out
    refine AnyT.begin (S := fun V => Keeps (fun _ => False) W1 V) (by kernel_rfl) (Keeps.refl _ _).drew (fun hHeld => ?_)
    first
      | (refine AnyT.take (i := 0) (v := ?_) rfl (by kernel_rfl) (fun _ _ _ h => h) (Or.inl ⟨by rfl, ?_⟩) (by assumption) ?_; rotate_left; (· (intro V hSV; (obtain ⟨z0, z1, z2, z3, z4, z5, z6, z7, z8, z9, z10, z11, z12, z13, z14, z15, z16, z17, z18, z19, z20⟩ := FA.out V hSV); (first | (go_simp; done) | (go_simp; with_reducible rfl)))); simp only [Act.put, List.setIfInBounds_toArray, List.set_cons_zero, List.set_cons_succ])
      | (refine AnyT.take (i := 0) (v := undef) rfl (by kernel_rfl) (fun _ _ _ h => h) (Or.inr ⟨by rfl, rfl⟩) (by assumption) ?_; simp only [Act.put, List.setIfInBounds_toArray, List.set_cons_zero, List.set_cons_succ])
    first
      | (refine AnyT.take (i := 1) (v := ?_) rfl (by kernel_rfl) (fun _ _ _ h => h) (Or.inl ⟨by rfl, ?_⟩) (by assumption) ?_; rotate_left; (· (intro V hSV; (obtain ⟨z0, z1, z2, z3, z4, z5, z6, z7, z8, z9, z10, z11, z12, z13, z14, z15, z16, z17, z18, z19, z20⟩ := FA.out V hSV); (first | (go_simp; done) | (go_simp; with_reducible rfl)))); simp only [Act.put, List.setIfInBounds_toArray, List.set_cons_zero, List.set_cons_succ])
      | (refine AnyT.take (i := 1) (v := undef) rfl (by kernel_rfl) (fun _ _ _ h => h) (Or.inr ⟨by rfl, rfl⟩) (by assumption) ?_; simp only [Act.put, List.setIfInBounds_toArray, List.set_cons_zero, List.set_cons_succ])
    first
      | (refine AnyT.take (i := 2) (v := ?_) rfl (by kernel_rfl) (fun _ _ _ h => h) (Or.inl ⟨by rfl, ?_⟩) (by assumption) ?_; rotate_left; (· (intro V hSV; (obtain ⟨z0, z1, z2, z3, z4, z5, z6, z7, z8, z9, z10, z11, z12, z13, z14, z15, z16, z17, z18, z19, z20⟩ := FA.out V hSV); (first | (go_simp; done) | (go_simp; with_reducible rfl)))); simp only [Act.put, List.setIfInBounds_toArray, List.set_cons_zero, List.set_cons_succ])
      | (refine AnyT.take (i := 2) (v := undef) rfl (by kernel_rfl) (fun _ _ _ h => h) (Or.inr ⟨by rfl, rfl⟩) (by assumption) ?_; simp only [Act.put, List.setIfInBounds_toArray, List.set_cons_zero, List.set_cons_succ])
    first
      | (refine AnyT.take (i := 3) (v := ?_) rfl (by kernel_rfl) (fun _ _ _ h => h) (Or.inl ⟨by rfl, ?_⟩) (by assumption) ?_; rotate_left; (· (intro V hSV; (obtain ⟨z0, z1, z2, z3, z4, z5, z6, z7, z8, z9, z10, z11, z12, z13, z14, z15, z16, z17, z18, z19, z20⟩ := FA.out V hSV); (first | (go_simp; done) | (go_simp; with_reducible rfl)))); simp only [Act.put, List.setIfInBounds_toArray, List.set_cons_zero, List.set_cons_succ])
      | (refine AnyT.take (i := 3) (v := undef) rfl (by kernel_rfl) (fun _ _ _ h => h) (Or.inr ⟨by rfl, rfl⟩) (by assumption) ?_; simp only [Act.put, List.setIfInBounds_toArray, List.set_cons_zero, List.set_cons_succ])
    first
      | (refine AnyT.take (i := 4) (v := ?_) rfl (by kernel_rfl) (fun _ _ _ h => h) (Or.inl ⟨by rfl, ?_⟩) (by assumption) ?_; rotate_left; (· (intro V hSV; (obtain ⟨z0, z1, z2, z3, z4, z5, z6, z7, z8, z9, z10, z11, z12, z13, z14, z15, z16, z17, z18, z19, z20⟩ := FA.out V hSV); (first | (go_simp; done) | (go_simp; with_reducible rfl)))); simp only [Act.put, List.setIfInBounds_toArray, List.set_cons_zero, List.set_cons_succ])
      | (refine AnyT.take (i := 4) (v := undef) rfl (by kernel_rfl) (fun _ _ _ h => h) (Or.inr ⟨by rfl, rfl⟩) (by assumption) ?_; simp only [Act.put, List.setIfInBounds_toArray, List.set_cons_zero, List.set_cons_succ])
    first
      | (refine AnyT.take (i := 5) (v := ?_) rfl (by kernel_rfl) (fun _ _ _ h => h) (Or.inl ⟨by rfl, ?_⟩) (by assumption) ?_; rotate_left; (· (intro V hSV; (obtain ⟨z0, z1, z2, z3, z4, z5, z6, z7, z8, z9, z10, z11, z12, z13, z14, z15, z16, z17, z18, z19, z20⟩ := FA.out V hSV); (first | (go_simp; done) | (go_simp; with_reducible rfl)))); simp only [Act.put, List.setIfInBounds_toArray, List.set_cons_zero, List.set_cons_succ])
      | (refine AnyT.take (i := 5) (v := undef) rfl (by kernel_rfl) (fun _ _ _ h => h) (Or.inr ⟨by rfl, rfl⟩) (by assumption) ?_; simp only [Act.put, List.setIfInBounds_toArray, List.set_cons_zero, List.set_cons_succ])
    first
      | (refine AnyT.take (i := 6) (v := ?_) rfl (by kernel_rfl) (fun _ _ _ h => h) (Or.inl ⟨by rfl, ?_⟩) (by assumption) ?_; rotate_left; (· (intro V hSV; (obtain ⟨z0, z1, z2, z3, z4, z5, z6, z7, z8, z9, z10, z11, z12, z13, z14, z15, z16, z17, z18, z19, z20⟩ := FA.out V hSV); (first | (go_simp; done) | (go_simp; with_reducible rfl)))); simp only [Act.put, List.setIfInBounds_toArray, List.set_cons_zero, List.set_cons_succ])
      | (refine AnyT.take (i := 6) (v := undef) rfl (by kernel_rfl) (fun _ _ _ h => h) (Or.inr ⟨by rfl, rfl⟩) (by assumption) ?_; simp only [Act.put, List.setIfInBounds_toArray, List.set_cons_zero, List.set_cons_succ])
    first
      | (refine AnyT.take (i := 7) (v := ?_) rfl (by kernel_rfl) (fun _ _ _ h => h) (Or.inl ⟨by rfl, ?_⟩) (by assumption) ?_; rotate_left; (· (intro V hSV; (obtain ⟨z0, z1, z2, z3, z4, z5, z6, z7, z8, z9, z10, z11, z12, z13, z14, z15, z16, z17, z18, z19, z20⟩ := FA.out V hSV); (first | (go_simp; done) | (go_simp; with_reducible rfl)))); simp only [Act.put, List.setIfInBounds_toArray, List.set_cons_zero, List.set_cons_succ])
      | (refine AnyT.take (i := 7) (v := undef) rfl (by kernel_rfl) (fun _ _ _ h => h) (Or.inr ⟨by rfl, rfl⟩) (by assumption) ?_; simp only [Act.put, List.setIfInBounds_toArray, List.set_cons_zero, List.set_cons_succ])
    first
      | (refine AnyT.take (i := 8) (v := ?_) rfl (by kernel_rfl) (fun _ _ _ h => h) (Or.inl ⟨by rfl, ?_⟩) (by assumption) ?_; rotate_left; (· (intro V hSV; (obtain ⟨z0, z1, z2, z3, z4, z5, z6, z7, z8, z9, z10, z11, z12, z13, z14, z15, z16, z17, z18, z19, z20⟩ := FA.out V hSV); (first | (go_simp; done) | (go_simp; with_reducible rfl)))); simp only [Act.put, List.setIfInBounds_toArray, List.set_cons_zero, List.set_cons_succ])
      | (refine AnyT.take (i := 8) (v := undef) rfl (by kernel_rfl) (fun _ _ _ h => h) (Or.inr ⟨by rfl, rfl⟩) (by assumption) ?_; simp only [Act.put, List.setIfInBounds_toArray, List.set_cons_zero, List.set_cons_succ])
    first
      | (refine AnyT.take (i := 9) (v := ?_) rfl (by kernel_rfl) (fun _ _ _ h => h) (Or.inl ⟨by rfl, ?_⟩) (by assumption) ?_; rotate_left; (· (intro V hSV; (obtain ⟨z0, z1, z2, z3, z4, z5, z6, z7, z8, z9, z10, z11, z12, z13, z14, z15, z16, z17, z18, z19, z20⟩ := FA.out V hSV); (first | (go_simp; done) | (go_simp; with_reducible rfl)))); simp only [Act.put, List.setIfInBounds_toArray, List.set_cons_zero, List.set_cons_succ])
      | (refine AnyT.take (i := 9) (v := undef) rfl (by kernel_rfl) (fun _ _ _ h => h) (Or.inr ⟨by rfl, rfl⟩) (by assumption) ?_; simp only [Act.put, List.setIfInBounds_toArray, List.set_cons_zero, List.set_cons_succ])
    first
      | (refine AnyT.take (i := 10) (v := ?_) rfl (by kernel_rfl) (fun _ _ _ h => h) (Or.inl ⟨by rfl, ?_⟩) (by assumption) ?_; rotate_left; (· (intro V hSV; (obtain ⟨z0, z1, z2, z3, z4, z5, z6, z7, z8, z9, z10, z11, z12, z13, z14, z15, z16, z17, z18, z19, z20⟩ := FA.out V hSV); (first | (go_simp; done) | (go_simp; with_reducible rfl)))); simp only [Act.put, List.setIfInBounds_toArray, List.set_cons_zero, List.set_cons_succ])
      | (refine AnyT.take (i := 10) (v := undef) rfl (by kernel_rfl) (fun _ _ _ h => h) (Or.inr ⟨by rfl, rfl⟩) (by assumption) ?_; simp only [Act.put, List.setIfInBounds_toArray, List.set_cons_zero, List.set_cons_succ])
    first
      | (refine AnyT.take (i := 11) (v := ?_) rfl (by kernel_rfl) (fun _ _ _ h => h) (Or.inl ⟨by rfl, ?_⟩) (by assumption) ?_; rotate_left; (· (intro V hSV; (obtain ⟨z0, z1, z2, z3, z4, z5, z6, z7, z8, z9, z10, z11, z12, z13, z14, z15, z16, z17, z18, z19, z20⟩ := FA.out V hSV); (first | (go_simp; done) | (go_simp; with_reducible rfl)))); simp only [Act.put, List.setIfInBounds_toArray, List.set_cons_zero, List.set_cons_succ])
      | (refine AnyT.take (i := 11) (v := undef) rfl (by kernel_rfl) (fun _ _ _ h => h) (Or.inr ⟨by rfl, rfl⟩) (by assumption) ?_; simp only [Act.put, List.setIfInBounds_toArray, List.set_cons_zero, List.set_cons_succ])
    first
      | (refine AnyT.take (i := 12) (v := ?_) rfl (by kernel_rfl) (fun _ _ _ h => h) (Or.inl ⟨by rfl, ?_⟩) (by assumption) ?_; rotate_left; (· (intro V hSV; (obtain ⟨z0, z1, z2, z3, z4, z5, z6, z7, z8, z9, z10, z11, z12, z13, z14, z15, z16, z17, z18, z19, z20⟩ := FA.out V hSV); (first | (go_simp; done) | (go_simp; with_reducible rfl)))); simp only [Act.put, List.setIfInBounds_toArray, List.set_cons_zero, List.set_cons_succ])
      | (refine AnyT.take (i := 12) (v := undef) rfl (by kernel_rfl) (fun _ _ _ h => h) (Or.inr ⟨by rfl, rfl⟩) (by assumption) ?_; simp only [Act.put, List.setIfInBounds_toArray, List.set_cons_zero, List.set_cons_succ])
    first
      | (refine AnyT.take (i := 13) (v := ?_) rfl (by kernel_rfl) (fun _ _ _ h => h) (Or.inl ⟨by rfl, ?_⟩) (by assumption) ?_; rotate_left; (· (intro V hSV; (obtain ⟨z0, z1, z2, z3, z4, z5, z6, z7, z8, z9, z10, z11, z12, z13, z14, z15, z16, z17, z18, z19, z20⟩ := FA.out V hSV); (first | (go_simp; done) | (go_simp; with_reducible rfl)))); simp only [Act.put, List.setIfInBounds_toArray, List.set_cons_zero, List.set_cons_succ])
      | (refine AnyT.take (i := 13) (v := undef) rfl (by kernel_rfl) (fun _ _ _ h => h) (Or.inr ⟨by rfl, rfl⟩) (by assumption) ?_; simp only [Act.put, List.setIfInBounds_toArray, List.set_cons_zero, List.set_cons_succ])
    first
      | (refine AnyT.take (i := 15) (v := ?_) rfl (by kernel_rfl) (fun _ _ _ h => h) (Or.inl ⟨by rfl, ?_⟩) (by assumption) ?_; rotate_left; (· (intro V hSV; (obtain ⟨z0, z1, z2, z3, z4, z5, z6, z7, z8, z9, z10, z11, z12, z13, z14, z15, z16, z17, z18, z19, z20⟩ := FA.out V hSV); (first | (go_simp; done) | (go_simp; with_reducible rfl)))); simp only [Act.put, List.setIfInBounds_toArray, List.set_cons_zero, List.set_cons_succ])
      | (refine AnyT.take (i := 15) (v := undef) rfl (by kernel_rfl) (fun _ _ _ h => h) (Or.inr ⟨by rfl, rfl⟩) (by assumption) ?_; simp only [Act.put, List.setIfInBounds_toArray, List.set_cons_zero, List.set_cons_succ])
    first
      | (refine AnyT.take (i := 16) (v := ?_) rfl (by kernel_rfl) (fun _ _ _ h => h) (Or.inl ⟨by rfl, ?_⟩) (by assumption) ?_; rotate_left; (· (intro V hSV; (obtain ⟨z0, z1, z2, z3, z4, z5, z6, z7, z8, z9, z10, z11, z12, z13, z14, z15, z16, z17, z18, z19, z20⟩ := FA.out V hSV); (first | (go_simp; done) | (go_simp; with_reducible rfl)))); simp only [Act.put, List.setIfInBounds_toArray, List.set_cons_zero, List.set_cons_succ])
      | (refine AnyT.take (i := 16) (v := undef) rfl (by kernel_rfl) (fun _ _ _ h => h) (Or.inr ⟨by rfl, rfl⟩) (by assumption) ?_; simp only [Act.put, List.setIfInBounds_toArray, List.set_cons_zero, List.set_cons_succ])
    first
      | (refine AnyT.take (i := 17) (v := ?_) rfl (by kernel_rfl) (fun _ _ _ h => h) (Or.inl ⟨by rfl, ?_⟩) (by assumption) ?_; rotate_left; (· (intro V hSV; (obtain ⟨z0, z1, z2, z3, z4, z5, z6, z7, z8, z9, z10, z11, z12, z13, z14, z15, z16, z17, z18, z19, z20⟩ := FA.out V hSV); (first | (go_simp; done) | (go_simp; with_reducible rfl)))); simp only [Act.put, List.setIfInBounds_toArray, List.set_cons_zero, List.set_cons_succ])
      | (refine AnyT.take (i := 17) (v := undef) rfl (by kernel_rfl) (fun _ _ _ h => h) (Or.inr ⟨by rfl, rfl⟩) (by assumption) ?_; simp only [Act.put, List.setIfInBounds_toArray, List.set_cons_zero, List.set_cons_succ])
    first
      | (refine AnyT.take (i := 18) (v := ?_) rfl (by kernel_rfl) (fun _ _ _ h => h) (Or.inl ⟨by rfl, ?_⟩) (by assumption) ?_; rotate_left; (· (intro V hSV; (obtain ⟨z0, z1, z2, z3, z4, z5, z6, z7, z8, z9, z10, z11, z12, z13, z14, z15, z16, z17, z18, z19, z20⟩ := FA.out V hSV); (first | (go_simp; done) | (go_simp; with_reducible rfl)))); simp only [Act.put, List.setIfInBounds_toArray, List.set_cons_zero, List.set_cons_succ])
      | (refine AnyT.take (i := 18) (v := undef) rfl (by kernel_rfl) (fun _ _ _ h => h) (Or.inr ⟨by rfl, rfl⟩) (by assumption) ?_; simp only [Act.put, List.setIfInBounds_toArray, List.set_cons_zero, List.set_cons_succ])
    first
      | (refine AnyT.take (i := 19) (v := ?_) rfl (by kernel_rfl) (fun _ _ _ h => h) (Or.inl ⟨by rfl, ?_⟩) (by assumption) ?_; rotate_left; (· (intro V hSV; (obtain ⟨z0, z1, z2, z3, z4, z5, z6, z7, z8, z9, z10, z11, z12, z13, z14, z15, z16, z17, z18, z19, z20⟩ := FA.out V hSV); (first | (go_simp; done) | (go_simp; with_reducible rfl)))); simp only [Act.put, List.setIfInBounds_toArray, List.set_cons_zero, List.set_cons_succ])
      | (refine AnyT.take (i := 19) (v := undef) rfl (by kernel_rfl) (fun _ _ _ h => h) (Or.inr ⟨by rfl, rfl⟩) (by assumption) ?_; simp only [Act.put, List.setIfInBounds_toArray, List.set_cons_zero, List.set_cons_succ])
    first
      | (refine AnyT.take (i := 20) (v := ?_) rfl (by kernel_rfl) (fun _ _ _ h => h) (Or.inl ⟨by rfl, ?_⟩) (by assumption) ?_; rotate_left; (· (intro V hSV; (obtain ⟨z0, z1, z2, z3, z4, z5, z6, z7, z8, z9, z10, z11, z12, z13, z14, z15, z16, z17, z18, z19, z20⟩ := FA.out V hSV); (first | (go_simp; done) | (go_simp; with_reducible rfl)))); simp only [Act.put, List.setIfInBounds_toArray, List.set_cons_zero, List.set_cons_succ])
      | (refine AnyT.take (i := 20) (v := undef) rfl (by kernel_rfl) (fun _ _ _ h => h) (Or.inr ⟨by rfl, rfl⟩) (by assumption) ?_; simp only [Act.put, List.setIfInBounds_toArray, List.set_cons_zero, List.set_cons_succ])
    refine AnyT.ready (rs := [14, 21]) (by kernel_rfl) (by simp) (ReadyT.cons rfl (fun K hK => ?_) (ReadyT.cons rfl (fun K hK => ?_) ReadyT.nil))
    · skip
      go_simp
      have hHeld : Keeps (fun _ => False) W1 ((W1.alloc (.cells #[.int .i64 k, .int .i64 cc, .int .i64 r1, .int .i64 ar, .int .i64 an, .int .i64 br, .int .i64 bn, .slice x1 x2 x3, .slice y1 y2 y3] 42)).drew) := ((Keeps.refl _ W1).alloc _).drew
      refine hK.out _ _ (fun _ => hHeld) (fun _ => ?_)
      clear hK K
      try simp only [Act.put, List.setIfInBounds_toArray, List.set_cons_zero, List.set_cons_succ]
      refine AnyT.ready (rs := [21]) (by kernel_rfl) (by simp) (ReadyT.cons rfl (fun K hK => ?_) ReadyT.nil)
      go_simp
      have hHeld : Keeps (fun _ => False) W1 (((W1.alloc (.cells #[.int .i64 k, .int .i64 cc, .int .i64 r1, .int .i64 ar, .int .i64 an, .int .i64 br, .int .i64 bn, .slice x1 x2 x3, .slice y1 y2 y3] 42)).alloc (.cells #[.int .i64 k, .int .i64 cc, .int .i64 r1, .int .i64 ar, .int .i64 an, .int .i64 br, .int .i64 bn, .slice u1 u2 u3, .slice v1 v2 v3] 42)).drew) := (((Keeps.refl _ W1).alloc _).alloc _).drew
      refine hK.out _ _ (fun _ => hHeld) (fun _ => ?_)
      clear hK K
      try simp only [Act.put, List.setIfInBounds_toArray, List.set_cons_zero, List.set_cons_succ]
      refine AnyT.ready (rs := [22]) (by kernel_rfl) (by simp) (ReadyT.cons rfl (fun K hK => ?_) ReadyT.nil)
      go_simp
      refine (CS.out _ _ _ hHeld (by first | exact (made_2 W1 _ _ _).drew | exact ((Whole.made W1 _ _).alloc _).drew) (by first | exact (made_2 W1 _ _ _).drew | exact ((Whole.made W1 _ _).alloc _).drew)).mono ?_
      rintro e w2 ⟨rfl, hK2⟩
      obtain ⟨_, _, _, s1, s2, _⟩ := fin.out w2 hK2
      go_wp2_with fail
      have hHeld := hK2
      refine hK.out _ _ (fun _ => hHeld) (fun _ => ?_)
      clear hK K
      try simp only [Act.put, List.setIfInBounds_toArray, List.set_cons_zero, List.set_cons_succ]
      first
        | (refine AnyT.take (i := 23) (v := ?_) rfl (by kernel_rfl) (fun _ _ _ h => h) (Or.inl ⟨by rfl, ?_⟩) (by assumption) ?_; rotate_left; (· (intro V hSV; (obtain ⟨z0, z1, z2, z3, z4, z5, z6, z7, z8, z9, z10, z11, z12, z13, z14, z15, z16, z17, z18, z19, z20⟩ := FA.out V hSV); (first | (go_simp; done) | (go_simp; with_reducible rfl)))); simp only [Act.put, List.setIfInBounds_toArray, List.set_cons_zero, List.set_cons_succ])
        | (refine AnyT.take (i := 23) (v := undef) rfl (by kernel_rfl) (fun _ _ _ h => h) (Or.inr ⟨by rfl, rfl⟩) (by assumption) ?_; simp only [Act.put, List.setIfInBounds_toArray, List.set_cons_zero, List.set_cons_succ])
      refine AnyT.ready (rs := [24]) (by kernel_rfl) (by simp) (ReadyT.cons rfl (fun K hK => ?_) ReadyT.nil)
      go_simp
      refine hK.out _ _ (fun h => absurd h (by simp)) (fun _ => ?_)
      clear hK K
      try simp only [Act.put, List.setIfInBounds_toArray, List.set_cons_zero, List.set_cons_succ]
      refine AnyT.done (by kernel_rfl) ?_ _
      go_wp2_with fail
      go_meet
      case rel => exact ⟨w2, hK2, rfl⟩
    · skip
      go_simp
      have hHeld : Keeps (fun _ => False) W1 ((W1.alloc (.cells #[.int .i64 k, .int .i64 cc, .int .i64 r1, .int .i64 ar, .int .i64 an, .int .i64 br, .int .i64 bn, .slice u1 u2 u3, .slice v1 v2 v3] 42)).drew) := ((Keeps.refl _ W1).alloc _).drew
      refine hK.out _ _ (fun _ => hHeld) (fun _ => ?_)
      clear hK K
      try simp only [Act.put, List.setIfInBounds_toArray, List.set_cons_zero, List.set_cons_succ]
      refine AnyT.ready (rs := [14]) (by kernel_rfl) (by simp) (ReadyT.cons rfl (fun K hK => ?_) ReadyT.nil)
      go_simp
      have hHeld : Keeps (fun _ => False) W1 (((W1.alloc (.cells #[.int .i64 k, .int .i64 cc, .int .i64 r1, .int .i64 ar, .int .i64 an, .int .i64 br, .int .i64 bn, .slice u1 u2 u3, .slice v1 v2 v3] 42)).alloc (.cells #[.int .i64 k, .int .i64 cc, .int .i64 r1, .int .i64 ar, .int .i64 an, .int .i64 br, .int .i64 bn, .slice x1 x2 x3, .slice y1 y2 y3] 42)).drew) := (((Keeps.refl _ W1).alloc _).alloc _).drew
      refine hK.out _ _ (fun _ => hHeld) (fun _ => ?_)
      clear hK K
      try simp only [Act.put, List.setIfInBounds_toArray, List.set_cons_zero, List.set_cons_succ]
      refine AnyT.ready (rs := [22]) (by kernel_rfl) (by simp) (ReadyT.cons rfl (fun K hK => ?_) ReadyT.nil)
      go_simp
      refine (CS.out _ _ _ hHeld (by first | exact (made_2 W1 _ _ _).drew | exact ((Whole.made W1 _ _).alloc _).drew) (by first | exact (made_2 W1 _ _ _).drew | exact ((Whole.made W1 _ _).alloc _).drew)).mono ?_
      rintro e w2 ⟨rfl, hK2⟩
      obtain ⟨_, _, _, s1, s2, _⟩ := fin.out w2 hK2
      go_wp2_with fail
      have hHeld := hK2
      refine hK.out _ _ (fun _ => hHeld) (fun _ => ?_)
      clear hK K
      try simp only [Act.put, List.setIfInBounds_toArray, List.set_cons_zero, List.set_cons_succ]
      first
        | (refine AnyT.take (i := 23) (v := ?_) rfl (by kernel_rfl) (fun _ _ _ h => h) (Or.inl ⟨by rfl, ?_⟩) (by assumption) ?_; rotate_left; (· (intro V hSV; (obtain ⟨z0, z1, z2, z3, z4, z5, z6, z7, z8, z9, z10, z11, z12, z13, z14, z15, z16, z17, z18, z19, z20⟩ := FA.out V hSV); (first | (go_simp; done) | (go_simp; with_reducible rfl)))); simp only [Act.put, List.setIfInBounds_toArray, List.set_cons_zero, List.set_cons_succ])
        | (refine AnyT.take (i := 23) (v := undef) rfl (by kernel_rfl) (fun _ _ _ h => h) (Or.inr ⟨by rfl, rfl⟩) (by assumption) ?_; simp only [Act.put, List.setIfInBounds_toArray, List.set_cons_zero, List.set_cons_succ])
      refine AnyT.ready (rs := [24]) (by kernel_rfl) (by simp) (ReadyT.cons rfl (fun K hK => ?_) ReadyT.nil)
      go_simp
      refine hK.out _ _ (fun h => absurd h (by simp)) (fun _ => ?_)
      clear hK K
      try simp only [Act.put, List.setIfInBounds_toArray, List.set_cons_zero, List.set_cons_succ]
      refine AnyT.done (by kernel_rfl) ?_ _
      go_wp2_with fail
      go_meet
      case rel => exact ⟨w2, hK2, rfl⟩
  case rest =>
    obtain ⟨V, hV, rfl⟩ := hcut
    obtain ⟨r1', r2, r3, _, _, r4⟩ := fin.out V hV
    have r5 : (V.setCell ⟨ob, 0, none⟩ (.bool true)).cell? ⟨ob, 0, none⟩ = some (.bool true) := r3.at_ 0
    have R1 := Lib.hid r1'
    have R2 := Lib.hid r2
    have R3 := Lib.hid r3
    clear r1' r2 r3 c0n c0o p0 p1 p2 p3 p4 p5 p6 p7 p8 a0 a1 a2 a3 a4 a5 a6 a7 a8 cl ce
    generalize V.setCell ⟨ob, 0, none⟩ (.bool true) = U at *
    go_wp2_with fail
    go_ret
    exact ⟨rfl, R1.out, R2.out, R3.out⟩
end Go.Proofs.YtpmbkeaimdeglaaDoor

