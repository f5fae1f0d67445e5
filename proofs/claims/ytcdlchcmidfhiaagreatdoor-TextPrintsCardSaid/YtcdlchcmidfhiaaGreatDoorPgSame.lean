/-
  concordref09.Same by contract, of what reads as the same.
-/
import Derived.Test.YtcdlchcmidfhiaaGreatDoorPgRef2
import Derived.Laws.StructEq
namespace Go.Proofs.YtcdlchcmidfhiaaGreatDoor
open Go.RowKit Go.Extern.Stop Go.Stop Go.Extern

theorem arg_held : Tryz.prog.stoodInHeld 43 = false := by kernel_rfl
theorem arg_guard : Tryz.prog.eqGuardType Tryz.prog.depth 43 = false := by kernel_rfl
theorem arg_list : ((Tryz.prog.fieldsOf 43).toList.map fun f => (f.type, f.offset, f.name == "_")) = [(3, 0, false), (3, 1, false)] := by kernel_rfl

theorem eqIn_arg (w : World) (a b c d : Int) : (Op.equalIn 10000 43 (.agg #[.int .i64 a, .int .i64 b]) (.agg #[.int .i64 c, .int .i64 d])).run Tryz.prog w = .ok (a == c && b == d) w := by
  rw [run_equalIn_agg w 9999 _ _ _ ar_fields arg_held]
  have h := arg_list
  generalize (Tryz.prog.fieldsOf 43).toList = fs at h ⊢
  obtain ⟨f, g, rfl⟩ : ∃ f g, fs = [f, g] := by
    have hl := congrArg List.length h
    rw [List.length_map] at hl
    match fs, hl with
    | [f, g], _ => exact ⟨f, g, rfl⟩
    | [], hl => simp at hl
    | [_], hl => simp at hl
    | _ :: _ :: _ :: _, hl => simp at hl
  simp only [List.map_cons, List.map_nil, List.cons.injEq, Prod.mk.injEq, and_true] at h
  obtain ⟨⟨f1, f2, f3⟩, g1, g2, g3⟩ := h
  have uI := Tryz.underlying3
  by_cases h1 : a = c
  · by_cases h2 : b = d
    · simp [Op.eqFields, f1, f2, g1, g2, beq_eq_false_iff_ne.1 f3, beq_eq_false_iff_ne.1 g3, part, go_sem, h1, h2]
    · simp [Op.eqFields, f1, f2, g1, g2, beq_eq_false_iff_ne.1 f3, beq_eq_false_iff_ne.1 g3, part, go_sem, h1, h2]
  · simp [Op.eqFields, f1, f2, beq_eq_false_iff_ne.1 f3, part, go_sem, h1]
theorem made_2 (w : World) (o : Obj) (t : TypeId) (cs : Array Value) : Whole ((w.alloc o).alloc (.cells cs t)) (w.heap.size + 1) t cs := by
  have := Whole.made (w.alloc o) t cs
  rwa [World.size_alloc] at this

set_option maxRecDepth 100000 in
set_option maxHeartbeats 4000000 in
theorem same_yes9 : ∀ (N : Nat) (F : Fo), F.size ≤ N → ∀ (w : World) (v u : Value), SlOf w v F → SlOf w u F → F.size ≤ 20000 →
    Calls Tryz.prog 14 #[v, u] w fun e w' => e = .returned (.bool true) ∧ Keeps (fun _ => False) w w' := by
  intro N
  induction N using Nat.strongRecOn with
  | _ N ih =>
    intro F hN w v u h h' few
    have it := Lib.hid (fun i (hi : i < F.len) => h.item hi)
    have it' := Lib.hid (fun i (hi : i < F.len) => h'.item hi)
    obtain ⟨a, c, rfl, hfit⟩ := h.fit
    obtain ⟨a', c', rfl, _⟩ := h'.fit
    have IH := Lib.hid (fun G (hG : G.size < F.size) (V : World) (q u : Value) (hq : SlOf V q G) (hu : SlOf V u G) => ih G.size (by omega) G (Nat.le_refl _) V q u hq hu (by omega))
    have hle := Fo.len_le_size F
    obtain ⟨n, hn⟩ : ∃ n, F.len = n := ⟨_, rfl⟩
    rw [hn] at hfit it it' hle
    have hn' := Lib.hid (show F.items.length = n from hn)
    have hn5 : (n : Int) ≤ 20000 := by omega
    have hb0 : ((n : Int) != (n : Int)) = false := by simp
    clear ih h h' hn hfit few hle hN
    rw [show F.len = n from hn'.out]
    go_enter Tryz.func14, Tryz.ntmps14
    go_wp2_with fail
    go_loopw [5] (fun iv wr => ∃ i : Nat, iv = .int .i64 i ∧ i ≤ n ∧ Keeps (fun _ => False) w wr) (fun iv _ => n - (intOf iv).toNat)
    case atStart => exact ⟨0, rfl, Nat.zero_le _, Keeps.refl _ _⟩
    case round =>
      obtain ⟨i, rfl, hi, hK⟩ := hrel
      have K1 := Lib.hid hK
      by_cases hlt : i < n
      · have b1 : (i : Int) < (n : Int) := by omega
        obtain ⟨b, o, c2, s, B, E, hv, hx, hat⟩ := it.out i hlt
        injection hv with hv _ hc
        subst hv
        subst hc
        obtain ⟨b', o', c3, s', B', E', hv, hx', hat'⟩ := it'.out i hlt
        injection hv with hv _ hc
        subst hv
        subst hc
        rw [hx] at hx'
        injection hx' with hx'
        injection hx' with e1 e2
        injection e2 with e2 e3
        subst e1
        subst e2
        subst e3
        have sz := Fo.item_size hx
        obtain ⟨h7, ⟨vB, cB, oB⟩, ⟨vE, cE, oE⟩⟩ := hat
        obtain ⟨h7', ⟨vB', cB', oB'⟩, ⟨vE', cE', oE'⟩⟩ := hat'
        obtain ⟨xB, rfl, -⟩ := oB.plain
        obtain ⟨xE, rfl, -⟩ := oE.plain
        obtain ⟨xB', rfl, -⟩ := oB'.plain
        obtain ⟨xE', rfl, -⟩ := oE'.plain
        have IB := Lib.hid (fun V (k : Keeps (fun _ => False) w V) => IH.out B (by omega) V _ _ (oB.same k) (oB'.same k))
        have IE := Lib.hid (fun V (k : Keeps (fun _ => False) w V) => IH.out E (by omega) V _ _ (oE.same k) (oE'.same k))
        have g7 := h7.keeps K1.out fun _ _ => id
        have g7' := h7'.keeps K1.out fun _ _ => id
        have f0 := g7.k
        have f1 := g7.c
        have f2 := g7.r
        have f3 := g7.ar
        have f4 := g7.an
        have f5 := g7.br
        have f6 := g7.bn
        have f7 := (K1.out.cell (cell_lt cB) id).trans cB
        have f8 := (K1.out.cell (cell_lt cE) id).trans cE
        have d0 := g7'.k
        have d1 := g7'.c
        have d2 := g7'.r
        have d3 := g7'.ar
        have d4 := g7'.an
        have d5 := g7'.br
        have d6 := g7'.bn
        have d7 := (K1.out.cell (cell_lt cB') id).trans cB'
        have d8 := (K1.out.cell (cell_lt cE') id).trans cE'
        have lb : b < wr.heap.size := Nat.lt_of_lt_of_le (cell_lt h7.k) K1.out.size
        have lb' : b' < wr.heap.size := Nat.lt_of_lt_of_le (cell_lt h7'.k) K1.out.size
        obtain ⟨k, c, r1, ar, an, br, bn⟩ := s
        simp only at f0 f1 f2 f3 f4 f5 f6 d0 d1 d2 d3 d4 d5 d6
        unfold slv at f7 f8 d7 d8 IB IE
        clear h7 h7' g7 g7' hx oB oE oB' oE' cB cE cB' cE' sz hK
        obtain ⟨xB1, xB2, xB3⟩ := xB
        obtain ⟨xE1, xE2, xE3⟩ := xE
        obtain ⟨yB1, yB2, yB3⟩ := xB'
        obtain ⟨yE1, yE2, yE3⟩ := xE'
        simp only at f7 f8 d7 d8 IB IE
        go_upto_region 6 with fail
        go_cut [6, 7] from 19 to 26 (fun p q wx => ∃ g g', p = .pointer (some ⟨g, 0, none⟩) ∧ q = .pointer (some ⟨g', 0, none⟩) ∧ Whole wx g 45 #[.int .i64 k, .int .i64 c, .int .i64 r1, .int .i64 ar, .int .i64 an, .int .i64 br, .int .i64 bn, .slice xB1 xB2 xB3, .slice xE1 xE2 xE3] ∧ Whole wx g' 45 #[.int .i64 k, .int .i64 c, .int .i64 r1, .int .i64 ar, .int .i64 an, .int .i64 br, .int .i64 bn, .slice yB1 yB2 yB3, .slice yE1 yE2 yE3] ∧ Keeps (fun _ => False) wr wx)
        case first =>
          go_region
          all_goals
            go_wp2_with fail
            go_meet
            case rel =>
              first
                | exact ⟨_, _, rfl, rfl, ((Whole.made wr _ _).alloc _).drew, (made_2 wr _ _ _).drew, (((Keeps.refl _ wr).alloc _).alloc _).drew⟩
                | exact ⟨_, _, rfl, rfl, (made_2 wr _ _ _).drew, ((Whole.made wr _ _).alloc _).drew, (((Keeps.refl _ wr).alloc _).alloc _).drew⟩
        case rest =>
          obtain ⟨g, g', rfl, rfl, w1, w2, hk⟩ := hcut
          have K2 := Lib.hid (K1.out.trans hk fun _ _ => id)
          have W1 := Lib.hid w1
          have W2 := Lib.hid w2
          have ax : ∀ V : World, Keeps (fun _ => False) wc V → V.cell? ⟨g, 7, none⟩ = some (.slice xB1 xB2 xB3) ∧ V.cell? ⟨g', 7, none⟩ = some (.slice yB1 yB2 yB3) ∧ V.cell? ⟨g, 8, none⟩ = some (.slice xE1 xE2 xE3) ∧ V.cell? ⟨g', 8, none⟩ = some (.slice yE1 yE2 yE3) := fun V kV => ⟨(w1.keeps kV id).at_ 7, (w2.keeps kV id).at_ 7, (w1.keeps kV id).at_ 8, (w2.keeps kV id).at_ 8⟩
          have AX := Lib.hid ax
          obtain ⟨l7, l7', l8, l8'⟩ := ax wc (Keeps.refl _ _)
          have l0 : wc.cell? ⟨g, 0, none⟩ = some (.int .i64 k) := w1.at_ 0
          have l1 : wc.cell? ⟨g, 1, none⟩ = some (.int .i64 c) := w1.at_ 1
          have l2 : wc.cell? ⟨g, 2, none⟩ = some (.int .i64 r1) := w1.at_ 2
          have l3 : wc.cell? ⟨g, 3, none⟩ = some (.int .i64 ar) := w1.at_ 3
          have l4 : wc.cell? ⟨g, 4, none⟩ = some (.int .i64 an) := w1.at_ 4
          have l5 : wc.cell? ⟨g, 5, none⟩ = some (.int .i64 br) := w1.at_ 5
          have l6 : wc.cell? ⟨g, 6, none⟩ = some (.int .i64 bn) := w1.at_ 6
          have m0 : wc.cell? ⟨g', 0, none⟩ = some (.int .i64 k) := w2.at_ 0
          have m1 : wc.cell? ⟨g', 1, none⟩ = some (.int .i64 c) := w2.at_ 1
          have m2 : wc.cell? ⟨g', 2, none⟩ = some (.int .i64 r1) := w2.at_ 2
          have m3 : wc.cell? ⟨g', 3, none⟩ = some (.int .i64 ar) := w2.at_ 3
          have m4 : wc.cell? ⟨g', 4, none⟩ = some (.int .i64 an) := w2.at_ 4
          have m5 : wc.cell? ⟨g', 5, none⟩ = some (.int .i64 br) := w2.at_ 5
          have m6 : wc.cell? ⟨g', 6, none⟩ = some (.int .i64 bn) := w2.at_ 6
          have hE := eqIn_arg
          have hg := arg_guard
          have e0 : (k != k) = false := by simp
          have e1 : (c != c) = false := by simp
          have e2 : (r1 != r1) = false := by simp
          have e3 : (ar == ar) = true := by simp
          have e4 : (an == an) = true := by simp
          have e5 : (br == br) = true := by simp
          have e6 : (bn == bn) = true := by simp
          clear w1 w2 ax f0 f1 f2 f3 f4 f5 f6 f7 f8 d0 d1 d2 d3 d4 d5 d6 d7 d8 lb lb' it it'
          go_wp2_with fail
          refine (IB.out _ K2.out).mono ?_
          rintro e w3 ⟨rfl, hK⟩
          have K3 := Lib.hid (K2.out.trans hK fun _ _ => id)
          obtain ⟨_, _, n8, n8'⟩ := AX.out w3 hK
          have J3 := Lib.hid hK
          clear hK
          go_wp2_with fail
          refine (IE.out _ K3.out).mono ?_
          rintro e w4 ⟨rfl, hK⟩
          have K4 := Lib.hid (K3.out.trans hK fun _ _ => id)
          clear hK
          go_wp2_with fail
          go_roundw
          case rel => exact ⟨i + 1, by go_num, by omega, K4.out⟩
          case measure => simp [intOf]; omega
      · obtain rfl : i = n := by omega
        have b1 : ¬ (i : Int) < (i : Int) := by omega
        go_wp2_with fail
        go_ret
        exact ⟨rfl, K1.out⟩
end Go.Proofs.YtcdlchcmidfhiaaGreatDoor
