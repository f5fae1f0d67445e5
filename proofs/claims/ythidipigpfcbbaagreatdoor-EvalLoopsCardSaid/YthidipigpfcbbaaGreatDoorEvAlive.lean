/-
  concordref11.Same by contract.
  concordlaw11.alive by contract (the chapter's examples).
-/
import Derived.Test.YthidipigpfcbbaaGreatDoorEvFace
import Derived.Test.YthidipigpfcbbaaGreatDoorEvRun

namespace Go.Proofs.YthidipigpfcbbaaGreatDoor
open Go.RowKit Go.Maps Go.Extern.Stop Go.Stop Go.Extern

set_option maxRecDepth 100000 in
theorem rsame11 {w : World} {k l : Int} {a b : Option Addr} {n c m d : Nat} {L M : List Int} (h : IRow w (.slice a n c) L) (h' : IRow w (.slice b m d) M) (few : L.length ≤ 1000000) :
    Calls Tryz.prog 12 #[evalV k (.slice a n c), evalV l (.slice b m d)] w fun e w' => e = .returned (.bool (decide (k = l ∧ L = M))) ∧ Keeps (fun _ => False) w w' := by
  obtain ⟨W1, hW1⟩ : ∃ V, V = (w.alloc (.cells #[.int .i64 k, .slice a n c] 32)).alloc (.cells #[.int .i64 l, .slice b m d] 32) := ⟨_, rfl⟩
  have K1 : Keeps (fun _ => False) w W1 := by rw [hW1]; exact ((Keeps.refl _ w).alloc _).alloc _
  have CN := ni_any (ownsRow_keeps h K1 fun _ _ => id) (ownsRow_keeps h' K1 fun _ _ => id) few
  unfold evalV
  by_cases hk : k = l
  · subst hk
    have b0 : (k == k) = true := by simp
    have eD : decide (k = k ∧ L = M) = decide (L = M) := by simp
    rw [eD]
    have CN := Lib.hid CN
    have K1 := Lib.hid K1
    have hW1' := Lib.hid hW1
    generalize decide (L = M) = q at *
    clear h h' few eD hW1
    go_enter Tryz.func12, Tryz.ntmps12
    go_wp2_with fail
    try rw [← hW1'.out]
    refine CN.out.mono ?_
    rintro e w2 ⟨rfl, hK⟩
    have K2 := Lib.hid (K1.out.trans hK fun _ _ => id)
    clear hK
    go_wp2_with fail
    go_ret
    exact ⟨rfl, K2.out⟩
  · have b0 : (k == l) = false := by simpa using hk
    have eD : decide (k = l ∧ L = M) = false := decide_eq_false fun q => hk q.1
    rw [eD]
    have K1 := Lib.hid (show Keeps (fun _ => False) w ((w.alloc (.cells #[.int .i64 k, .slice a n c] 32)).alloc (.cells #[.int .i64 l, .slice b m d] 32)) by rw [← hW1]; exact K1)
    clear CN h h' few eD hW1
    go_enter Tryz.func12, Tryz.ntmps12
    go_wp2_with fail
    go_ret
    exact ⟨rfl, K1.out⟩
end Go.Proofs.YthidipigpfcbbaaGreatDoor

namespace Go.Proofs.YthidipigpfcbbaaGreatDoor
open Go.RowKit Go.Maps Go.Extern.Stop Go.Stop Go.Extern

def sPut : St7 := ⟨2, 0, 0, 0, 1, 0, 7⟩
def sGet : St7 := ⟨1, 0, 1, 0, 1, 0, 0⟩
def sRetry : St7 := ⟨15, 0, 0, 0, 0, 0, 0⟩
def sOr : St7 := ⟨14, 0, 0, 0, 0, 0, 0⟩
def exA : Fo := .cons sPut .nil .nil (.cons sGet .nil .nil .nil)
def exB : Fo := .cons sOr (.cons sPut .nil .nil (.cons sRetry .nil .nil .nil)) (.cons sGet .nil .nil .nil) .nil
theorem exA_run : (right exA [1]).1 = 0 ∧ (runA (M8.made [1]) exA).2.1 = 0 ∧ (runA (M8.made [1]) exA).1.T = [7] := by decide
theorem exB_run : (right exB [1]).1 = 0 ∧ (runA (M8.made [1]) exB).2.1 = 0 ∧ (runA (M8.made [1]) exB).1.T = [-1] := by decide
theorem lit_row {w : World} {b : Nat} {x : Int} (h : Whole w b 3 #[.int .i64 x]) : IRow w (.slice (some ⟨b, 0, none⟩) 1 1) [x] := row_of intK (l := [x]) h rfl (by omega)

set_option maxRecDepth 100000 in
set_option maxHeartbeats 2000000 in
theorem alive_any11 {w : World} (hg : Glob w) :
    Calls Tryz.prog 9 #[] w fun e w' => e = .returned (.bool true) ∧ Keeps (fun _ => False) w w' := by
  have k1 : Keeps (fun _ => False) w (w.alloc (.cells #[.int .i64 1] 3)) := (Keeps.refl _ w).alloc _
  have il : IntL (w.alloc (.cells #[.int .i64 1] 3)) (some ⟨w.heap.size, 0, none⟩) 1 [1] := ⟨rfl, by decide, (fun e => by cases e), fun _ => ⟨_, _, rfl, fun i x hx => by
    match i, hx with
    | 0, hx => simp at hx; subst hx; exact (Whole.made w 3 #[.int .i64 1]).at_ 0
    | i + 1, hx => simp at hx⟩⟩
  have C1 := Lib.hid (new_on8 (w0 := w) (cap := 1) face il rfl k1)
  have HG := Lib.hid hg
  clear il k1 hg
  go_enter Tryz.func9, Tryz.ntmps9
  go_wp2_with fail
  refine C1.out.mono ?_
  rintro e w2 ⟨s, rfl, hO⟩
  obtain ⟨V1, hV1⟩ : ∃ V, V = (w2.alloc (.cells #[.int .i64 2, .int .i64 0, .int .i64 0, .int .i64 0, .int .i64 1, .int .i64 0, .int .i64 7, .slice none 0 0, .slice none 0 0] 40)).alloc (.cells #[.int .i64 1, .int .i64 0, .int .i64 1, .int .i64 0, .int .i64 1, .int .i64 0, .int .i64 0, .slice none 0 0, .slice none 0 0] 40) := ⟨_, rfl⟩
  have K1 : Keeps (fun _ => False) w2 V1 := by rw [hV1]; exact ((Keeps.refl _ w2).alloc _).alloc _
  have BP : Whole V1 w2.heap.size 40 #[.int .i64 2, .int .i64 0, .int .i64 0, .int .i64 0, .int .i64 1, .int .i64 0, .int .i64 7, .slice none 0 0, .slice none 0 0] := by rw [hV1]; exact (Whole.made _ _ _).alloc _
  have BG : Whole V1 (w2.heap.size + 1) 40 #[.int .i64 1, .int .i64 0, .int .i64 1, .int .i64 0, .int .i64 1, .int .i64 0, .int .i64 0, .slice none 0 0, .slice none 0 0] := by
    rw [hV1]
    have := Whole.made (w2.alloc (.cells #[.int .i64 2, .int .i64 0, .int .i64 0, .int .i64 0, .int .i64 1, .int .i64 0, .int .i64 7, .slice none 0 0, .slice none 0 0] 40)) 40 #[.int .i64 1, .int .i64 0, .int .i64 1, .int .i64 0, .int .i64 1, .int .i64 0, .int .i64 0, .slice none 0 0, .slice none 0 0]
    rwa [World.size_alloc] at this
  obtain ⟨X, hP, hX, hK⟩ := hO
  have KW := Lib.hid (hK.trans K1 fun _ _ => id)
  have PV := Lib.hid (face.same hP K1)
  have C2 : Hid (Calls Tryz.prog 10 #[.pointer (some ⟨s, 0, none⟩), .slice (some ⟨V1.heap.size, 0, none⟩) 2 2] (V1.alloc (.cells (stAgg2 sPut (none, 0, 0) (none, 0, 0) sGet (none, 0, 0) (none, 0, 0)) 40)) fun e w' => Keeps (fun _ => False) (V1.alloc (.cells (stAgg2 sPut (none, 0, 0) (none, 0, 0) sGet (none, 0, 0) (none, 0, 0)) 40)) w' ∧ ∃ t o c, e = .returned (.tuple #[.pointer (some ⟨t, 0, none⟩), evalV 1 (.slice o 1 c), .nilIface]) ∧ IRow w' (.slice o 1 c) [7]) := Lib.hid (by
    have ka : Keeps (fun _ => False) V1 (V1.alloc (.cells (stAgg2 sPut (none, 0, 0) (none, 0, 0) sGet (none, 0, 0) (none, 0, 0)) 40)) := (Keeps.refl _ V1).alloc _
    refine (face11.good_ (A := M8.made [1]) (F := exA) (HG.out.keeps (KW.out.trans ka fun _ _ => id) id) (face.same PV.out ka) (sl_lit2 (Whole.made V1 _ _) (sl_none _) (sl_none _) (sl_none _) (sl_none _) rfl rfl) (by decide) (by decide) exA_run.1 (by rw [exA_run.2.1]; decide)).mono ?_
    rintro e w' ⟨hk, t, Z, tv, rfl, _, _, hr, _, _⟩
    rw [exA_run.2.2] at hr
    obtain ⟨o, c, rfl, _⟩ := row_shape hr
    rw [exA_run.2.1]
    exact ⟨hk, t, o, c, rfl, hr⟩)
  simp only [stAgg2, slv, sPut, sGet] at C2
  have HBP := Lib.hid BP
  have HBG := Lib.hid BG
  have hV1' := Lib.hid hV1
  have p0 := BP.at_ 0
  have p1 := BP.at_ 1
  have p2 := BP.at_ 2
  have p3 := BP.at_ 3
  have p4 := BP.at_ 4
  have p5 := BP.at_ 5
  have p6 := BP.at_ 6
  have p7 := BP.at_ 7
  have p8 := BP.at_ 8
  have g0 := BG.at_ 0
  have g1 := BG.at_ 1
  have g2 := BG.at_ 2
  have g3 := BG.at_ 3
  have g4 := BG.at_ 4
  have g5 := BG.at_ 5
  have g6 := BG.at_ 6
  have g7 := BG.at_ 7
  have g8 := BG.at_ 8
  clear hP hX hK K1 BP BG hV1 C1
  go_upto_region 4 with fail
  rw [← hV1'.out]
  clear hV1'
  go_wp2_with fail
  refine C2.out.mono ?_
  rintro e w3 ⟨hk, t, o, c, rfl, hr⟩
  unfold evalV
  clear C2 p0 p1 p2 p3 p4 p5 p6 p7 p8 g0 g1 g2 g3 g4 g5 g6 g7 g8
  obtain ⟨U, hU⟩ : ∃ V, V = w3.alloc (.cells #[.int .i64 1, .slice o 1 c] 32) := ⟨_, rfl⟩
  have KU : Keeps (fun _ => False) w3 U := by rw [hU]; exact (Keeps.refl _ w3).alloc _
  have BE : Hid (Whole U w3.heap.size 32 #[.int .i64 1, .slice o 1 c]) := Lib.hid (by rw [hU]; exact Whole.made _ _ _)
  have KV : Keeps (fun _ => False) V1 U := ((Keeps.refl (fun _ => False) V1).alloc _).trans (hk.trans KU fun _ _ => id) fun _ _ => id
  have hU' := Lib.hid hU
  have T7 := Lib.hid (ownsRow_keeps hr KU fun _ _ => id)
  have KWU := Lib.hid (KW.out.trans KV fun _ _ => id)
  have PU := Lib.hid (face.same PV.out KV)
  have BP := HBP.out.keeps KV id
  have BG := HBG.out.keeps KV id
  have p0 := BP.at_ 0
  have p1 := BP.at_ 1
  have p2 := BP.at_ 2
  have p3 := BP.at_ 3
  have p4 := BP.at_ 4
  have p5 := BP.at_ 5
  have p6 := BP.at_ 6
  have p7 := BP.at_ 7
  have p8 := BP.at_ 8
  have HBG2 := Lib.hid BG
  obtain ⟨U1, hU1⟩ : ∃ V, V = U.alloc (.cells (stAgg2 sPut (none, 0, 0) (none, 0, 0) sRetry (none, 0, 0) (none, 0, 0)) 40) := ⟨_, rfl⟩
  have KU1 : Keeps (fun _ => False) U U1 := by rw [hU1]; exact (Keeps.refl _ U).alloc _
  have BU1 : Whole U1 U.heap.size 40 (stAgg2 sPut (none, 0, 0) (none, 0, 0) sRetry (none, 0, 0) (none, 0, 0)) := by rw [hU1]; exact Whole.made _ _ _
  obtain ⟨U2, hU2⟩ : ∃ V, V = U1.alloc (.cells (stAgg sGet (none, 0, 0) (none, 0, 0)) 40) := ⟨_, rfl⟩
  have KU2 : Keeps (fun _ => False) U1 U2 := by rw [hU2]; exact (Keeps.refl _ U1).alloc _
  have BU2 : Whole U2 U1.heap.size 40 (stAgg sGet (none, 0, 0) (none, 0, 0)) := by rw [hU2]; exact Whole.made _ _ _
  have C3 : Hid (Calls Tryz.prog 10 #[.pointer (some ⟨s, 0, none⟩), .slice (some ⟨U2.heap.size, 0, none⟩) 1 1] (U2.alloc (.cells (stAgg sOr (some ⟨U.heap.size, 0, none⟩, 2, 2) (some ⟨U1.heap.size, 0, none⟩, 1, 1)) 40)) fun e w' => Keeps (fun _ => False) (U2.alloc (.cells (stAgg sOr (some ⟨U.heap.size, 0, none⟩, 2, 2) (some ⟨U1.heap.size, 0, none⟩, 1, 1)) 40)) w' ∧ ∃ t o c, e = .returned (.tuple #[.pointer (some ⟨t, 0, none⟩), evalV 1 (.slice o 1 c), .nilIface]) ∧ IRow w' (.slice o 1 c) [-1]) := Lib.hid (by
    have ka : Keeps (fun _ => False) U2 (U2.alloc (.cells (stAgg sOr (some ⟨U.heap.size, 0, none⟩, 2, 2) (some ⟨U1.heap.size, 0, none⟩, 1, 1)) 40)) := (Keeps.refl _ U2).alloc _
    have kb := KU1.trans (KU2.trans ka fun _ _ => id) fun _ _ => id
    refine (face11.good_ (A := M8.made [1]) (F := exB) (HG.out.keeps (KWU.out.trans kb fun _ _ => id) id) (face.same PU.out kb) (sl_lit (Whole.made U2 _ _) (sl_lit2 (BU1.keeps (KU2.trans ka fun _ _ => id) id) (sl_none _) (sl_none _) (sl_none _) (sl_none _) rfl rfl) (sl_lit (BU2.keeps ka id) (sl_none _) (sl_none _) rfl) rfl) (by decide) (by decide) exB_run.1 (by rw [exB_run.2.1]; decide)).mono ?_
    rintro e w' ⟨hk, t, Z, tv, rfl, _, _, hr, _, _⟩
    rw [exB_run.2.2] at hr
    obtain ⟨o, c, rfl, _⟩ := row_shape hr
    rw [exB_run.2.1]
    exact ⟨hk, t, o, c, rfl, hr⟩)
  have q := HBG2.out.keeps KU1 id
  have g0 := q.at_ 0
  have g1 := q.at_ 1
  have g2 := q.at_ 2
  have g3 := q.at_ 3
  have g4 := q.at_ 4
  have g5 := q.at_ 5
  have g6 := q.at_ 6
  have g7 := q.at_ 7
  have g8 := q.at_ 8
  have KUU := Lib.hid (KU1.trans KU2 fun _ _ => id)
  have hU1' := hU1
  have hU2' := hU2
  simp only [stAgg2, stAgg, slv, sPut, sGet, sRetry, sOr] at C3 hU1' hU2'
  rw [hU1'] at g0 g1 g2 g3 g4 g5 g6 g7 g8 hU2'
  rw [hU2', hU1'] at C3
  simp only [World.size_alloc] at C3
  clear hr hk hU KU KV BP BG q hU1 hU2 KU1 KU2 BU1 BU2
  go_upto_region 5 with fail
  rw [← hU'.out]
  clear hU'
  go_wp2_with fail
  refine C3.out.mono ?_
  rintro e w4 ⟨hk, t2, o2, c2, rfl, hr⟩
  unfold evalV
  have k4 : Keeps (fun _ => False) U w4 := ((((Keeps.refl (fun _ => False) U).alloc _).alloc _).alloc _).trans hk fun _ _ => id
  obtain ⟨U5, hU5⟩ : ∃ V, V = w4.alloc (.cells #[.int .i64 1, .slice o2 1 c2] 32) := ⟨_, rfl⟩
  have K5 : Keeps (fun _ => False) w4 U5 := by rw [hU5]; exact (Keeps.refl _ w4).alloc _
  have E5 : Hid (Whole U5 w4.heap.size 32 #[.int .i64 1, .slice o2 1 c2]) := Lib.hid (by rw [hU5]; exact Whole.made _ _ _)
  have kU5 := k4.trans K5 fun _ _ => id
  have BE5 := Lib.hid (BE.out.keeps kU5 id)
  have TA := Lib.hid (ownsRow_keeps T7.out kU5 fun _ _ => id)
  have TB := Lib.hid (ownsRow_keeps hr K5 fun _ _ => id)
  have KW5 := Lib.hid (KWU.out.trans kU5 fun _ _ => id)
  have k6 : Keeps (fun _ => False) U5 (U5.alloc (.cells #[.int .i64 7] 3)) := (Keeps.refl _ U5).alloc _
  have CS : Hid (Calls Tryz.prog 12 #[evalV 1 (.slice o 1 c), evalV 1 (.slice (some ⟨U5.heap.size, 0, none⟩) 1 1)] (U5.alloc (.cells #[.int .i64 7] 3)) fun e w' => e = .returned (.bool true) ∧ Keeps (fun _ => False) (U5.alloc (.cells #[.int .i64 7] 3)) w') := Lib.hid (by
    have := rsame11 (k := 1) (l := 1) (ownsRow_keeps TA.out k6 fun _ _ => id) (lit_row (Whole.made U5 _ _)) (by decide)
    simpa using this)
  unfold evalV at CS
  have d0 := BE5.out.at_ 0
  have d1 := BE5.out.at_ 1
  have hU5' := Lib.hid hU5
  clear hk hr k4 K5 kU5 hU5 k6 C3 p0 p1 p2 p3 p4 p5 p6 p7 p8 g0 g1 g2 g3 g4 g5 g6 g7 g8 hU1' hU2'
  go_upto_region 6 with fail
  rw [← hU5'.out]
  clear hU5'
  go_wp2_with (first
    | (go_at_call 11; refine (no_nil _).mono ?_; rintro e w' ⟨rfl, rfl⟩))
  refine CS.out.mono ?_
  rintro e w6 ⟨rfl, hk⟩
  have k6 : Keeps (fun _ => False) U5 w6 := ((Keeps.refl (fun _ => False) U5).alloc _).trans hk fun _ _ => id
  have CT : Hid (Calls Tryz.prog 12 #[evalV 1 (.slice o2 1 c2), evalV 1 (.slice (some ⟨w6.heap.size, 0, none⟩) 1 1)] (w6.alloc (.cells #[.int .i64 (-1)] 3)) fun e w' => e = .returned (.bool true) ∧ Keeps (fun _ => False) (w6.alloc (.cells #[.int .i64 (-1)] 3)) w') := Lib.hid (by
    have := rsame11 (k := 1) (l := 1) (ownsRow_keeps TB.out (k6.alloc (.cells #[.int .i64 (-1)] 3)) fun _ _ => id) (lit_row (Whole.made w6 3 #[.int .i64 (-1)])) (by decide)
    simpa using this)
  unfold evalV at CT
  have E6 := E5.out.keeps k6 id
  have d2 := E6.at_ 0
  have d3 := E6.at_ 1
  have KW6 := Lib.hid (KW5.out.trans k6 fun _ _ => id)
  clear hk k6 CS E6
  go_wp2_with fail
  refine CT.out.mono ?_
  rintro e w7 ⟨rfl, hk⟩
  have KW7 := Lib.hid (KW6.out.trans (((Keeps.refl (fun _ => False) w6).alloc _).trans hk fun _ _ => id) fun _ _ => id)
  clear hk CT
  go_wp2_with fail
  go_ret
  exact ⟨rfl, KW7.out⟩
end Go.Proofs.YthidipigpfcbbaaGreatDoor
