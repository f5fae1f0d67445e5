/-
  slices.Repeat of one 3, eight times; by contract.
  Print, by contract; what Parse and Print answer ('face10').
-/
import Derived.Test.YtcdlchcmidfhiaaGreatDoorRkArg
import Derived.Test.YtcdlchcmidfhiaaGreatDoorTpTell
import Derived.Test.YtcdlchcmidfhiaaGreatDoorTpParse
import Derived.Test.YtcdlchcmidfhiaaGreatDoorPvCheck
import Derived.LoopTactic
import Derived.WalkKit
import Derived.BigGuard
import Derived.BigCall
import Derived.Laws.CopyRow
import Derived.Lib.Hide

namespace Go.Proofs.YtcdlchcmidfhiaaGreatDoor
open Go.RowKit Go.Maps Go.Extern.Stop Go.Stop Go.Extern

set_option maxRecDepth 100000 in
theorem mul_one8 (w : World) : Calls Tryz.prog 31 #[.int .u64 1, .int .u64 8] w fun e w' => e = .returned (.tuple #[.int .u64 0, .int .u64 8]) ∧ w' = w := by
  have L : Hid (∀ V : World, Calls Tryz.prog 55 #[.int .u64 1, .int .u64 8] V fun e w' => e = .returned (.tuple #[.int .u64 0, .int .u64 8]) ∧ w' = V) := Lib.hid fun V => by
    go_enter Tryz.func55, Tryz.ntmps55
    go_wp2_with fail
    go_ret2
    exact ⟨by simp [go_sem]; try rfl, rfl⟩
  go_enter Tryz.func31, Tryz.ntmps31
  go_wp2_with fail
  refine (L.out _).mono ?_
  rintro e w' ⟨rfl, rfl⟩
  go_wp2_with fail
  go_ret2
  exact ⟨rfl, rfl⟩

/-- Eight numbers, the first n of them 3. -/
def C8 (n : Nat) (cur : Array Value) : Prop := cur.size = 8 ∧ ∀ j, j < n → cur[j]? = some (.int .i64 3)
theorem whole_setRow {w : World} {b : Nat} {t : TypeId} {cs : Array Value} (h : Whole w b t cs) (ds : Array Value) : Whole (w.setRow b ds) b t ds := by
  unfold Whole at h ⊢
  simp [World.setRow, Array.getElem?_modify, h]
theorem copy_in {w : World} {b o g m m' n c : Nat} {cur : Array Value} {vs : List Value} (ty : TypeId) (hb : Whole w b 3 cur) (hl : vs.length = n) (h1 : n ≤ m) (hsrc : ∀ j v, vs[j]? = some v → w.cell? ((⟨g, 0, none⟩ : Addr).add j) = some v) (hfit : o + n ≤ cur.size) (hone : ∀ v ∈ vs, v.oneCell' = true) :
    (Builtin.copy_ #[46, 46] ty #[.slice (some ⟨b, o, none⟩) m m', .slice (some ⟨g, 0, none⟩) n c]).run Tryz.prog w = .ok (.int .i64 (n : Int)) (w.setRow b (cur.toList.take o ++ vs ++ cur.toList.drop (o + n)).toArray) := by
  obtain ⟨i, hi, hz, hs, hbb⟩ := info_parts intK.info
  have hl2 := run_loadCells_list (P := Tryz.prog) w ⟨g, 0, none⟩ vs hsrc
  have hst := run_storeCells_at Tryz.prog b o 3 vs 0 cur w hb (by rw [hl]; omega) hone
  rw [hl] at hl2 hst
  have hu : Tryz.prog.underlying 46 = some (.slice 3) := intK.hu
  have hs' : i.size = 1 := hs
  have hi' : Tryz.prog.info? 3 = some i := hi
  have hmin : n.min m = n := Nat.min_eq_left h1
  simp [Builtin.copy_, run_underlying hu, Builtin.lenOf, Builtin.firstCells, sizeOf, typeInfo, hi', hs', hmin, hl2, hst]
  rfl
theorem c8_step {n : Nat} {cur : Array Value} {vs : List Value} {m : Nat} (h : C8 n cur) (hv : vs = List.replicate m (Value.int .i64 3)) (hm : n + m ≤ 8) : C8 (n + m) (cur.toList.take n ++ vs ++ cur.toList.drop (n + m)).toArray := by
  obtain ⟨h1, h2⟩ := h
  subst hv
  refine ⟨by simp; omega, fun j hj => ?_⟩
  have e1 : (cur.toList.take n).length = n := by simp; omega
  rw [List.getElem?_toArray, List.append_assoc]
  rcases Nat.lt_or_ge j n with q | q
  · rw [List.getElem?_append_left (by omega), List.getElem?_take, if_pos q]
    simpa using h2 j q
  · rw [List.getElem?_append_right (by omega), e1, List.getElem?_append_left (by simp; omega), List.getElem?_replicate, if_pos (by omega)]

set_option maxRecDepth 100000 in
set_option maxHeartbeats 1000000 in
theorem rep_any {w : World} {g : Nat} (h : Whole w g 3 #[.int .i64 3]) :
    Calls Tryz.prog 18 #[.slice (some ⟨g, 0, none⟩) 1 1, .int .i64 8] w fun e w' => ∃ b cur, e = .returned (.slice (some ⟨b, 0, none⟩) 8 8) ∧ C8 8 cur ∧ Whole w' b 3 cur ∧ Keeps (fun _ => False) w w' := by
  have CM := Lib.hid (mul_one8)
  obtain ⟨cur, hcs, hmk⟩ := intK.make 8 (by decide) w
  have hmk' : (Instr.makeSlice 46 (.int .i64 8) (.int .i64 8)).run Tryz.prog w = .ok (.slice (some ⟨w.heap.size, 0, none⟩) 8 8) (w.alloc (.cells cur 3)) := hmk
  have hz : cur.size = 8 := hcs
  obtain ⟨W1, hW1⟩ : ∃ V, V = w.alloc (.cells cur 3) := ⟨_, rfl⟩
  have hgw := h.lt
  have B1 : Whole W1 w.heap.size 3 cur := by rw [hW1]; exact Whole.made w _ _
  have G1 : Whole W1 g 3 #[.int .i64 3] := by rw [hW1]; exact h.alloc _
  have K1 : Keeps (fun _ => False) w W1 := by rw [hW1]; exact (Keeps.refl _ w).alloc _
  have CP : ∀ ty, (Builtin.copy_ #[46, 46] ty #[.slice (some ⟨w.heap.size, 0, none⟩) 8 8, .slice (some ⟨g, 0, none⟩) 1 1]).run Tryz.prog W1 = .ok (.int .i64 1) (W1.setRow w.heap.size (cur.toList.take 0 ++ [Value.int .i64 3] ++ cur.toList.drop (0 + 1)).toArray) := fun ty => copy_in (w := W1) (b := w.heap.size) (o := 0) (g := g) (m := 8) (m' := 8) (n := 1) (c := 1) (vs := [Value.int .i64 3]) ty B1 rfl (by decide) (one_cell_new G1) (by omega) (by decide)
  have hc1 := c8_step (n := 0) (m := 1) (vs := [Value.int .i64 3]) (cur := cur) ⟨hz, fun j hj => absurd hj (Nat.not_lt_zero _)⟩ rfl (by decide)
  obtain ⟨cur2, hcur2⟩ : ∃ x, x = (cur.toList.take 0 ++ [Value.int .i64 3] ++ cur.toList.drop (0 + 1)).toArray := ⟨_, rfl⟩
  rw [← hcur2] at CP hc1
  have B2 := Lib.hid (show Whole (W1.setRow w.heap.size cur2) w.heap.size 3 cur2 from whole_setRow B1 cur2)
  have K2 := Lib.hid (show Keeps (fun _ => False) w (W1.setRow w.heap.size cur2) from K1.setRow (fun h => absurd h (Nat.lt_irrefl _)) cur2)
  have H1 := Lib.hid hc1
  have hW1' := Lib.hid hW1
  clear hmk hcs B1 G1 K1 hc1 hcur2 h hgw hW1 hz
  go_enter Tryz.func18, Tryz.ntmps18
  go_wp2_with fail
  refine (CM.out _).mono ?_
  rintro e w' ⟨rfl, hw'⟩
  rw [hw']
  clear hw'
  rw [← hW1'.out] at hmk'
  go_wp2_with fail
  obtain ⟨nb, hnb⟩ : ∃ nb, w.heap.size = nb := ⟨_, rfl⟩
  rw [hnb] at B2 ⊢
  have ltN := Lib.hid hnb
  clear hmk' CP hnb
  go_loopw [8] (fun nv wr => ∃ (n : Nat) (cs : Array Value), nv = .int .i64 (n : Int) ∧ (n = 1 ∨ n = 2 ∨ n = 4 ∨ n = 8) ∧ C8 n cs ∧ Whole wr nb 3 cs ∧ Keeps (fun _ => False) w wr) (fun nv _ => 8 - (intOf nv).toNat)
  case atStart => exact ⟨1, cur2, rfl, .inl rfl, H1.out, B2.out, by have := K2.out; rw [ltN.out] at this; exact this⟩
  case round =>
    obtain ⟨n, cs, rfl, hn, hC, hB, hK⟩ := hrel
    have C1 := Lib.hid hC
    have B3 := Lib.hid hB
    have K3 := Lib.hid hK
    by_cases h8 : n = 8
    · subst h8
      clear hn hC hB hK
      go_wp2_with fail
      go_ret
      exact ⟨nb, cs, rfl, C1.out, B3.out, K3.out⟩
    · have hn' : n = 1 ∨ n = 2 ∨ n = 4 := by omega
      have hle : n ≤ 8 - n := by omega
      have CP : ∀ ty, (Builtin.copy_ #[46, 46] ty #[.slice (some ⟨nb, n, none⟩) (8 - n) (8 - n), .slice (some ⟨nb, 0, none⟩) n 8]).run Tryz.prog wr.drew = .ok (.int .i64 (n : Int)) (wr.drew.setRow nb (cs.toList.take n ++ List.replicate n (Value.int .i64 3) ++ cs.toList.drop (n + n)).toArray) := fun ty => copy_in (w := wr.drew) (b := nb) (o := n) (g := nb) (m := 8 - n) (m' := 8 - n) (n := n) (c := 8) (vs := List.replicate n (Value.int .i64 3)) ty hB.drew (by simp) hle (fun j v hv => by
        rw [List.getElem?_replicate] at hv
        split at hv
        · rename_i hj
          injection hv with hv
          rw [← hv, add_plain _ rfl, Nat.zero_add, hB.drew.at_ j]
          exact hC.2 j hj
        · cases hv) (by rw [hC.1]; omega) (fun v hv => by rw [(List.mem_replicate.1 hv).2]; rfl)
      have hc2 := Lib.hid (c8_step (m := n) hC rfl (by omega))
      obtain ⟨cs2, hcs2⟩ : ∃ x, x = (cs.toList.take n ++ List.replicate n (Value.int .i64 3) ++ cs.toList.drop (n + n)).toArray := ⟨_, rfl⟩
      rw [← hcs2] at CP hc2
      have B4 := Lib.hid (show Whole (wr.drew.setRow nb cs2) nb 3 cs2 from whole_setRow hB.drew cs2)
      have K4 := Lib.hid (show Keeps (fun _ => False) w (wr.drew.setRow nb cs2) from hK.drew.setRow (fun h => by rw [ltN.out] at h; exact absurd h (Nat.lt_irrefl _)) cs2)
      clear hcs2 hle h8 hn hC hB hK
      rcases hn' with rfl | rfl | rfl
      · have CP' : ∀ ty, (Builtin.copy_ #[46, 46] ty #[.slice (some ⟨nb, 1, none⟩) 7 7, .slice (some ⟨nb, 0, none⟩) 1 8]).run Tryz.prog wr.drew = .ok (.int .i64 1) (wr.drew.setRow nb cs2) := CP
        clear CP
        go_wp2_with fail
        go_region
        go_wp2_with fail
        go_roundw
        case rel => exact ⟨2, cs2, rfl, by omega, hc2.out, B4.out, K4.out⟩
        case measure => simp [intOf]
      · have CP' : ∀ ty, (Builtin.copy_ #[46, 46] ty #[.slice (some ⟨nb, 2, none⟩) 6 6, .slice (some ⟨nb, 0, none⟩) 2 8]).run Tryz.prog wr.drew = .ok (.int .i64 2) (wr.drew.setRow nb cs2) := CP
        clear CP
        go_wp2_with fail
        go_region
        go_wp2_with fail
        go_roundw
        case rel => exact ⟨4, cs2, rfl, by omega, hc2.out, B4.out, K4.out⟩
        case measure => simp [intOf]
      · have CP' : ∀ ty, (Builtin.copy_ #[46, 46] ty #[.slice (some ⟨nb, 4, none⟩) 4 4, .slice (some ⟨nb, 0, none⟩) 4 8]).run Tryz.prog wr.drew = .ok (.int .i64 4) (wr.drew.setRow nb cs2) := CP
        clear CP
        go_wp2_with fail
        go_region
        go_wp2_with fail
        go_roundw
        case rel => exact ⟨8, cs2, rfl, by omega, hc2.out, B4.out, K4.out⟩
        case measure => simp [intOf]
end Go.Proofs.YtcdlchcmidfhiaaGreatDoor

namespace Go.Proofs.YtcdlchcmidfhiaaGreatDoor
open Go.RowKit Go.Maps Go.Extern.Stop Go.Stop Go.Extern

theorem below_keeps {B : Nat} {w0 w w' : World} (h : Below B w w') (k : Keeps (fun _ => False) w0 w) (hB : w0.heap.size ≤ B) : Keeps (fun _ => False) w0 w' :=
  ⟨h.os.trans k.os, h.tape.trans k.tape, h.output.trans k.output, Nat.le_trans k.size h.size, fun x hx _ => (h.block x (by omega)).trans (k.block x hx id)⟩
theorem c8_list {w : World} {b : Nat} {cur : Array Value} (h : Whole w b 3 cur) (hc : C8 8 cur) : IntL w (some ⟨b, 0, none⟩) 8 K8 :=
  ⟨rfl, by decide, (fun e => by cases e), fun _ => ⟨b, 0, rfl, fun i x hx => by
    have hi : i < 8 := by have := (List.getElem?_eq_some_iff.1 hx).1; simpa [K8] using this
    have hv : x = 3 := by
      have : ∀ j, j < 8 → K8[j]? = some 3 := by decide
      rw [this i hi] at hx
      exact (Option.some.inj hx).symm
    rw [hv, Nat.zero_add, h.at_ i]
    exact hc.2 i hi⟩⟩

theorem few_right {F : Fo} (h : (right F K8).1 = 0) : F.size ≤ 100 ∧ F.deep ≤ 8 ∧ (textT F).length ≤ 15000 := by
  obtain ⟨h1, h2, _⟩ := within h
  refine ⟨h1, h2, ?_⟩
  rw [text_txt]
  have := txt_few F 0 16 (ok_of_right h) (by omega)
  have h3 : F.size * (3 * 16 + 100) ≤ 100 * (3 * 16 + 100) := Nat.mul_le_mul h1 (Nat.le_refl _)
  omega
theorem no_err {B : Nat} {w : World} {v : Value} {k : Nat} {a : Int} (h : ErrU B w v k a) (hk : k ≠ 0) : ∃ t p, v = .iface t p := by
  rcases h with ⟨q, _⟩ | ⟨_, _, _, q⟩ | ⟨_, _, p, _, q, _⟩
  · exact absurd q hk
  · exact ⟨_, _, q⟩
  · exact ⟨_, _, q⟩

set_option maxRecDepth 100000 in
set_option maxHeartbeats 1000000 in
theorem print_any {w : World} {v : Value} {F : Fo} (hg : GlobT w) (h : SlOf w v F) (hs : F.size ≤ 20000) (hd : F.deep ≤ 20000) : Calls Tryz.prog 9 #[v] w (PrintTo w F) := by
  obtain ⟨W1, hW1⟩ : ∃ V, V = w.alloc (.cells #[.int .i64 3] 3) := ⟨_, rfl⟩
  have K1 := Lib.hid (show Keeps (fun _ => False) w W1 by rw [hW1]; exact (Keeps.refl _ w).alloc _)
  have R1 := Lib.hid (rep_any (w := W1) (g := w.heap.size) (by rw [hW1]; exact Whole.made w _ _))
  have HG := Lib.hid hg
  have H := Lib.hid h
  have hW1' := Lib.hid hW1
  have hs' := Lib.hid hs
  have hd' := Lib.hid hd
  clear hg h hs hd hW1
  go_enter Tryz.func9, Tryz.ntmps9
  go_wp2_with fail
  rw [← hW1'.out]
  refine R1.out.mono ?_
  rintro e w2 ⟨b, cur, rfl, hC, hB, hK⟩
  have K2 := Lib.hid (K1.out.trans hK fun _ _ => id)
  have RC := Lib.hid (right_call (w := w2) (kc := 8) (H.out.same K2.out) (c8_list hB hC) (by decide) hs'.out hd'.out)
  clear hC hB hK R1
  go_wp2_with fail
  refine RC.out.mono ?_
  rintro e w3 ⟨ev, rfl, hE, hK⟩
  have K3 := Lib.hid (K2.out.trans hK fun _ _ => id)
  have E3 := Lib.hid (hE.less K2.out.size)
  clear hK RC
  by_cases hr : (right F K8).1 = 0
  · have hn := hE
    rw [hr] at hn
    obtain rfl := hn.nil
    have HR := Lib.hid hr
    obtain ⟨q1, q2, q3⟩ := few_right hr
    obtain ⟨bb, hbb⟩ : ∃ bb, w3.heap.size = bb := ⟨_, rfl⟩
    obtain ⟨W4, hW4⟩ : ∃ V, V = w3.alloc (.cells #[.pointer none, .slice none 0 0] 52) := ⟨_, rfl⟩
    have K4 := Lib.hid (show Keeps (fun _ => False) w W4 by rw [hW4]; exact K3.out.alloc _)
    have D4 : Bd bb bb [] W4 := .inl ⟨Nat.le_refl _, .slice none 0 0, by rw [hW4, ← hbb]; exact Whole.made w3 _ _, World.ownsRowF_nil .., by simp [Value.ownBlock]⟩
    have zw := Lib.hid (show w.heap.size ≤ bb by rw [← hbb]; exact K3.out.size)
    have z4 : bb ≤ W4.heap.size := Nat.le_of_lt D4.lt
    have TL := Lib.hid (tell_any HG.out F.size F (Nat.le_refl _) W4 v bb bb [] 0 H.out (ok_of_right hr) K4.out zw.out D4 z4 (by omega) (by rw [Nat.mul_zero, ← text_txt]; simp; omega))
    rw [Nat.mul_zero, ← text_txt, List.nil_append] at TL
    have q3' := Lib.hid q3
    have hW4' := Lib.hid hW4
    have z4' := Lib.hid z4
    obtain ⟨T, hT⟩ : ∃ T, textT F = T := ⟨_, rfl⟩
    rw [hT] at TL q3'
    have hT' := Lib.hid hT
    have CB := Lib.hid (fun V => bounded_ok (w := V) T (by have := q3'.out; omega))
    clear hE hn hr q1 q2 q3 hW4 D4 z4 hT
    go_wp2_with fail
    rw [← hW4'.out]
    refine TL.out.mono ?_
    rintro e w5 ⟨rfl, hD, hP⟩
    have K5 := Lib.hid (hP.keeps K4.out zw.out)
    have ST := Lib.hid (bs_any hD (Nat.le_trans z4'.out hP.size))
    clear hD hP TL
    go_wp2_with fail
    refine ST.out.mono ?_
    rintro e w6 ⟨rfl, hB⟩
    have K6 := Lib.hid (below_keeps hB K5.out zw.out)
    clear hB ST
    go_wp2_with fail
    refine (CB.out _).mono ?_
    rintro e w' ⟨rfl, hw'⟩
    rw [hw']
    clear hw'
    go_wp2_with fail
    go_ret2
    exact ⟨K6.out, .inl ⟨HR.out, by rw [hT'.out]; have := q3'.out; omega, by rw [hT'.out]; rfl⟩⟩
  · obtain ⟨t, p, rfl⟩ := no_err hE hr
    have HR := Lib.hid hr
    clear hE hr
    go_wp2_with fail
    go_ret2
    exact ⟨K3.out, .inr (.inr ⟨HR.out, _, rfl, E3.out⟩)⟩

theorem face10 : Face10 := ⟨fun S g h => parse_any S g h, fun g h h1 h2 => print_any g h h1 h2⟩
end Go.Proofs.YtcdlchcmidfhiaaGreatDoor
