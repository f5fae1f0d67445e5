/-
  prog.Colls by contract.
-/
import Derived.Test.YtpmbkeaimdeglaaDoorPvSorts
import Derived.Test.YtpmbkeaimdeglaaDoorPvTaken
import Derived.Test.YtpmbkeaimdeglaaDoorPvOver
import Derived.Test.YtpmbkeaimdeglaaDoorPvSmall
import Derived.Test.YtpmbkeaimdeglaaDoorPgColls
namespace Go.Proofs.YtpmbkeaimdeglaaDoor
open Go.RowKit Go.Extern.Stop Go.Stop Go.Extern

/-- The collections that lines name, in their order. -/
def nameds (L : List Ln) : List Int := (L.filter fun l => names l.s).map fun l => l.s.c
theorem nameds_snoc (L : List Ln) (l : Ln) : nameds (L ++ [l]) = if names l.s then nameds L ++ [l.s.c] else nameds L := by
  unfold nameds
  rw [List.filter_append, List.map_append]
  cases h : names l.s <;> simp [h]
theorem nameds_len (L : List Ln) : (nameds L).length ≤ L.length := by
  unfold nameds
  rw [List.length_map]
  exact List.length_filter_le _ _
theorem nameds_mem (L : List Ln) (x : Int) : x ∈ nameds L ↔ Named L x := by
  unfold nameds Named
  rw [List.mem_map]
  constructor
  · rintro ⟨l, hl, e⟩
    rw [List.mem_filter] at hl
    exact ⟨l, hl.1, hl.2, e⟩
  · rintro ⟨l, hl, hn, e⟩
    exact ⟨l, List.mem_filter.2 ⟨hl, hn⟩, e⟩

set_option maxRecDepth 100000 in
set_option maxHeartbeats 1000000 in
theorem colls1_any {W : World} {n d : Int} (s : St7) (b e : Sl) {cb : Nat} {u : Value} {C : List Int} (h : Whole W cb 23 #[u]) (hM : IRow W u C) (few : C.length ≤ 5000) :
    Calls Tryd.prog 35 #[.int .i64 n, .int .i64 d, .agg (stAgg s b e), .pointer (some ⟨cb, 0, none⟩)] W fun e' W' => e' = .returned (.bool true) ∧ ∃ u', Whole W' cb 23 #[u'] ∧ IRow W' u' (if names s then C ++ [s.c] else C) ∧ Keeps (fun x => x = cb ∨ u.ownBlock = some x) W W' ∧ ∀ g, u'.ownBlock = some g → u.ownBlock = some g ∨ W.heap.size ≤ g := by
  have CT := Lib.hid (fun V => taken_any (w := V) s.k)
  unfold tks at CT
  have e0 : decide (1 ≤ s.k ∧ s.k ≤ 8) = names s := rfl
  rw [e0] at CT
  generalize names s = b0 at *
  generalize decide (s.k = 6 ∨ s.k = 7) = b1 at *
  generalize inL s.k [1, 4, 5, 6, 7, 9, 10] = b2 at *
  generalize inL s.k [1, 2, 3, 4, 6, 7, 9, 10, 11] = b3 at *
  generalize inL s.k [2, 7, 10, 11] = b4 at *
  generalize decide (s.k = 12) = b5 at *
  generalize decide (11 ≤ s.k ∧ s.k ≤ 14) = b6 at *
  generalize decide (s.k = 11 ∨ s.k = 14) = b7 at *
  generalize decide (1 ≤ s.k ∧ s.k ≤ 16) = kk at *
  clear e0
  obtain ⟨k, c, r, ar, an, br, bn⟩ := s
  obtain ⟨x1, x2, x3⟩ := b
  obtain ⟨y1, y2, y3⟩ := e
  unfold stAgg slv
  simp only at CT ⊢
  obtain ⟨uo, uc, rfl, _⟩ := row_shape hM
  obtain ⟨m, hm⟩ : ∃ m, C.length = m := ⟨_, rfl⟩
  rw [hm] at few
  have HM : Hid (intK.Row W (.slice uo m uc) C) := Lib.hid (by rw [← hm]; exact hM)
  have HB : Hid (Whole W cb 23 #[.slice uo m uc]) := Lib.hid (by rw [← hm]; exact h)
  have hl := Lib.hid hm
  rw [hm]
  clear h hM hm
  go_enter Tryd.func35, Tryd.ntmps35
  go_wp2_with fail
  refine (CT.out _).mono ?_
  rintro e w2 ⟨rfl, hK⟩
  have K2 := Lib.hid (((Keeps.refl (fun _ => False) W).alloc _).trans hK fun _ _ => id)
  have S2 := Lib.hid ((Whole.made W 42 #[.int .i64 k, .int .i64 c, .int .i64 r, .int .i64 ar, .int .i64 an, .int .i64 br, .int .i64 bn, .slice x1 x2 x3, .slice y1 y2 y3]).keeps hK id)
  clear hK CT
  go_upto_region 2 with fail
  obtain ⟨W3, hW3⟩ : ∃ V, V = w2.alloc (.cells #[.bool b0, .bool b1, .bool b2, .bool b3, .bool b4, .bool b5, .bool b6, .bool b7] 62) := ⟨_, rfl⟩
  have k3 : Keeps (fun _ => False) w2 W3 := by rw [hW3]; exact (Keeps.refl _ w2).alloc _
  have T3 : Whole W3 w2.heap.size 62 #[.bool b0, .bool b1, .bool b2, .bool b3, .bool b4, .bool b5, .bool b6, .bool b7] := by rw [hW3]; exact Whole.made _ _ _
  have S3 := S2.out.keeps k3 id
  have K3 := Lib.hid (K2.out.trans k3 fun _ _ => id)
  have t0 : W3.cell? ⟨w2.heap.size, 0, none⟩ = some (.bool b0) := T3.at_ 0
  have s1 : W3.cell? ⟨W.heap.size, 1, none⟩ = some (.int .i64 c) := S3.at_ 1
  have B3 := HB.out.keeps K3.out id
  have c0 : W3.cell? ⟨cb, 0, none⟩ = some (.slice uo m uc) := B3.at_ 0
  have R3 := Lib.hid (ownsRow_keeps HM.out K3.out fun _ _ => id)
  have l1 := S3.lt
  have l2 := T3.lt
  have l3 := B3.lt
  have B3 := Lib.hid B3
  rw [← hW3]
  clear hW3 T3 S3 k3
  cases b0 with
  | false =>
    go_wp2_with fail
    go_ret
    refine ⟨rfl, .slice uo m uc, B3.out, by simpa using R3.out, K3.out.mono fun _ _ => False.elim, fun g hg => .inl hg⟩
  | true =>
    have R4 : Hid (intK.Row (W3.alloc (.cells #[.int .i64 c] 3)) (.slice uo m uc) C) := Lib.hid (ownsRow_keeps R3.out ((Keeps.refl (fun _ => False) W3).alloc _) fun _ _ => id)
    go_wp2_with (at_builtin; refine wpList_append_k intK _ rfl _ _ rfl (.slice uo m uc) C [c] rfl R4.out ⟨W3.heap.size, 0, none⟩ 1 _ rfl rfl (one_cell_new (v := .int .i64 c) (Whole.made W3 3 #[.int .i64 c])) (m + 1) (by rw [hl.out]) (by omega) ?_; intro ao cap w4 hR hG hL; have R5 := Lib.hid hR; have L5 := Lib.hid hL; have K5 : Hid (Keeps (fun x => (Value.slice uo m uc).ownBlock = some x) W3 w4) := Lib.hid (((Keeps.refl _ W3).alloc _).grown hG fun k hk _ => hk); have B5 := Lib.hid (B3.out.keeps K5.out (row_ne R3.out B3.out (by decide))); have d0 : w4.frozen? ⟨cb, 0, none⟩ = false := B5.out.free 0; have d1 : w4.cell? ⟨cb, 0, none⟩ = some (.slice uo m uc) := B5.out.at_ 0; clear hR hG hL)
    go_ret
    have hS : Keeps (fun x => x = cb) w4 (w4.setCell ⟨cb, 0, none⟩ (.slice ao (m + 1) cap)) := (Keeps.refl (fun x => x = cb) w4).setCell (p := ⟨cb, 0, none⟩) (fun _ => rfl) _
    refine ⟨rfl, .slice ao (m + 1) cap, B5.out.set_ 0 _, ?_, ?_, ?_⟩
    · have := ownsRow_keeps R5.out hS fun g hg e => by subst e; exact row_ne R5.out B5.out (by decide) hg
      exact this
    · exact ((K3.out.mono fun _ _ => False.elim : Keeps (fun x => x = cb ∨ (Value.slice uo m uc).ownBlock = some x) W W3).trans K5.out fun x _ hx => .inr hx).trans hS fun x _ hx => .inl hx
    · intro g hg
      rcases L5.out with e | e
      · exact .inl (by rw [← e]; exact hg)
      · right
        rw [e] at hg
        injection hg with hg
        have h1 := K3.out.size
        rw [World.size_alloc] at hg
        omega

set_option maxRecDepth 100000 in
set_option maxHeartbeats 1000000 in
theorem colls_call {w : World} {v : Value} {F : Fo} (h : SlOf w v F) (few : F.size ≤ 600) (hd : F.deep ≤ 40) :
    Calls Tryd.prog 19 #[v] w fun e w' => ∃ u C, e = .returned u ∧ IRow w' u C ∧ Up C ∧ (∀ x, x ∈ C ↔ Named (lin F 1) x) ∧ Keeps (fun _ => False) w w' := by
  obtain ⟨W1, hW1⟩ : ∃ V, V = w.alloc (.cells #[.slice none 0 0] 23) := ⟨_, rfl⟩
  have K1 : Keeps (fun _ => False) w W1 := by rw [hW1]; exact (Keeps.refl _ w).alloc _
  have M1 : Whole W1 w.heap.size 23 #[.slice none 0 0] := by rw [hW1]; exact Whole.made _ _ _
  have s1 : W1.heap.size = w.heap.size + 1 := by rw [hW1, World.size_alloc]
  have hll := lin_len F 1
  have LK : Look w W1.heap.size (lin F 1) 35 #[.pointer (some ⟨w.heap.size, 0, none⟩)]
      (fun i Z W => ∃ u, (Z = fun x => x = w.heap.size ∨ u.ownBlock = some x) ∧ Whole W w.heap.size 23 #[u] ∧ IRow W u (nameds ((lin F 1).take i)) ∧ ∀ g, u.ownBlock = some g → w.heap.size ≤ g) (fun _ => False) :=
    { enters := enters_of Tryd.func35 (by kernel_rfl) rfl
      low := fun i Z W ⟨u, hz, hw, hr, hg⟩ x hx => by
        subst hz
        rcases hx with rfl | hx
        · exact ⟨Nat.le_refl _, hw.lt⟩
        · exact ⟨hg x hx, (World.ownsRow.lt hr x hx).2⟩
      stay := fun i Z W W' ⟨u, hz, hw, hr, hg⟩ hq => by
        subst hz
        exact ⟨u, rfl, hw.keeps hq fun hc => hc.2 (.inl rfl), ownsRow_keeps hr hq fun g hg hc => hc.2 (.inr hg), hg⟩
      step := fun i l b e Z W hl ⟨u, hz, hw, hr, hg⟩ hq hB hE => by
        subst hz
        have hn := nameds_len ((lin F 1).take i)
        rw [List.length_take] at hn
        refine (colls1_any l.s b e hw hr (by omega)).mono ?_
        rintro e' W' ⟨rfl, u', h1, h2, h3, h4⟩
        refine ⟨true, _, rfl, h3, fun x hx => ?_, fun _ => ⟨u', rfl, h1, ?_, fun g hgg => ?_⟩, (fun hc => by cases hc)⟩
        · rcases hx with hx | hx
          · exact .inl (.inl hx)
          · exact (h4 x hx).imp .inr id
        · rw [List.take_add_one, hl, show (some l).toList = [l] from rfl, nameds_snoc]
          exact h2
        · rcases h4 g hgg with h | h
          · exact hg g h
          · exact Nat.le_trans hq.size h }
  have CO := Lib.hid (over_any (w := W1) h (K1.mono fun _ _ => False.elim) (by omega) (by omega) LK ⟨.slice none 0 0, rfl, M1, World.ownsRow_nil .., fun g hg => by simp [Value.ownBlock] at hg⟩)
  have hend : (lin F 1).take F.size = lin F 1 := List.take_of_length_le (by rw [lin_len]; exact Nat.le_refl _)
  rw [hend] at CO
  have FL : Hid ((nameds (lin F 1)).length ≤ 600) := Lib.hid (by have := nameds_len (lin F 1); omega)
  have NM := Lib.hid (nameds_mem (lin F 1))
  have hW1' := Lib.hid hW1
  have K1' := Lib.hid K1
  have S1 := Lib.hid s1
  generalize nameds (lin F 1) = C at *
  clear h few hd hW1 K1 M1 LK hend s1 hll
  go_enter Tryd.func19, Tryd.ntmps19
  go_upto_region 2 with fail
  rw [← hW1'.out]
  go_wp2_with fail
  refine CO.out.mono ?_
  rintro e w2 ⟨rfl, hK, hR⟩
  have K2 : Hid (Keeps (fun _ => False) w w2) := Lib.hid (K1'.out.trans hK fun x hx hc => by have := S1.out; rcases hc with (hc | hc) | hc <;> first | omega | (simp [Value.ownBlock] at hc))
  clear hK CO
  rcases hR with ⟨Z, ⟨u, _, hm, hr, hg⟩, _⟩ | hf
  · have c0 : w2.cell? ⟨w.heap.size, 0, none⟩ = some u := hm.at_ 0
    have R2 := Lib.hid hr
    have M2 := Lib.hid hm
    have G2 := Lib.hid hg
    have CS := Lib.hid (sort_row hr (by have := FL.out; omega))
    clear hm hr hg
    go_wp2_with fail
    refine CS.out.mono ?_
    rintro e w3 ⟨rfl, hr, hK⟩
    have M3 := M2.out.keeps hK (row_ne R2.out M2.out (by decide))
    have c1 : w3.cell? ⟨w.heap.size, 0, none⟩ = some u := M3.at_ 0
    have K3 : Hid (Keeps (fun _ => False) w w3) := Lib.hid (K2.out.trans hK fun x hx hc => by have := G2.out x hc; omega)
    have CC := Lib.hid (compact_row hr (by rw [List.length_mergeSort]; have := FL.out; omega))
    have SP := Lib.hid (compact_sorted C)
    clear hr hK M3 c0 CS
    go_wp2_with fail
    refine CC.out.mono ?_
    rintro e w4 ⟨u', rfl, hr, hK⟩
    have R4 := Lib.hid hr
    have K4 : Hid (Keeps (fun _ => False) w w4) := Lib.hid (K3.out.trans hK fun x hx hc => by have := G2.out x hc; omega)
    clear hr hK CC
    go_wp2_with fail
    go_ret
    exact ⟨_, _, rfl, R4.out, SP.out.1, fun x => (SP.out.2 x).trans (NM.out x), K4.out⟩
  · exact hf.elim
end Go.Proofs.YtpmbkeaimdeglaaDoor
