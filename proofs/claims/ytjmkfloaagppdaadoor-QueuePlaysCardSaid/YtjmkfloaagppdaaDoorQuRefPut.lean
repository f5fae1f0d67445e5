/-
  concordref04.Queue.put by contract.
-/
import Derived.Test.YtjmkfloaagppdaaDoorQuRefList
import Derived.Test.YtjmkfloaagppdaaDoorQuAhead
import Derived.Deep.RegionHeld3
import Derived.Test.YtjmkfloaagppdaaDoorWdTail
namespace Go.Proofs.YtjmkfloaagppdaaDoor
open Go.RowKit Go.Extern.Stop Go.Stop Go.Extern

/-- What lies where, when an empty slice and one of a timer have been laid, in either order. -/
theorem lits (w : World) (t : Tm) :
    Hid (Own (w.alloc (.cells #[] 31)).drew (.slice (some ⟨w.heap.size, 0, none⟩) 0 0) [] w.heap.size) ∧
    Hid (Own ((w.alloc (.cells #[] 31)).alloc (.cells #[.int .i64 t.1, .int .i64 t.2] 31)).drew (.slice (some ⟨w.heap.size, 0, none⟩) 0 0) [] w.heap.size) ∧
    Hid (Own ((w.alloc (.cells #[.int .i64 t.1, .int .i64 t.2] 31)).alloc (.cells #[] 31)).drew (.slice (some ⟨w.heap.size + 1, 0, none⟩) 0 0) [] w.heap.size) ∧
    Hid (Whole ((w.alloc (.cells #[] 31)).alloc (.cells #[.int .i64 t.1, .int .i64 t.2] 31)).drew (w.heap.size + 1) 31 #[.int .i64 t.1, .int .i64 t.2]) ∧
    Hid (Whole ((w.alloc (.cells #[.int .i64 t.1, .int .i64 t.2] 31)).alloc (.cells #[] 31)).drew w.heap.size 31 #[.int .i64 t.1, .int .i64 t.2]) := by
  refine ⟨Lib.hid ((lit_none (w := w) (W := w) (Nat.le_refl _)).same (Keeps.refl _ _).drew), Lib.hid ((lit_none (w := w) (W := w) (Nat.le_refl _)).same ((Keeps.refl _ _).alloc (.cells #[.int .i64 t.1, .int .i64 t.2] 31)).drew), Lib.hid ?_, Lib.hid ?_, Lib.hid (((Whole.made w 31 #[.int .i64 t.1, .int .i64 t.2]).alloc (.cells #[] 31)).drew)⟩
  · have := (lit_none (w := w) (W := w.alloc (.cells #[.int .i64 t.1, .int .i64 t.2] 31)) (by simp)).same (Keeps.refl _ _).drew
    rw [World.size_alloc] at this
    exact this
  · have := Whole.made (w.alloc (.cells #[] 31)) 31 #[.int .i64 t.1, .int .i64 t.2]
    rw [World.size_alloc] at this
    exact this.drew

set_option maxRecDepth 100000 in
set_option maxHeartbeats 1000000 in
theorem ref_put {w : World} {r : Nat} {L : List Tm} {Y : Nat → Prop} (h : RQ w r L Y) (few : L.length ≤ 200) (t : Tm) :
    Calls Tryd.prog 40 #[.pointer (some ⟨r, 0, none⟩), tmVal t] w fun e w' => e = .returned (.tuple #[]) ∧ RWent w r (ins t L) Y w' := by
  obtain ⟨v, h1, hR, _⟩ := id h
  obtain ⟨o, c, rfl, ho⟩ := TRow.shape hR
  obtain ⟨W1, hW1⟩ : ∃ W, W = w.alloc (.cells #[.int .i64 t.1, .int .i64 t.2] 31) := ⟨_, rfl⟩
  have k1 : Keeps (fun _ => False) w W1 := by rw [hW1]; exact (Keeps.refl _ w).alloc _
  have mT : Whole W1 w.heap.size 31 #[.int .i64 t.1, .int .i64 t.2] := by rw [hW1]; exact Whole.made _ _ _
  have hr := Lib.hid (h1.keeps k1 id)
  have R1 := Lib.hid (ownsRow_keeps hR k1 fun _ _ => id)
  have k1' := Lib.hid k1
  have mT' := Lib.hid mT
  have h0 := Lib.hid h
  have hW1' := Lib.hid hW1
  have hbr := Lib.hid (show ¬ w.heap.size = r from fun e => Nat.lt_irrefl r (e ▸ h1.lt))
  have hcap := TRow.room rfl hR
  clear h1 hR k1 mT h hW1
  unfold tmVal
  go_enter Tryd.func40, Tryd.ntmps40
  go_wp2_with fail
  rw [← hW1'.out]
  go_loopw [4] (fun kv wr => ∃ k : Nat, kv = .int .i64 k ∧ k ≤ L.length ∧ (∀ j, j < k → ahead (at_ L j) t = true) ∧ Keeps (fun _ => False) W1 wr) (fun kv _ => L.length - (intOf kv).toNat)
  case atStart => exact ⟨0, rfl, Nat.zero_le _, fun j hj => absurd hj (Nat.not_lt_zero _), Keeps.refl _ _⟩
  case round =>
    obtain ⟨k, rfl, hk, hD, hK⟩ := hrel
    have D2 := Lib.hid hD
    have K2 := Lib.hid hK
    have z0 := (hr.out.keeps hK id).at_ 0
    have b0 := (mT'.out.keeps hK id).at_ 0
    have b1 := (mT'.out.keeps hK id).at_ 1
    simp only [List.getElem?_toArray, List.getElem?_cons_zero, List.getElem?_cons_succ] at z0 b0 b1
    have R2 := Lib.hid (ownsRow_keeps R1.out hK fun _ _ => id)
    clear hD hK
    by_cases hkn : k < L.length
    · have hkn' : (k : Int) < (L.length : Int) := by omega
      obtain ⟨g, rfl⟩ := ho (by omega)
      have y0 := TRow.when R2.out k hkn
      have y1 := TRow.id R2.out k hkn
      cases hb : ahead (at_ L k) t with
      | true =>
        have ra := Lib.hid (ref_ahead (at_ L k) t true hb)
        have hb' := Lib.hid hb
        obtain ⟨u, hu⟩ : ∃ u, at_ L k = u := ⟨_, rfl⟩
        rw [hu] at y0 y1 ra hb'
        have hu := Lib.hid hu
        clear hb
        have S0 := Lib.hid (fun V (K : Keeps (fun _ => False) wr V) => (⟨(K.cell (p := ⟨r, 0, none⟩) (cell_lt z0) id).trans z0, (K.cell (p := ⟨g, k * 2, none⟩) (cell_lt y0) id).trans y0, (K.cell (p := ⟨g, k * 2 + 1, none⟩) (cell_lt y1) id).trans y1, (K.cell (p := ⟨w.heap.size, 0, none⟩) (cell_lt b0) id).trans b0, (K.cell (p := ⟨w.heap.size, 1, none⟩) (cell_lt b1) id).trans b1⟩ : V.cell? ⟨r, 0, none⟩ = some (.slice (some ⟨g, 0, none⟩) L.length c) ∧ V.cell? ⟨g, k * 2, none⟩ = some (.int .i64 u.1) ∧ V.cell? ⟨g, k * 2 + 1, none⟩ = some (.int .i64 u.2) ∧ V.cell? ⟨w.heap.size, 0, none⟩ = some (.int .i64 t.1) ∧ V.cell? ⟨w.heap.size, 1, none⟩ = some (.int .i64 t.2)))
        clear z0 y0 y1 b0 b1
        have s0 := Lib.hid (S0.out wr.drew (Keeps.refl _ _).drew)
        go_wp2_with fail
        go_region_held3 (fun V => V.cell? ⟨r, 0, none⟩ = some (.slice (some ⟨g, 0, none⟩) L.length c) ∧ V.cell? ⟨g, k * 2, none⟩ = some (.int .i64 u.1) ∧ V.cell? ⟨g, k * 2 + 1, none⟩ = some (.int .i64 u.2) ∧ V.cell? ⟨w.heap.size, 0, none⟩ = some (.int .i64 t.1) ∧ V.cell? ⟨w.heap.size, 1, none⟩ = some (.int .i64 t.2)) (first | exact s0.out | exact s4.out) (first | (go_at_call 19; refine (ra.out _).mono ?_; rintro e w4 ⟨rfl, hK⟩; have s4 := Lib.hid (S0.out _ ((Keeps.refl (fun _ => False) wr).drew.trans hK fun _ _ => False.elim)); have K4 := Lib.hid (K2.out.drew.trans hK fun _ _ => False.elim); clear hK))
        go_wp2_with fail
        go_roundw
        case rel =>
          refine ⟨k + 1, by go_num, by omega, fun j hj => ?_, K4.out⟩
          rcases Nat.lt_or_ge j k with h | h
          · exact D2.out j h
          · obtain rfl : j = k := by omega
            rw [hu.out]
            exact hb'.out
        case measure => simp [intOf]; omega
      | false =>
        have ra := Lib.hid (ref_ahead (at_ L k) t false hb)
        have hi := Lib.hid (ins_at hk D2.out fun _ => hb)
        generalize at_ L k = u at y0 y1 ra
        clear hb
        have S0 := Lib.hid (fun V (K : Keeps (fun _ => False) wr V) => (⟨(K.cell (p := ⟨r, 0, none⟩) (cell_lt z0) id).trans z0, (K.cell (p := ⟨g, k * 2, none⟩) (cell_lt y0) id).trans y0, (K.cell (p := ⟨g, k * 2 + 1, none⟩) (cell_lt y1) id).trans y1, (K.cell (p := ⟨w.heap.size, 0, none⟩) (cell_lt b0) id).trans b0, (K.cell (p := ⟨w.heap.size, 1, none⟩) (cell_lt b1) id).trans b1⟩ : V.cell? ⟨r, 0, none⟩ = some (.slice (some ⟨g, 0, none⟩) L.length c) ∧ V.cell? ⟨g, k * 2, none⟩ = some (.int .i64 u.1) ∧ V.cell? ⟨g, k * 2 + 1, none⟩ = some (.int .i64 u.2) ∧ V.cell? ⟨w.heap.size, 0, none⟩ = some (.int .i64 t.1) ∧ V.cell? ⟨w.heap.size, 1, none⟩ = some (.int .i64 t.2)))
        clear z0 y0 y1 b0 b1
        have s0 := Lib.hid (S0.out wr.drew (Keeps.refl _ _).drew)
        go_wp2_with fail
        go_region_held3 (fun V => V.cell? ⟨r, 0, none⟩ = some (.slice (some ⟨g, 0, none⟩) L.length c) ∧ V.cell? ⟨g, k * 2, none⟩ = some (.int .i64 u.1) ∧ V.cell? ⟨g, k * 2 + 1, none⟩ = some (.int .i64 u.2) ∧ V.cell? ⟨w.heap.size, 0, none⟩ = some (.int .i64 t.1) ∧ V.cell? ⟨w.heap.size, 1, none⟩ = some (.int .i64 t.2)) (first | exact s0.out | exact s4.out) (first | (go_at_call 19; refine (ra.out _).mono ?_; rintro e w4 ⟨rfl, hK⟩; have s4 := Lib.hid (S0.out _ ((Keeps.refl (fun _ => False) wr).drew.trans hK fun _ _ => False.elim)); have K4 := Lib.hid (K2.out.drew.trans hK fun _ _ => False.elim); clear hK))
        have S1 := Lib.hid (fun V (K : Keeps (fun _ => False) w4 V) => (⟨((hr.out.keeps K4.out id).keeps K id).at_ 0, ((mT'.out.keeps K4.out id).keeps K id).at_ 0, ((mT'.out.keeps K4.out id).keeps K id).at_ 1⟩ : V.cell? ⟨r, 0, none⟩ = some (.slice (some ⟨g, 0, none⟩) L.length c) ∧ V.cell? ⟨w.heap.size, 0, none⟩ = some (.int .i64 t.1) ∧ V.cell? ⟨w.heap.size, 1, none⟩ = some (.int .i64 t.2)))
        have S2 := Lib.hid (fun V (K : Keeps (fun _ => False) w4 V) => ((hr.out.keeps K4.out id).keeps K id).free 0)
        have R4 := Lib.hid (ownsRow_keeps R1.out K4.out fun _ _ => id)
        have KW := K4
        have hc0 : ¬ c = 0 := by omega
        have hck : ¬ c = k := by omega
        have hkc : k ≤ c := by omega
        have hkc' : (k : Int) ≤ (c : Int) := by omega
        have hk0 : (0 : Int) ≤ (k : Int) := by omega
        have hkL : (k : Int) ≤ (L.length : Int) := by omega
        clear s0 s4 S0 ra hcap
        obtain ⟨oE, oET, oTE, mET, mTE⟩ := lits w4 t
        have fin := Lib.hid (fun V a cc (kC : Keeps (fun _ => False) w4 V) (hO : Own V (.slice a (L.length + 1) cc) ([] ++ L.take k ++ [t] ++ L.drop k) w4.heap.size) => (h0.out.store ((k1'.out.trans KW.out fun _ _ => id).trans kC fun _ _ => id) (by rw [← hi.out]; exact hO.less (Nat.le_trans k1'.out.size KW.out.size)) : RWent w r (ins t L) Y (V.setCell ⟨r, 0, none⟩ (.slice a (L.length + 1) cc))))
        clear hi h0 k1'
        go_wp2_with fail
        refine AnyT.begin (S := fun V => V.cell? ⟨r, 0, none⟩ = some (.slice (some ⟨g, 0, none⟩) L.length c) ∧ V.cell? ⟨w.heap.size, 0, none⟩ = some (.int .i64 t.1) ∧ V.cell? ⟨w.heap.size, 1, none⟩ = some (.int .i64 t.2)) (by kernel_rfl) (S1.out _ (Keeps.refl _ _).drew) (fun hHeld => ?_)
        (refine AnyT.take (i := 0) (v := ?_) rfl (by kernel_rfl) (fun _ _ _ h => h) (Or.inl ⟨by rfl, ?_⟩) (by assumption) ?_; rotate_left; (· (intro V hSV; (try dsimp only at hSV); (first | (go_simp; done) | (go_simp; with_reducible rfl)))); simp only [Act.put, List.setIfInBounds_toArray, List.set_cons_zero, List.set_cons_succ])
        (refine AnyT.take (i := 2) (v := ?_) rfl (by kernel_rfl) (fun _ _ _ h => h) (Or.inl ⟨by rfl, ?_⟩) (by assumption) ?_; rotate_left; (· (intro V hSV; (try dsimp only at hSV); (first | (go_simp; done) | (go_simp; with_reducible rfl)))); simp only [Act.put, List.setIfInBounds_toArray, List.set_cons_zero, List.set_cons_succ])
        (refine AnyT.take (i := 3) (v := ?_) rfl (by kernel_rfl) (fun _ _ _ h => h) (Or.inl ⟨by rfl, ?_⟩) (by assumption) ?_; rotate_left; (· (intro V hSV; (try dsimp only at hSV); (first | (go_simp; done) | (go_simp; with_reducible rfl)))); simp only [Act.put, List.setIfInBounds_toArray, List.set_cons_zero, List.set_cons_succ])
        (refine AnyT.take (i := 4) (v := ?_) rfl (by kernel_rfl) (fun _ _ _ h => h) (Or.inl ⟨by rfl, ?_⟩) (by assumption) ?_; rotate_left; (· (intro V hSV; (try dsimp only at hSV); (first | (go_simp; done) | (go_simp; with_reducible rfl)))); simp only [Act.put, List.setIfInBounds_toArray, List.set_cons_zero, List.set_cons_succ])
        (refine AnyT.take (i := 5) (v := ?_) rfl (by kernel_rfl) (fun _ _ _ h => h) (Or.inl ⟨by rfl, ?_⟩) (by assumption) ?_; rotate_left; (· (intro V hSV; (try dsimp only at hSV); (first | (go_simp; done) | (go_simp; with_reducible rfl)))); simp only [Act.put, List.setIfInBounds_toArray, List.set_cons_zero, List.set_cons_succ])
        (refine AnyT.take (i := 6) (v := ?_) rfl (by kernel_rfl) (fun _ _ _ h => h) (Or.inl ⟨by rfl, ?_⟩) (by assumption) ?_; rotate_left; (· (intro V hSV; (try dsimp only at hSV); (first | (go_simp; done) | (go_simp; with_reducible rfl)))); simp only [Act.put, List.setIfInBounds_toArray, List.set_cons_zero, List.set_cons_succ])
        (refine AnyT.take (i := 7) (v := ?_) rfl (by kernel_rfl) (fun _ _ _ h => h) (Or.inl ⟨by rfl, ?_⟩) (by assumption) ?_; rotate_left; (· (intro V hSV; (try dsimp only at hSV); (first | (go_simp; done) | (go_simp; with_reducible rfl)))); simp only [Act.put, List.setIfInBounds_toArray, List.set_cons_zero, List.set_cons_succ])
        (refine AnyT.take (i := 9) (v := ?_) rfl (by kernel_rfl) (fun _ _ _ h => h) (Or.inl ⟨by rfl, ?_⟩) (by assumption) ?_; rotate_left; (· (intro V hSV; (try dsimp only at hSV); (first | (go_simp; done) | (go_simp; with_reducible rfl)))); simp only [Act.put, List.setIfInBounds_toArray, List.set_cons_zero, List.set_cons_succ])
        (refine AnyT.take (i := 12) (v := ?_) rfl (by kernel_rfl) (fun _ _ _ h => h) (Or.inl ⟨by rfl, ?_⟩) (by assumption) ?_; rotate_left; (· (intro V hSV; (try dsimp only at hSV); (first | (go_simp; done) | (go_simp; with_reducible rfl)))); simp only [Act.put, List.setIfInBounds_toArray, List.set_cons_zero, List.set_cons_succ])
        (refine AnyT.take (i := 13) (v := ?_) rfl (by kernel_rfl) (fun _ _ _ h => h) (Or.inl ⟨by rfl, ?_⟩) (by assumption) ?_; rotate_left; (· (intro V hSV; (try dsimp only at hSV); (first | (go_simp; done) | (go_simp; with_reducible rfl)))); simp only [Act.put, List.setIfInBounds_toArray, List.set_cons_zero, List.set_cons_succ])
        (refine AnyT.take (i := 14) (v := ?_) rfl (by kernel_rfl) (fun _ _ _ h => h) (Or.inl ⟨by rfl, ?_⟩) (by assumption) ?_; rotate_left; (· (intro V hSV; (try dsimp only at hSV); (first | (go_simp; done) | (go_simp; with_reducible rfl)))); simp only [Act.put, List.setIfInBounds_toArray, List.set_cons_zero, List.set_cons_succ])
        (refine AnyT.take (i := 15) (v := ?_) rfl (by kernel_rfl) (fun _ _ _ h => h) (Or.inl ⟨by rfl, ?_⟩) (by assumption) ?_; rotate_left; (· (intro V hSV; (try dsimp only at hSV); (first | (go_simp; done) | (go_simp; with_reducible rfl)))); simp only [Act.put, List.setIfInBounds_toArray, List.set_cons_zero, List.set_cons_succ])
        (refine AnyT.take (i := 16) (v := ?_) rfl (by kernel_rfl) (fun _ _ _ h => h) (Or.inl ⟨by rfl, ?_⟩) (by assumption) ?_; rotate_left; (· (intro V hSV; (try dsimp only at hSV); (first | (go_simp; done) | (go_simp; with_reducible rfl)))); simp only [Act.put, List.setIfInBounds_toArray, List.set_cons_zero, List.set_cons_succ])
        (refine AnyT.take (i := 17) (v := ?_) rfl (by kernel_rfl) (fun _ _ _ h => h) (Or.inl ⟨by rfl, ?_⟩) (by assumption) ?_; rotate_left; (· (intro V hSV; (try dsimp only at hSV); (first | (go_simp; done) | (go_simp; with_reducible rfl)))); simp only [Act.put, List.setIfInBounds_toArray, List.set_cons_zero, List.set_cons_succ])
        refine AnyT.ready (rs := [1, 10]) (by kernel_rfl) (by simp) (ReadyT.cons rfl (fun K hK => ?_) (ReadyT.cons rfl (fun K hK => ?_) ReadyT.nil))
        · go_simp
          refine hK.out _ _ (fun _ => S1.out _ (by repeat (first | exact Keeps.refl _ _ | exact kA.out | exact kB.out | exact kC.out | apply Keeps.drew | apply Keeps.alloc))) (fun hH => ?_)
          have hHeld := hH (of_decide_eq_true (by kernel_rfl))
          clear hH hK K
          try simp only [Act.put, List.setIfInBounds_toArray, List.set_cons_zero, List.set_cons_succ]
          refine AnyT.ready (rs := [8, 10]) (by kernel_rfl) (by simp) (ReadyT.cons rfl (fun K hK => ?_) (ReadyT.cons rfl (fun K hK => ?_) ReadyT.nil))
          · refine step_append_mine rfl _ _ rfl w4 (.slice (some ⟨_, 0, none⟩) 0 0) [] (L.take k) rfl (by first | exact oE.out | exact oET.out | exact oTE.out) (by repeat (first | exact Keeps.refl _ _ | exact kA.out | exact kB.out | exact kC.out | apply Keeps.drew | apply Keeps.alloc)) _ rfl (by exact rd_take rfl (ownsRow_keeps R4.out (by repeat (first | exact Keeps.refl _ _ | exact kA.out | exact kB.out | apply Keeps.drew | apply Keeps.alloc)) fun _ _ => id) k hk _) k (by simp; try omega) (by omega) ?_
            intro aoA capA VA hO kA kA2
            have oA := Lib.hid hO
            have kA := Lib.hid kA
            have kA2 := Lib.hid kA2
            clear hO
            refine hK.out _ _ (fun _ => S1.out _ (by repeat (first | exact Keeps.refl _ _ | exact kA.out | exact kB.out | exact kC.out | apply Keeps.drew | apply Keeps.alloc))) (fun hH => ?_)
            have hHeld := hH (of_decide_eq_true (by kernel_rfl))
            clear hH hK K
            try simp only [Act.put, List.setIfInBounds_toArray, List.set_cons_zero, List.set_cons_succ]
            refine AnyT.ready (rs := [10]) (by kernel_rfl) (by simp) (ReadyT.cons rfl (fun K hK => ?_) ReadyT.nil)
            go_simp
            refine hK.out _ _ (fun _ => S1.out _ (by repeat (first | exact Keeps.refl _ _ | exact kA.out | exact kB.out | exact kC.out | apply Keeps.drew | apply Keeps.alloc))) (fun hH => ?_)
            have hHeld := hH (of_decide_eq_true (by kernel_rfl))
            clear hH hK K
            try simp only [Act.put, List.setIfInBounds_toArray, List.set_cons_zero, List.set_cons_succ]
            refine AnyT.ready (rs := [11]) (by kernel_rfl) (by simp) (ReadyT.cons rfl (fun K hK => ?_) ReadyT.nil)
            refine step_append_mine rfl _ _ rfl w4 (.slice aoA k capA) ([] ++ L.take k) [t] rfl (by first | exact oA.out | exact oA.out.same ((Keeps.refl _ _).alloc _)) (by repeat (first | exact Keeps.refl _ _ | exact kA.out | exact kB.out | exact kC.out | apply Keeps.drew | apply Keeps.alloc)) (.slice (some ⟨_, 0, none⟩) 1 1) rfl (by first | exact lit_one (Whole.made _ _ _) 1 | exact lit_one (mET.out.keeps kA2.out (by simp [Value.ownBlock])) 1 | exact lit_one (mTE.out.keeps kA2.out (by simp [Value.ownBlock])) 1) (k + 1) (by simp; try omega) (by omega) ?_
            intro aoB capB VB hO kB kB2
            have oB := Lib.hid hO
            have kB := Lib.hid kB
            clear hO kB2
            refine hK.out _ _ (fun _ => S1.out _ (by repeat (first | exact Keeps.refl _ _ | exact kA.out | exact kB.out | exact kC.out | apply Keeps.drew | apply Keeps.alloc))) (fun hH => ?_)
            have hHeld := hH (of_decide_eq_true (by kernel_rfl))
            clear hH hK K
            try simp only [Act.put, List.setIfInBounds_toArray, List.set_cons_zero, List.set_cons_succ]
            refine AnyT.ready (rs := [18]) (by kernel_rfl) (by simp) (ReadyT.cons rfl (fun K hK => ?_) ReadyT.nil)
            refine step_append_mine rfl _ _ rfl w4 (.slice aoB (k + 1) capB) ([] ++ L.take k ++ [t]) (L.drop k) rfl oB.out kB.out _ rfl (by exact rd_drop rfl (ownsRow_keeps R4.out (by repeat (first | exact Keeps.refl _ _ | exact kA.out | exact kB.out | apply Keeps.drew | apply Keeps.alloc)) fun _ _ => id) k hk _) (L.length + 1) (by simp; try omega) (by omega) ?_
            intro aoC capC VC hO kC kC2
            have oC := Lib.hid hO
            have c0 := (S1.out _ kC).1
            have f0 := S2.out _ kC
            have kC := Lib.hid kC
            clear hO kC2
            refine hK.out _ _ (fun _ => S1.out _ (by repeat (first | exact Keeps.refl _ _ | exact kA.out | exact kB.out | exact kC.out | apply Keeps.drew | apply Keeps.alloc))) (fun hH => ?_)
            have hHeld := hH (of_decide_eq_true (by kernel_rfl))
            clear hH hK K
            try simp only [Act.put, List.setIfInBounds_toArray, List.set_cons_zero, List.set_cons_succ]
            (refine AnyT.take (i := 19) (v := ?_) rfl (by kernel_rfl) (fun _ _ _ h => h) (Or.inl ⟨by rfl, ?_⟩) (by assumption) ?_; rotate_left; (· (intro V hSV; (try dsimp only at hSV); (first | (go_simp; done) | (go_simp; with_reducible rfl)))); simp only [Act.put, List.setIfInBounds_toArray, List.set_cons_zero, List.set_cons_succ])
            (refine AnyT.take (i := 20) (v := ?_) rfl (by kernel_rfl) (fun _ _ _ h => h) (Or.inl ⟨by rfl, ?_⟩) (by assumption) ?_; rotate_left; (· (intro V hSV; (try dsimp only at hSV); (first | (go_simp; done) | (go_simp; with_reducible rfl)))); simp only [Act.put, List.setIfInBounds_toArray, List.set_cons_zero, List.set_cons_succ])
            refine AnyT.ready (rs := [21]) (by kernel_rfl) (by simp) (ReadyT.cons rfl (fun K hK => ?_) ReadyT.nil)
            go_simp
            refine hK.out _ _ (fun h => absurd h (of_decide_eq_false (by kernel_rfl))) (fun _ => ?_)
            clear hK K
            try simp only [Act.put, List.setIfInBounds_toArray, List.set_cons_zero, List.set_cons_succ]
            refine AnyT.done (by kernel_rfl) ?_ _
            go_wp2_with fail
            all_goals go_end0
            all_goals exact ⟨rfl, fin.out _ _ _ kC.out oC.out⟩
          · go_simp
            refine hK.out _ _ (fun _ => S1.out _ (by repeat (first | exact Keeps.refl _ _ | exact kA.out | exact kB.out | exact kC.out | apply Keeps.drew | apply Keeps.alloc))) (fun hH => ?_)
            have hHeld := hH (of_decide_eq_true (by kernel_rfl))
            clear hH hK K
            try simp only [Act.put, List.setIfInBounds_toArray, List.set_cons_zero, List.set_cons_succ]
            refine AnyT.ready (rs := [8]) (by kernel_rfl) (by simp) (ReadyT.cons rfl (fun K hK => ?_) ReadyT.nil)
            refine step_append_mine rfl _ _ rfl w4 (.slice (some ⟨_, 0, none⟩) 0 0) [] (L.take k) rfl (by first | exact oE.out | exact oET.out | exact oTE.out) (by repeat (first | exact Keeps.refl _ _ | exact kA.out | exact kB.out | exact kC.out | apply Keeps.drew | apply Keeps.alloc)) _ rfl (by exact rd_take rfl (ownsRow_keeps R4.out (by repeat (first | exact Keeps.refl _ _ | exact kA.out | exact kB.out | apply Keeps.drew | apply Keeps.alloc)) fun _ _ => id) k hk _) k (by simp; try omega) (by omega) ?_
            intro aoA capA VA hO kA kA2
            have oA := Lib.hid hO
            have kA := Lib.hid kA
            have kA2 := Lib.hid kA2
            clear hO
            refine hK.out _ _ (fun _ => S1.out _ (by repeat (first | exact Keeps.refl _ _ | exact kA.out | exact kB.out | exact kC.out | apply Keeps.drew | apply Keeps.alloc))) (fun hH => ?_)
            have hHeld := hH (of_decide_eq_true (by kernel_rfl))
            clear hH hK K
            try simp only [Act.put, List.setIfInBounds_toArray, List.set_cons_zero, List.set_cons_succ]
            refine AnyT.ready (rs := [11]) (by kernel_rfl) (by simp) (ReadyT.cons rfl (fun K hK => ?_) ReadyT.nil)
            refine step_append_mine rfl _ _ rfl w4 (.slice aoA k capA) ([] ++ L.take k) [t] rfl (by first | exact oA.out | exact oA.out.same ((Keeps.refl _ _).alloc _)) (by repeat (first | exact Keeps.refl _ _ | exact kA.out | exact kB.out | exact kC.out | apply Keeps.drew | apply Keeps.alloc)) (.slice (some ⟨_, 0, none⟩) 1 1) rfl (by first | exact lit_one (Whole.made _ _ _) 1 | exact lit_one (mET.out.keeps kA2.out (by simp [Value.ownBlock])) 1 | exact lit_one (mTE.out.keeps kA2.out (by simp [Value.ownBlock])) 1) (k + 1) (by simp; try omega) (by omega) ?_
            intro aoB capB VB hO kB kB2
            have oB := Lib.hid hO
            have kB := Lib.hid kB
            clear hO kB2
            refine hK.out _ _ (fun _ => S1.out _ (by repeat (first | exact Keeps.refl _ _ | exact kA.out | exact kB.out | exact kC.out | apply Keeps.drew | apply Keeps.alloc))) (fun hH => ?_)
            have hHeld := hH (of_decide_eq_true (by kernel_rfl))
            clear hH hK K
            try simp only [Act.put, List.setIfInBounds_toArray, List.set_cons_zero, List.set_cons_succ]
            refine AnyT.ready (rs := [18]) (by kernel_rfl) (by simp) (ReadyT.cons rfl (fun K hK => ?_) ReadyT.nil)
            refine step_append_mine rfl _ _ rfl w4 (.slice aoB (k + 1) capB) ([] ++ L.take k ++ [t]) (L.drop k) rfl oB.out kB.out _ rfl (by exact rd_drop rfl (ownsRow_keeps R4.out (by repeat (first | exact Keeps.refl _ _ | exact kA.out | exact kB.out | apply Keeps.drew | apply Keeps.alloc)) fun _ _ => id) k hk _) (L.length + 1) (by simp; try omega) (by omega) ?_
            intro aoC capC VC hO kC kC2
            have oC := Lib.hid hO
            have c0 := (S1.out _ kC).1
            have f0 := S2.out _ kC
            have kC := Lib.hid kC
            clear hO kC2
            refine hK.out _ _ (fun _ => S1.out _ (by repeat (first | exact Keeps.refl _ _ | exact kA.out | exact kB.out | exact kC.out | apply Keeps.drew | apply Keeps.alloc))) (fun hH => ?_)
            have hHeld := hH (of_decide_eq_true (by kernel_rfl))
            clear hH hK K
            try simp only [Act.put, List.setIfInBounds_toArray, List.set_cons_zero, List.set_cons_succ]
            (refine AnyT.take (i := 19) (v := ?_) rfl (by kernel_rfl) (fun _ _ _ h => h) (Or.inl ⟨by rfl, ?_⟩) (by assumption) ?_; rotate_left; (· (intro V hSV; (try dsimp only at hSV); (first | (go_simp; done) | (go_simp; with_reducible rfl)))); simp only [Act.put, List.setIfInBounds_toArray, List.set_cons_zero, List.set_cons_succ])
            (refine AnyT.take (i := 20) (v := ?_) rfl (by kernel_rfl) (fun _ _ _ h => h) (Or.inl ⟨by rfl, ?_⟩) (by assumption) ?_; rotate_left; (· (intro V hSV; (try dsimp only at hSV); (first | (go_simp; done) | (go_simp; with_reducible rfl)))); simp only [Act.put, List.setIfInBounds_toArray, List.set_cons_zero, List.set_cons_succ])
            refine AnyT.ready (rs := [21]) (by kernel_rfl) (by simp) (ReadyT.cons rfl (fun K hK => ?_) ReadyT.nil)
            go_simp
            refine hK.out _ _ (fun h => absurd h (of_decide_eq_false (by kernel_rfl))) (fun _ => ?_)
            clear hK K
            try simp only [Act.put, List.setIfInBounds_toArray, List.set_cons_zero, List.set_cons_succ]
            refine AnyT.done (by kernel_rfl) ?_ _
            go_wp2_with fail
            all_goals go_end0
            all_goals exact ⟨rfl, fin.out _ _ _ kC.out oC.out⟩
        · go_simp
          refine hK.out _ _ (fun _ => S1.out _ (by repeat (first | exact Keeps.refl _ _ | exact kA.out | exact kB.out | exact kC.out | apply Keeps.drew | apply Keeps.alloc))) (fun hH => ?_)
          have hHeld := hH (of_decide_eq_true (by kernel_rfl))
          clear hH hK K
          try simp only [Act.put, List.setIfInBounds_toArray, List.set_cons_zero, List.set_cons_succ]
          refine AnyT.ready (rs := [1]) (by kernel_rfl) (by simp) (ReadyT.cons rfl (fun K hK => ?_) ReadyT.nil)
          go_simp
          refine hK.out _ _ (fun _ => S1.out _ (by repeat (first | exact Keeps.refl _ _ | exact kA.out | exact kB.out | exact kC.out | apply Keeps.drew | apply Keeps.alloc))) (fun hH => ?_)
          have hHeld := hH (of_decide_eq_true (by kernel_rfl))
          clear hH hK K
          try simp only [Act.put, List.setIfInBounds_toArray, List.set_cons_zero, List.set_cons_succ]
          refine AnyT.ready (rs := [8]) (by kernel_rfl) (by simp) (ReadyT.cons rfl (fun K hK => ?_) ReadyT.nil)
          refine step_append_mine rfl _ _ rfl w4 (.slice (some ⟨_, 0, none⟩) 0 0) [] (L.take k) rfl (by first | exact oE.out | exact oET.out | exact oTE.out) (by repeat (first | exact Keeps.refl _ _ | exact kA.out | exact kB.out | exact kC.out | apply Keeps.drew | apply Keeps.alloc)) _ rfl (by exact rd_take rfl (ownsRow_keeps R4.out (by repeat (first | exact Keeps.refl _ _ | exact kA.out | exact kB.out | apply Keeps.drew | apply Keeps.alloc)) fun _ _ => id) k hk _) k (by simp; try omega) (by omega) ?_
          intro aoA capA VA hO kA kA2
          have oA := Lib.hid hO
          have kA := Lib.hid kA
          have kA2 := Lib.hid kA2
          clear hO
          refine hK.out _ _ (fun _ => S1.out _ (by repeat (first | exact Keeps.refl _ _ | exact kA.out | exact kB.out | exact kC.out | apply Keeps.drew | apply Keeps.alloc))) (fun hH => ?_)
          have hHeld := hH (of_decide_eq_true (by kernel_rfl))
          clear hH hK K
          try simp only [Act.put, List.setIfInBounds_toArray, List.set_cons_zero, List.set_cons_succ]
          refine AnyT.ready (rs := [11]) (by kernel_rfl) (by simp) (ReadyT.cons rfl (fun K hK => ?_) ReadyT.nil)
          refine step_append_mine rfl _ _ rfl w4 (.slice aoA k capA) ([] ++ L.take k) [t] rfl (by first | exact oA.out | exact oA.out.same ((Keeps.refl _ _).alloc _)) (by repeat (first | exact Keeps.refl _ _ | exact kA.out | exact kB.out | exact kC.out | apply Keeps.drew | apply Keeps.alloc)) (.slice (some ⟨_, 0, none⟩) 1 1) rfl (by first | exact lit_one (Whole.made _ _ _) 1 | exact lit_one (mET.out.keeps kA2.out (by simp [Value.ownBlock])) 1 | exact lit_one (mTE.out.keeps kA2.out (by simp [Value.ownBlock])) 1) (k + 1) (by simp; try omega) (by omega) ?_
          intro aoB capB VB hO kB kB2
          have oB := Lib.hid hO
          have kB := Lib.hid kB
          clear hO kB2
          refine hK.out _ _ (fun _ => S1.out _ (by repeat (first | exact Keeps.refl _ _ | exact kA.out | exact kB.out | exact kC.out | apply Keeps.drew | apply Keeps.alloc))) (fun hH => ?_)
          have hHeld := hH (of_decide_eq_true (by kernel_rfl))
          clear hH hK K
          try simp only [Act.put, List.setIfInBounds_toArray, List.set_cons_zero, List.set_cons_succ]
          refine AnyT.ready (rs := [18]) (by kernel_rfl) (by simp) (ReadyT.cons rfl (fun K hK => ?_) ReadyT.nil)
          refine step_append_mine rfl _ _ rfl w4 (.slice aoB (k + 1) capB) ([] ++ L.take k ++ [t]) (L.drop k) rfl oB.out kB.out _ rfl (by exact rd_drop rfl (ownsRow_keeps R4.out (by repeat (first | exact Keeps.refl _ _ | exact kA.out | exact kB.out | apply Keeps.drew | apply Keeps.alloc)) fun _ _ => id) k hk _) (L.length + 1) (by simp; try omega) (by omega) ?_
          intro aoC capC VC hO kC kC2
          have oC := Lib.hid hO
          have c0 := (S1.out _ kC).1
          have f0 := S2.out _ kC
          have kC := Lib.hid kC
          clear hO kC2
          refine hK.out _ _ (fun _ => S1.out _ (by repeat (first | exact Keeps.refl _ _ | exact kA.out | exact kB.out | exact kC.out | apply Keeps.drew | apply Keeps.alloc))) (fun hH => ?_)
          have hHeld := hH (of_decide_eq_true (by kernel_rfl))
          clear hH hK K
          try simp only [Act.put, List.setIfInBounds_toArray, List.set_cons_zero, List.set_cons_succ]
          (refine AnyT.take (i := 19) (v := ?_) rfl (by kernel_rfl) (fun _ _ _ h => h) (Or.inl ⟨by rfl, ?_⟩) (by assumption) ?_; rotate_left; (· (intro V hSV; (try dsimp only at hSV); (first | (go_simp; done) | (go_simp; with_reducible rfl)))); simp only [Act.put, List.setIfInBounds_toArray, List.set_cons_zero, List.set_cons_succ])
          (refine AnyT.take (i := 20) (v := ?_) rfl (by kernel_rfl) (fun _ _ _ h => h) (Or.inl ⟨by rfl, ?_⟩) (by assumption) ?_; rotate_left; (· (intro V hSV; (try dsimp only at hSV); (first | (go_simp; done) | (go_simp; with_reducible rfl)))); simp only [Act.put, List.setIfInBounds_toArray, List.set_cons_zero, List.set_cons_succ])
          refine AnyT.ready (rs := [21]) (by kernel_rfl) (by simp) (ReadyT.cons rfl (fun K hK => ?_) ReadyT.nil)
          go_simp
          refine hK.out _ _ (fun h => absurd h (of_decide_eq_false (by kernel_rfl))) (fun _ => ?_)
          clear hK K
          try simp only [Act.put, List.setIfInBounds_toArray, List.set_cons_zero, List.set_cons_succ]
          refine AnyT.done (by kernel_rfl) ?_ _
          go_wp2_with fail
          all_goals go_end0
          all_goals exact ⟨rfl, fin.out _ _ _ kC.out oC.out⟩
    · obtain rfl : k = L.length := by omega
      have hkn' : ¬ ((L.length : Nat) : Int) < (L.length : Int) := by omega
      have hi := Lib.hid (ins_at hk D2.out fun h => absurd h (Nat.lt_irrefl _))
      go_wp2_with fail
      go_region
      clear z0 b0 b1
      obtain ⟨wq, hwq⟩ : ∃ W, W = wr.drew := ⟨_, rfl⟩
      have KQ := Lib.hid (show Keeps (fun _ => False) W1 wq by rw [hwq]; exact K2.out.drew)
      rw [← hwq]
      clear hwq K2 R2
      have S1 := Lib.hid (fun V (K : Keeps (fun _ => False) wq V) => (⟨((hr.out.keeps KQ.out id).keeps K id).at_ 0, ((mT'.out.keeps KQ.out id).keeps K id).at_ 0, ((mT'.out.keeps KQ.out id).keeps K id).at_ 1⟩ : V.cell? ⟨r, 0, none⟩ = some (.slice o L.length c) ∧ V.cell? ⟨w.heap.size, 0, none⟩ = some (.int .i64 t.1) ∧ V.cell? ⟨w.heap.size, 1, none⟩ = some (.int .i64 t.2)))
      have S2 := Lib.hid (fun V (K : Keeps (fun _ => False) wq V) => ((hr.out.keeps KQ.out id).keeps K id).free 0)
      have R4 := Lib.hid (ownsRow_keeps R1.out KQ.out fun _ _ => id)
      have KW := KQ
      by_cases hL0 : L = []
      · have hkc : L.length ≤ c := hcap
        have hkc' : (L.length : Int) ≤ (c : Int) := by omega
        have hk0 : (0 : Int) ≤ (L.length : Int) := by omega
        replace hL0 := Lib.hid hL0
        clear hcap
        obtain ⟨oE, oET, oTE, mET, mTE⟩ := lits wq t
        have fin := Lib.hid (fun V a cc (kC : Keeps (fun _ => False) wq V) (hO : Own V (.slice a (L.length + 1) cc) ([] ++ L.take L.length ++ [t] ++ L.drop L.length) wq.heap.size) => (h0.out.store ((k1'.out.trans KW.out fun _ _ => id).trans kC fun _ _ => id) (by rw [← hi.out]; exact hO.less (Nat.le_trans k1'.out.size KW.out.size)) : RWent w r (ins t L) Y (V.setCell ⟨r, 0, none⟩ (.slice a (L.length + 1) cc))))
        clear hi h0 k1'
        go_wp2_with fail
        refine AnyT.begin (S := fun V => V.cell? ⟨r, 0, none⟩ = some (.slice o L.length c) ∧ V.cell? ⟨w.heap.size, 0, none⟩ = some (.int .i64 t.1) ∧ V.cell? ⟨w.heap.size, 1, none⟩ = some (.int .i64 t.2)) (by kernel_rfl) (S1.out _ (Keeps.refl _ _).drew) (fun hHeld => ?_)
        (refine AnyT.take (i := 0) (v := ?_) rfl (by kernel_rfl) (fun _ _ _ h => h) (Or.inl ⟨by rfl, ?_⟩) (by assumption) ?_; rotate_left; (· (intro V hSV; (try dsimp only at hSV); (first | (go_simp; done) | (go_simp; with_reducible rfl)))); simp only [Act.put, List.setIfInBounds_toArray, List.set_cons_zero, List.set_cons_succ])
        (refine AnyT.take (i := 2) (v := ?_) rfl (by kernel_rfl) (fun _ _ _ h => h) (Or.inl ⟨by rfl, ?_⟩) (by assumption) ?_; rotate_left; (· (intro V hSV; (try dsimp only at hSV); (first | (go_simp; done) | (go_simp; with_reducible rfl)))); simp only [Act.put, List.setIfInBounds_toArray, List.set_cons_zero, List.set_cons_succ])
        (refine AnyT.take (i := 3) (v := ?_) rfl (by kernel_rfl) (fun _ _ _ h => h) (Or.inl ⟨by rfl, ?_⟩) (by assumption) ?_; rotate_left; (· (intro V hSV; (try dsimp only at hSV); (first | (go_simp; done) | (go_simp; with_reducible rfl)))); simp only [Act.put, List.setIfInBounds_toArray, List.set_cons_zero, List.set_cons_succ])
        (refine AnyT.take (i := 4) (v := ?_) rfl (by kernel_rfl) (fun _ _ _ h => h) (Or.inl ⟨by rfl, ?_⟩) (by assumption) ?_; rotate_left; (· (intro V hSV; (try dsimp only at hSV); (first | (go_simp; done) | (go_simp; with_reducible rfl)))); simp only [Act.put, List.setIfInBounds_toArray, List.set_cons_zero, List.set_cons_succ])
        (refine AnyT.take (i := 5) (v := ?_) rfl (by kernel_rfl) (fun _ _ _ h => h) (Or.inl ⟨by rfl, ?_⟩) (by assumption) ?_; rotate_left; (· (intro V hSV; (try dsimp only at hSV); (first | (go_simp; done) | (go_simp; with_reducible rfl)))); simp only [Act.put, List.setIfInBounds_toArray, List.set_cons_zero, List.set_cons_succ])
        (refine AnyT.take (i := 6) (v := ?_) rfl (by kernel_rfl) (fun _ _ _ h => h) (Or.inl ⟨by rfl, ?_⟩) (by assumption) ?_; rotate_left; (· (intro V hSV; (try dsimp only at hSV); (first | (go_simp; done) | (go_simp; with_reducible rfl)))); simp only [Act.put, List.setIfInBounds_toArray, List.set_cons_zero, List.set_cons_succ])
        (refine AnyT.take (i := 7) (v := ?_) rfl (by kernel_rfl) (fun _ _ _ h => h) (Or.inl ⟨by rfl, ?_⟩) (by assumption) ?_; rotate_left; (· (intro V hSV; (try dsimp only at hSV); (first | (go_simp; done) | (go_simp; with_reducible rfl)))); simp only [Act.put, List.setIfInBounds_toArray, List.set_cons_zero, List.set_cons_succ])
        (refine AnyT.take (i := 9) (v := ?_) rfl (by kernel_rfl) (fun _ _ _ h => h) (Or.inl ⟨by rfl, ?_⟩) (by assumption) ?_; rotate_left; (· (intro V hSV; (try dsimp only at hSV); (first | (go_simp; done) | (go_simp; with_reducible rfl)))); simp only [Act.put, List.setIfInBounds_toArray, List.set_cons_zero, List.set_cons_succ])
        (refine AnyT.take (i := 12) (v := ?_) rfl (by kernel_rfl) (fun _ _ _ h => h) (Or.inl ⟨by rfl, ?_⟩) (by assumption) ?_; rotate_left; (· (intro V hSV; (try dsimp only at hSV); (first | (go_simp; done) | (go_simp; with_reducible rfl)))); simp only [Act.put, List.setIfInBounds_toArray, List.set_cons_zero, List.set_cons_succ])
        (refine AnyT.take (i := 13) (v := ?_) rfl (by kernel_rfl) (fun _ _ _ h => h) (Or.inl ⟨by rfl, ?_⟩) (by assumption) ?_; rotate_left; (· (intro V hSV; (try dsimp only at hSV); (first | (go_simp; done) | (go_simp; with_reducible rfl)))); simp only [Act.put, List.setIfInBounds_toArray, List.set_cons_zero, List.set_cons_succ])
        (refine AnyT.take (i := 14) (v := ?_) rfl (by kernel_rfl) (fun _ _ _ h => h) (Or.inl ⟨by rfl, ?_⟩) (by assumption) ?_; rotate_left; (· (intro V hSV; (try dsimp only at hSV); (first | (go_simp; done) | (go_simp; with_reducible rfl)))); simp only [Act.put, List.setIfInBounds_toArray, List.set_cons_zero, List.set_cons_succ])
        (refine AnyT.take (i := 15) (v := ?_) rfl (by kernel_rfl) (fun _ _ _ h => h) (Or.inl ⟨by rfl, ?_⟩) (by assumption) ?_; rotate_left; (· (intro V hSV; (try dsimp only at hSV); (first | (go_simp; done) | (go_simp; with_reducible rfl)))); simp only [Act.put, List.setIfInBounds_toArray, List.set_cons_zero, List.set_cons_succ])
        (refine AnyT.take (i := 16) (v := ?_) rfl (by kernel_rfl) (fun _ _ _ h => h) (Or.inl ⟨by rfl, ?_⟩) (by assumption) ?_; rotate_left; (· (intro V hSV; (try dsimp only at hSV); (first | (go_simp; done) | (go_simp; with_reducible rfl)))); simp only [Act.put, List.setIfInBounds_toArray, List.set_cons_zero, List.set_cons_succ])
        (refine AnyT.take (i := 17) (v := ?_) rfl (by kernel_rfl) (fun _ _ _ h => h) (Or.inl ⟨by rfl, ?_⟩) (by assumption) ?_; rotate_left; (· (intro V hSV; (try dsimp only at hSV); (first | (go_simp; done) | (go_simp; with_reducible rfl)))); simp only [Act.put, List.setIfInBounds_toArray, List.set_cons_zero, List.set_cons_succ])
        refine AnyT.ready (rs := [1, 10]) (by kernel_rfl) (by simp) (ReadyT.cons rfl (fun K hK => ?_) (ReadyT.cons rfl (fun K hK => ?_) ReadyT.nil))
        · go_simp
          refine hK.out _ _ (fun _ => S1.out _ (by repeat (first | exact Keeps.refl _ _ | exact kA.out | exact kB.out | exact kC.out | apply Keeps.drew | apply Keeps.alloc))) (fun hH => ?_)
          have hHeld := hH (of_decide_eq_true (by kernel_rfl))
          clear hH hK K
          try simp only [Act.put, List.setIfInBounds_toArray, List.set_cons_zero, List.set_cons_succ]
          refine AnyT.ready (rs := [8, 10]) (by kernel_rfl) (by simp) (ReadyT.cons rfl (fun K hK => ?_) (ReadyT.cons rfl (fun K hK => ?_) ReadyT.nil))
          · refine step_append_mine rfl _ _ rfl wq (.slice (some ⟨_, 0, none⟩) 0 0) [] (L.take L.length) rfl (by first | exact oE.out | exact oET.out | exact oTE.out) (by repeat (first | exact Keeps.refl _ _ | exact kA.out | exact kB.out | exact kC.out | apply Keeps.drew | apply Keeps.alloc)) _ rfl (by rw [hL0.out]; exact rd_nil _ _ _) L.length (by simp; try omega) (by omega) ?_
            intro aoA capA VA hO kA kA2
            have oA := Lib.hid hO
            have kA := Lib.hid kA
            have kA2 := Lib.hid kA2
            clear hO
            refine hK.out _ _ (fun _ => S1.out _ (by repeat (first | exact Keeps.refl _ _ | exact kA.out | exact kB.out | exact kC.out | apply Keeps.drew | apply Keeps.alloc))) (fun hH => ?_)
            have hHeld := hH (of_decide_eq_true (by kernel_rfl))
            clear hH hK K
            try simp only [Act.put, List.setIfInBounds_toArray, List.set_cons_zero, List.set_cons_succ]
            refine AnyT.ready (rs := [10]) (by kernel_rfl) (by simp) (ReadyT.cons rfl (fun K hK => ?_) ReadyT.nil)
            go_simp
            refine hK.out _ _ (fun _ => S1.out _ (by repeat (first | exact Keeps.refl _ _ | exact kA.out | exact kB.out | exact kC.out | apply Keeps.drew | apply Keeps.alloc))) (fun hH => ?_)
            have hHeld := hH (of_decide_eq_true (by kernel_rfl))
            clear hH hK K
            try simp only [Act.put, List.setIfInBounds_toArray, List.set_cons_zero, List.set_cons_succ]
            refine AnyT.ready (rs := [11]) (by kernel_rfl) (by simp) (ReadyT.cons rfl (fun K hK => ?_) ReadyT.nil)
            refine step_append_mine rfl _ _ rfl wq (.slice aoA L.length capA) ([] ++ L.take L.length) [t] rfl (by first | exact oA.out | exact oA.out.same ((Keeps.refl _ _).alloc _)) (by repeat (first | exact Keeps.refl _ _ | exact kA.out | exact kB.out | exact kC.out | apply Keeps.drew | apply Keeps.alloc)) (.slice (some ⟨_, 0, none⟩) 1 1) rfl (by first | exact lit_one (Whole.made _ _ _) 1 | exact lit_one (mET.out.keeps kA2.out (by simp [Value.ownBlock])) 1 | exact lit_one (mTE.out.keeps kA2.out (by simp [Value.ownBlock])) 1) (L.length + 1) (by simp; try omega) (by omega) ?_
            intro aoB capB VB hO kB kB2
            have oB := Lib.hid hO
            have kB := Lib.hid kB
            clear hO kB2
            refine hK.out _ _ (fun _ => S1.out _ (by repeat (first | exact Keeps.refl _ _ | exact kA.out | exact kB.out | exact kC.out | apply Keeps.drew | apply Keeps.alloc))) (fun hH => ?_)
            have hHeld := hH (of_decide_eq_true (by kernel_rfl))
            clear hH hK K
            try simp only [Act.put, List.setIfInBounds_toArray, List.set_cons_zero, List.set_cons_succ]
            refine AnyT.ready (rs := [18]) (by kernel_rfl) (by simp) (ReadyT.cons rfl (fun K hK => ?_) ReadyT.nil)
            refine step_append_mine rfl _ _ rfl wq (.slice aoB (L.length + 1) capB) ([] ++ L.take L.length ++ [t]) (L.drop L.length) rfl oB.out kB.out _ rfl (by rw [hL0.out]; exact rd_nil _ _ _) (L.length + 1) (by simp; try omega) (by omega) ?_
            intro aoC capC VC hO kC kC2
            have oC := Lib.hid hO
            have c0 := (S1.out _ kC).1
            have f0 := S2.out _ kC
            have kC := Lib.hid kC
            clear hO kC2
            refine hK.out _ _ (fun _ => S1.out _ (by repeat (first | exact Keeps.refl _ _ | exact kA.out | exact kB.out | exact kC.out | apply Keeps.drew | apply Keeps.alloc))) (fun hH => ?_)
            have hHeld := hH (of_decide_eq_true (by kernel_rfl))
            clear hH hK K
            try simp only [Act.put, List.setIfInBounds_toArray, List.set_cons_zero, List.set_cons_succ]
            (refine AnyT.take (i := 19) (v := ?_) rfl (by kernel_rfl) (fun _ _ _ h => h) (Or.inl ⟨by rfl, ?_⟩) (by assumption) ?_; rotate_left; (· (intro V hSV; (try dsimp only at hSV); (first | (go_simp; done) | (go_simp; with_reducible rfl)))); simp only [Act.put, List.setIfInBounds_toArray, List.set_cons_zero, List.set_cons_succ])
            (refine AnyT.take (i := 20) (v := ?_) rfl (by kernel_rfl) (fun _ _ _ h => h) (Or.inl ⟨by rfl, ?_⟩) (by assumption) ?_; rotate_left; (· (intro V hSV; (try dsimp only at hSV); (first | (go_simp; done) | (go_simp; with_reducible rfl)))); simp only [Act.put, List.setIfInBounds_toArray, List.set_cons_zero, List.set_cons_succ])
            refine AnyT.ready (rs := [21]) (by kernel_rfl) (by simp) (ReadyT.cons rfl (fun K hK => ?_) ReadyT.nil)
            go_simp
            refine hK.out _ _ (fun h => absurd h (of_decide_eq_false (by kernel_rfl))) (fun _ => ?_)
            clear hK K
            try simp only [Act.put, List.setIfInBounds_toArray, List.set_cons_zero, List.set_cons_succ]
            refine AnyT.done (by kernel_rfl) ?_ _
            go_wp2_with fail
            all_goals go_end0
            all_goals exact ⟨rfl, fin.out _ _ _ kC.out oC.out⟩
          · go_simp
            refine hK.out _ _ (fun _ => S1.out _ (by repeat (first | exact Keeps.refl _ _ | exact kA.out | exact kB.out | exact kC.out | apply Keeps.drew | apply Keeps.alloc))) (fun hH => ?_)
            have hHeld := hH (of_decide_eq_true (by kernel_rfl))
            clear hH hK K
            try simp only [Act.put, List.setIfInBounds_toArray, List.set_cons_zero, List.set_cons_succ]
            refine AnyT.ready (rs := [8]) (by kernel_rfl) (by simp) (ReadyT.cons rfl (fun K hK => ?_) ReadyT.nil)
            refine step_append_mine rfl _ _ rfl wq (.slice (some ⟨_, 0, none⟩) 0 0) [] (L.take L.length) rfl (by first | exact oE.out | exact oET.out | exact oTE.out) (by repeat (first | exact Keeps.refl _ _ | exact kA.out | exact kB.out | exact kC.out | apply Keeps.drew | apply Keeps.alloc)) _ rfl (by rw [hL0.out]; exact rd_nil _ _ _) L.length (by simp; try omega) (by omega) ?_
            intro aoA capA VA hO kA kA2
            have oA := Lib.hid hO
            have kA := Lib.hid kA
            have kA2 := Lib.hid kA2
            clear hO
            refine hK.out _ _ (fun _ => S1.out _ (by repeat (first | exact Keeps.refl _ _ | exact kA.out | exact kB.out | exact kC.out | apply Keeps.drew | apply Keeps.alloc))) (fun hH => ?_)
            have hHeld := hH (of_decide_eq_true (by kernel_rfl))
            clear hH hK K
            try simp only [Act.put, List.setIfInBounds_toArray, List.set_cons_zero, List.set_cons_succ]
            refine AnyT.ready (rs := [11]) (by kernel_rfl) (by simp) (ReadyT.cons rfl (fun K hK => ?_) ReadyT.nil)
            refine step_append_mine rfl _ _ rfl wq (.slice aoA L.length capA) ([] ++ L.take L.length) [t] rfl (by first | exact oA.out | exact oA.out.same ((Keeps.refl _ _).alloc _)) (by repeat (first | exact Keeps.refl _ _ | exact kA.out | exact kB.out | exact kC.out | apply Keeps.drew | apply Keeps.alloc)) (.slice (some ⟨_, 0, none⟩) 1 1) rfl (by first | exact lit_one (Whole.made _ _ _) 1 | exact lit_one (mET.out.keeps kA2.out (by simp [Value.ownBlock])) 1 | exact lit_one (mTE.out.keeps kA2.out (by simp [Value.ownBlock])) 1) (L.length + 1) (by simp; try omega) (by omega) ?_
            intro aoB capB VB hO kB kB2
            have oB := Lib.hid hO
            have kB := Lib.hid kB
            clear hO kB2
            refine hK.out _ _ (fun _ => S1.out _ (by repeat (first | exact Keeps.refl _ _ | exact kA.out | exact kB.out | exact kC.out | apply Keeps.drew | apply Keeps.alloc))) (fun hH => ?_)
            have hHeld := hH (of_decide_eq_true (by kernel_rfl))
            clear hH hK K
            try simp only [Act.put, List.setIfInBounds_toArray, List.set_cons_zero, List.set_cons_succ]
            refine AnyT.ready (rs := [18]) (by kernel_rfl) (by simp) (ReadyT.cons rfl (fun K hK => ?_) ReadyT.nil)
            refine step_append_mine rfl _ _ rfl wq (.slice aoB (L.length + 1) capB) ([] ++ L.take L.length ++ [t]) (L.drop L.length) rfl oB.out kB.out _ rfl (by rw [hL0.out]; exact rd_nil _ _ _) (L.length + 1) (by simp; try omega) (by omega) ?_
            intro aoC capC VC hO kC kC2
            have oC := Lib.hid hO
            have c0 := (S1.out _ kC).1
            have f0 := S2.out _ kC
            have kC := Lib.hid kC
            clear hO kC2
            refine hK.out _ _ (fun _ => S1.out _ (by repeat (first | exact Keeps.refl _ _ | exact kA.out | exact kB.out | exact kC.out | apply Keeps.drew | apply Keeps.alloc))) (fun hH => ?_)
            have hHeld := hH (of_decide_eq_true (by kernel_rfl))
            clear hH hK K
            try simp only [Act.put, List.setIfInBounds_toArray, List.set_cons_zero, List.set_cons_succ]
            (refine AnyT.take (i := 19) (v := ?_) rfl (by kernel_rfl) (fun _ _ _ h => h) (Or.inl ⟨by rfl, ?_⟩) (by assumption) ?_; rotate_left; (· (intro V hSV; (try dsimp only at hSV); (first | (go_simp; done) | (go_simp; with_reducible rfl)))); simp only [Act.put, List.setIfInBounds_toArray, List.set_cons_zero, List.set_cons_succ])
            (refine AnyT.take (i := 20) (v := ?_) rfl (by kernel_rfl) (fun _ _ _ h => h) (Or.inl ⟨by rfl, ?_⟩) (by assumption) ?_; rotate_left; (· (intro V hSV; (try dsimp only at hSV); (first | (go_simp; done) | (go_simp; with_reducible rfl)))); simp only [Act.put, List.setIfInBounds_toArray, List.set_cons_zero, List.set_cons_succ])
            refine AnyT.ready (rs := [21]) (by kernel_rfl) (by simp) (ReadyT.cons rfl (fun K hK => ?_) ReadyT.nil)
            go_simp
            refine hK.out _ _ (fun h => absurd h (of_decide_eq_false (by kernel_rfl))) (fun _ => ?_)
            clear hK K
            try simp only [Act.put, List.setIfInBounds_toArray, List.set_cons_zero, List.set_cons_succ]
            refine AnyT.done (by kernel_rfl) ?_ _
            go_wp2_with fail
            all_goals go_end0
            all_goals exact ⟨rfl, fin.out _ _ _ kC.out oC.out⟩
        · go_simp
          refine hK.out _ _ (fun _ => S1.out _ (by repeat (first | exact Keeps.refl _ _ | exact kA.out | exact kB.out | exact kC.out | apply Keeps.drew | apply Keeps.alloc))) (fun hH => ?_)
          have hHeld := hH (of_decide_eq_true (by kernel_rfl))
          clear hH hK K
          try simp only [Act.put, List.setIfInBounds_toArray, List.set_cons_zero, List.set_cons_succ]
          refine AnyT.ready (rs := [1]) (by kernel_rfl) (by simp) (ReadyT.cons rfl (fun K hK => ?_) ReadyT.nil)
          go_simp
          refine hK.out _ _ (fun _ => S1.out _ (by repeat (first | exact Keeps.refl _ _ | exact kA.out | exact kB.out | exact kC.out | apply Keeps.drew | apply Keeps.alloc))) (fun hH => ?_)
          have hHeld := hH (of_decide_eq_true (by kernel_rfl))
          clear hH hK K
          try simp only [Act.put, List.setIfInBounds_toArray, List.set_cons_zero, List.set_cons_succ]
          refine AnyT.ready (rs := [8]) (by kernel_rfl) (by simp) (ReadyT.cons rfl (fun K hK => ?_) ReadyT.nil)
          refine step_append_mine rfl _ _ rfl wq (.slice (some ⟨_, 0, none⟩) 0 0) [] (L.take L.length) rfl (by first | exact oE.out | exact oET.out | exact oTE.out) (by repeat (first | exact Keeps.refl _ _ | exact kA.out | exact kB.out | exact kC.out | apply Keeps.drew | apply Keeps.alloc)) _ rfl (by rw [hL0.out]; exact rd_nil _ _ _) L.length (by simp; try omega) (by omega) ?_
          intro aoA capA VA hO kA kA2
          have oA := Lib.hid hO
          have kA := Lib.hid kA
          have kA2 := Lib.hid kA2
          clear hO
          refine hK.out _ _ (fun _ => S1.out _ (by repeat (first | exact Keeps.refl _ _ | exact kA.out | exact kB.out | exact kC.out | apply Keeps.drew | apply Keeps.alloc))) (fun hH => ?_)
          have hHeld := hH (of_decide_eq_true (by kernel_rfl))
          clear hH hK K
          try simp only [Act.put, List.setIfInBounds_toArray, List.set_cons_zero, List.set_cons_succ]
          refine AnyT.ready (rs := [11]) (by kernel_rfl) (by simp) (ReadyT.cons rfl (fun K hK => ?_) ReadyT.nil)
          refine step_append_mine rfl _ _ rfl wq (.slice aoA L.length capA) ([] ++ L.take L.length) [t] rfl (by first | exact oA.out | exact oA.out.same ((Keeps.refl _ _).alloc _)) (by repeat (first | exact Keeps.refl _ _ | exact kA.out | exact kB.out | exact kC.out | apply Keeps.drew | apply Keeps.alloc)) (.slice (some ⟨_, 0, none⟩) 1 1) rfl (by first | exact lit_one (Whole.made _ _ _) 1 | exact lit_one (mET.out.keeps kA2.out (by simp [Value.ownBlock])) 1 | exact lit_one (mTE.out.keeps kA2.out (by simp [Value.ownBlock])) 1) (L.length + 1) (by simp; try omega) (by omega) ?_
          intro aoB capB VB hO kB kB2
          have oB := Lib.hid hO
          have kB := Lib.hid kB
          clear hO kB2
          refine hK.out _ _ (fun _ => S1.out _ (by repeat (first | exact Keeps.refl _ _ | exact kA.out | exact kB.out | exact kC.out | apply Keeps.drew | apply Keeps.alloc))) (fun hH => ?_)
          have hHeld := hH (of_decide_eq_true (by kernel_rfl))
          clear hH hK K
          try simp only [Act.put, List.setIfInBounds_toArray, List.set_cons_zero, List.set_cons_succ]
          refine AnyT.ready (rs := [18]) (by kernel_rfl) (by simp) (ReadyT.cons rfl (fun K hK => ?_) ReadyT.nil)
          refine step_append_mine rfl _ _ rfl wq (.slice aoB (L.length + 1) capB) ([] ++ L.take L.length ++ [t]) (L.drop L.length) rfl oB.out kB.out _ rfl (by rw [hL0.out]; exact rd_nil _ _ _) (L.length + 1) (by simp; try omega) (by omega) ?_
          intro aoC capC VC hO kC kC2
          have oC := Lib.hid hO
          have c0 := (S1.out _ kC).1
          have f0 := S2.out _ kC
          have kC := Lib.hid kC
          clear hO kC2
          refine hK.out _ _ (fun _ => S1.out _ (by repeat (first | exact Keeps.refl _ _ | exact kA.out | exact kB.out | exact kC.out | apply Keeps.drew | apply Keeps.alloc))) (fun hH => ?_)
          have hHeld := hH (of_decide_eq_true (by kernel_rfl))
          clear hH hK K
          try simp only [Act.put, List.setIfInBounds_toArray, List.set_cons_zero, List.set_cons_succ]
          (refine AnyT.take (i := 19) (v := ?_) rfl (by kernel_rfl) (fun _ _ _ h => h) (Or.inl ⟨by rfl, ?_⟩) (by assumption) ?_; rotate_left; (· (intro V hSV; (try dsimp only at hSV); (first | (go_simp; done) | (go_simp; with_reducible rfl)))); simp only [Act.put, List.setIfInBounds_toArray, List.set_cons_zero, List.set_cons_succ])
          (refine AnyT.take (i := 20) (v := ?_) rfl (by kernel_rfl) (fun _ _ _ h => h) (Or.inl ⟨by rfl, ?_⟩) (by assumption) ?_; rotate_left; (· (intro V hSV; (try dsimp only at hSV); (first | (go_simp; done) | (go_simp; with_reducible rfl)))); simp only [Act.put, List.setIfInBounds_toArray, List.set_cons_zero, List.set_cons_succ])
          refine AnyT.ready (rs := [21]) (by kernel_rfl) (by simp) (ReadyT.cons rfl (fun K hK => ?_) ReadyT.nil)
          go_simp
          refine hK.out _ _ (fun h => absurd h (of_decide_eq_false (by kernel_rfl))) (fun _ => ?_)
          clear hK K
          try simp only [Act.put, List.setIfInBounds_toArray, List.set_cons_zero, List.set_cons_succ]
          refine AnyT.done (by kernel_rfl) ?_ _
          go_wp2_with fail
          all_goals go_end0
          all_goals exact ⟨rfl, fin.out _ _ _ kC.out oC.out⟩
      · obtain ⟨g, rfl⟩ := ho (List.length_pos_iff.2 hL0)
        have hc0 : ¬ c = 0 := by have := List.length_pos_iff.2 hL0; omega
        have hkc : L.length ≤ c := hcap
        have hkc' : (L.length : Int) ≤ (c : Int) := by omega
        have hk0 : (0 : Int) ≤ (L.length : Int) := by omega
        replace hL0 := Lib.hid hL0
        clear hcap
        obtain ⟨oE, oET, oTE, mET, mTE⟩ := lits wq t
        have fin := Lib.hid (fun V a cc (kC : Keeps (fun _ => False) wq V) (hO : Own V (.slice a (L.length + 1) cc) ([] ++ L.take L.length ++ [t] ++ L.drop L.length) wq.heap.size) => (h0.out.store ((k1'.out.trans KW.out fun _ _ => id).trans kC fun _ _ => id) (by rw [← hi.out]; exact hO.less (Nat.le_trans k1'.out.size KW.out.size)) : RWent w r (ins t L) Y (V.setCell ⟨r, 0, none⟩ (.slice a (L.length + 1) cc))))
        clear hi h0 k1'
        go_wp2_with fail
        refine AnyT.begin (S := fun V => V.cell? ⟨r, 0, none⟩ = some (.slice (some ⟨g, 0, none⟩) L.length c) ∧ V.cell? ⟨w.heap.size, 0, none⟩ = some (.int .i64 t.1) ∧ V.cell? ⟨w.heap.size, 1, none⟩ = some (.int .i64 t.2)) (by kernel_rfl) (S1.out _ (Keeps.refl _ _).drew) (fun hHeld => ?_)
        (refine AnyT.take (i := 0) (v := ?_) rfl (by kernel_rfl) (fun _ _ _ h => h) (Or.inl ⟨by rfl, ?_⟩) (by assumption) ?_; rotate_left; (· (intro V hSV; (try dsimp only at hSV); (first | (go_simp; done) | (go_simp; with_reducible rfl)))); simp only [Act.put, List.setIfInBounds_toArray, List.set_cons_zero, List.set_cons_succ])
        (refine AnyT.take (i := 2) (v := ?_) rfl (by kernel_rfl) (fun _ _ _ h => h) (Or.inl ⟨by rfl, ?_⟩) (by assumption) ?_; rotate_left; (· (intro V hSV; (try dsimp only at hSV); (first | (go_simp; done) | (go_simp; with_reducible rfl)))); simp only [Act.put, List.setIfInBounds_toArray, List.set_cons_zero, List.set_cons_succ])
        (refine AnyT.take (i := 3) (v := ?_) rfl (by kernel_rfl) (fun _ _ _ h => h) (Or.inl ⟨by rfl, ?_⟩) (by assumption) ?_; rotate_left; (· (intro V hSV; (try dsimp only at hSV); (first | (go_simp; done) | (go_simp; with_reducible rfl)))); simp only [Act.put, List.setIfInBounds_toArray, List.set_cons_zero, List.set_cons_succ])
        (refine AnyT.take (i := 4) (v := ?_) rfl (by kernel_rfl) (fun _ _ _ h => h) (Or.inl ⟨by rfl, ?_⟩) (by assumption) ?_; rotate_left; (· (intro V hSV; (try dsimp only at hSV); (first | (go_simp; done) | (go_simp; with_reducible rfl)))); simp only [Act.put, List.setIfInBounds_toArray, List.set_cons_zero, List.set_cons_succ])
        (refine AnyT.take (i := 5) (v := ?_) rfl (by kernel_rfl) (fun _ _ _ h => h) (Or.inl ⟨by rfl, ?_⟩) (by assumption) ?_; rotate_left; (· (intro V hSV; (try dsimp only at hSV); (first | (go_simp; done) | (go_simp; with_reducible rfl)))); simp only [Act.put, List.setIfInBounds_toArray, List.set_cons_zero, List.set_cons_succ])
        (refine AnyT.take (i := 6) (v := ?_) rfl (by kernel_rfl) (fun _ _ _ h => h) (Or.inl ⟨by rfl, ?_⟩) (by assumption) ?_; rotate_left; (· (intro V hSV; (try dsimp only at hSV); (first | (go_simp; done) | (go_simp; with_reducible rfl)))); simp only [Act.put, List.setIfInBounds_toArray, List.set_cons_zero, List.set_cons_succ])
        (refine AnyT.take (i := 7) (v := ?_) rfl (by kernel_rfl) (fun _ _ _ h => h) (Or.inl ⟨by rfl, ?_⟩) (by assumption) ?_; rotate_left; (· (intro V hSV; (try dsimp only at hSV); (first | (go_simp; done) | (go_simp; with_reducible rfl)))); simp only [Act.put, List.setIfInBounds_toArray, List.set_cons_zero, List.set_cons_succ])
        (refine AnyT.take (i := 9) (v := ?_) rfl (by kernel_rfl) (fun _ _ _ h => h) (Or.inl ⟨by rfl, ?_⟩) (by assumption) ?_; rotate_left; (· (intro V hSV; (try dsimp only at hSV); (first | (go_simp; done) | (go_simp; with_reducible rfl)))); simp only [Act.put, List.setIfInBounds_toArray, List.set_cons_zero, List.set_cons_succ])
        (refine AnyT.take (i := 12) (v := ?_) rfl (by kernel_rfl) (fun _ _ _ h => h) (Or.inl ⟨by rfl, ?_⟩) (by assumption) ?_; rotate_left; (· (intro V hSV; (try dsimp only at hSV); (first | (go_simp; done) | (go_simp; with_reducible rfl)))); simp only [Act.put, List.setIfInBounds_toArray, List.set_cons_zero, List.set_cons_succ])
        (refine AnyT.take (i := 13) (v := ?_) rfl (by kernel_rfl) (fun _ _ _ h => h) (Or.inl ⟨by rfl, ?_⟩) (by assumption) ?_; rotate_left; (· (intro V hSV; (try dsimp only at hSV); (first | (go_simp; done) | (go_simp; with_reducible rfl)))); simp only [Act.put, List.setIfInBounds_toArray, List.set_cons_zero, List.set_cons_succ])
        (refine AnyT.take (i := 14) (v := ?_) rfl (by kernel_rfl) (fun _ _ _ h => h) (Or.inl ⟨by rfl, ?_⟩) (by assumption) ?_; rotate_left; (· (intro V hSV; (try dsimp only at hSV); (first | (go_simp; done) | (go_simp; with_reducible rfl)))); simp only [Act.put, List.setIfInBounds_toArray, List.set_cons_zero, List.set_cons_succ])
        (refine AnyT.take (i := 15) (v := ?_) rfl (by kernel_rfl) (fun _ _ _ h => h) (Or.inl ⟨by rfl, ?_⟩) (by assumption) ?_; rotate_left; (· (intro V hSV; (try dsimp only at hSV); (first | (go_simp; done) | (go_simp; with_reducible rfl)))); simp only [Act.put, List.setIfInBounds_toArray, List.set_cons_zero, List.set_cons_succ])
        (refine AnyT.take (i := 16) (v := ?_) rfl (by kernel_rfl) (fun _ _ _ h => h) (Or.inl ⟨by rfl, ?_⟩) (by assumption) ?_; rotate_left; (· (intro V hSV; (try dsimp only at hSV); (first | (go_simp; done) | (go_simp; with_reducible rfl)))); simp only [Act.put, List.setIfInBounds_toArray, List.set_cons_zero, List.set_cons_succ])
        (refine AnyT.take (i := 17) (v := ?_) rfl (by kernel_rfl) (fun _ _ _ h => h) (Or.inl ⟨by rfl, ?_⟩) (by assumption) ?_; rotate_left; (· (intro V hSV; (try dsimp only at hSV); (first | (go_simp; done) | (go_simp; with_reducible rfl)))); simp only [Act.put, List.setIfInBounds_toArray, List.set_cons_zero, List.set_cons_succ])
        refine AnyT.ready (rs := [1, 10]) (by kernel_rfl) (by simp) (ReadyT.cons rfl (fun K hK => ?_) (ReadyT.cons rfl (fun K hK => ?_) ReadyT.nil))
        · go_simp
          refine hK.out _ _ (fun _ => S1.out _ (by repeat (first | exact Keeps.refl _ _ | exact kA.out | exact kB.out | exact kC.out | apply Keeps.drew | apply Keeps.alloc))) (fun hH => ?_)
          have hHeld := hH (of_decide_eq_true (by kernel_rfl))
          clear hH hK K
          try simp only [Act.put, List.setIfInBounds_toArray, List.set_cons_zero, List.set_cons_succ]
          refine AnyT.ready (rs := [8, 10]) (by kernel_rfl) (by simp) (ReadyT.cons rfl (fun K hK => ?_) (ReadyT.cons rfl (fun K hK => ?_) ReadyT.nil))
          · refine step_append_mine rfl _ _ rfl wq (.slice (some ⟨_, 0, none⟩) 0 0) [] (L.take L.length) rfl (by first | exact oE.out | exact oET.out | exact oTE.out) (by repeat (first | exact Keeps.refl _ _ | exact kA.out | exact kB.out | exact kC.out | apply Keeps.drew | apply Keeps.alloc)) _ rfl (by exact rd_take rfl (ownsRow_keeps R4.out (by repeat (first | exact Keeps.refl _ _ | exact kA.out | exact kB.out | apply Keeps.drew | apply Keeps.alloc)) fun _ _ => id) L.length hk _) L.length (by simp; try omega) (by omega) ?_
            intro aoA capA VA hO kA kA2
            have oA := Lib.hid hO
            have kA := Lib.hid kA
            have kA2 := Lib.hid kA2
            clear hO
            refine hK.out _ _ (fun _ => S1.out _ (by repeat (first | exact Keeps.refl _ _ | exact kA.out | exact kB.out | exact kC.out | apply Keeps.drew | apply Keeps.alloc))) (fun hH => ?_)
            have hHeld := hH (of_decide_eq_true (by kernel_rfl))
            clear hH hK K
            try simp only [Act.put, List.setIfInBounds_toArray, List.set_cons_zero, List.set_cons_succ]
            refine AnyT.ready (rs := [10]) (by kernel_rfl) (by simp) (ReadyT.cons rfl (fun K hK => ?_) ReadyT.nil)
            go_simp
            refine hK.out _ _ (fun _ => S1.out _ (by repeat (first | exact Keeps.refl _ _ | exact kA.out | exact kB.out | exact kC.out | apply Keeps.drew | apply Keeps.alloc))) (fun hH => ?_)
            have hHeld := hH (of_decide_eq_true (by kernel_rfl))
            clear hH hK K
            try simp only [Act.put, List.setIfInBounds_toArray, List.set_cons_zero, List.set_cons_succ]
            refine AnyT.ready (rs := [11]) (by kernel_rfl) (by simp) (ReadyT.cons rfl (fun K hK => ?_) ReadyT.nil)
            refine step_append_mine rfl _ _ rfl wq (.slice aoA L.length capA) ([] ++ L.take L.length) [t] rfl (by first | exact oA.out | exact oA.out.same ((Keeps.refl _ _).alloc _)) (by repeat (first | exact Keeps.refl _ _ | exact kA.out | exact kB.out | exact kC.out | apply Keeps.drew | apply Keeps.alloc)) (.slice (some ⟨_, 0, none⟩) 1 1) rfl (by first | exact lit_one (Whole.made _ _ _) 1 | exact lit_one (mET.out.keeps kA2.out (by simp [Value.ownBlock])) 1 | exact lit_one (mTE.out.keeps kA2.out (by simp [Value.ownBlock])) 1) (L.length + 1) (by simp; try omega) (by omega) ?_
            intro aoB capB VB hO kB kB2
            have oB := Lib.hid hO
            have kB := Lib.hid kB
            clear hO kB2
            refine hK.out _ _ (fun _ => S1.out _ (by repeat (first | exact Keeps.refl _ _ | exact kA.out | exact kB.out | exact kC.out | apply Keeps.drew | apply Keeps.alloc))) (fun hH => ?_)
            have hHeld := hH (of_decide_eq_true (by kernel_rfl))
            clear hH hK K
            try simp only [Act.put, List.setIfInBounds_toArray, List.set_cons_zero, List.set_cons_succ]
            refine AnyT.ready (rs := [18]) (by kernel_rfl) (by simp) (ReadyT.cons rfl (fun K hK => ?_) ReadyT.nil)
            refine step_append_mine rfl _ _ rfl wq (.slice aoB (L.length + 1) capB) ([] ++ L.take L.length ++ [t]) (L.drop L.length) rfl oB.out kB.out _ rfl (by rw [List.drop_of_length_le (Nat.le_refl _)]; exact rd_nil _ _ _) (L.length + 1) (by simp; try omega) (by omega) ?_
            intro aoC capC VC hO kC kC2
            have oC := Lib.hid hO
            have c0 := (S1.out _ kC).1
            have f0 := S2.out _ kC
            have kC := Lib.hid kC
            clear hO kC2
            refine hK.out _ _ (fun _ => S1.out _ (by repeat (first | exact Keeps.refl _ _ | exact kA.out | exact kB.out | exact kC.out | apply Keeps.drew | apply Keeps.alloc))) (fun hH => ?_)
            have hHeld := hH (of_decide_eq_true (by kernel_rfl))
            clear hH hK K
            try simp only [Act.put, List.setIfInBounds_toArray, List.set_cons_zero, List.set_cons_succ]
            (refine AnyT.take (i := 19) (v := ?_) rfl (by kernel_rfl) (fun _ _ _ h => h) (Or.inl ⟨by rfl, ?_⟩) (by assumption) ?_; rotate_left; (· (intro V hSV; (try dsimp only at hSV); (first | (go_simp; done) | (go_simp; with_reducible rfl)))); simp only [Act.put, List.setIfInBounds_toArray, List.set_cons_zero, List.set_cons_succ])
            (refine AnyT.take (i := 20) (v := ?_) rfl (by kernel_rfl) (fun _ _ _ h => h) (Or.inl ⟨by rfl, ?_⟩) (by assumption) ?_; rotate_left; (· (intro V hSV; (try dsimp only at hSV); (first | (go_simp; done) | (go_simp; with_reducible rfl)))); simp only [Act.put, List.setIfInBounds_toArray, List.set_cons_zero, List.set_cons_succ])
            refine AnyT.ready (rs := [21]) (by kernel_rfl) (by simp) (ReadyT.cons rfl (fun K hK => ?_) ReadyT.nil)
            go_simp
            refine hK.out _ _ (fun h => absurd h (of_decide_eq_false (by kernel_rfl))) (fun _ => ?_)
            clear hK K
            try simp only [Act.put, List.setIfInBounds_toArray, List.set_cons_zero, List.set_cons_succ]
            refine AnyT.done (by kernel_rfl) ?_ _
            go_wp2_with fail
            all_goals go_end0
            all_goals exact ⟨rfl, fin.out _ _ _ kC.out oC.out⟩
          · go_simp
            refine hK.out _ _ (fun _ => S1.out _ (by repeat (first | exact Keeps.refl _ _ | exact kA.out | exact kB.out | exact kC.out | apply Keeps.drew | apply Keeps.alloc))) (fun hH => ?_)
            have hHeld := hH (of_decide_eq_true (by kernel_rfl))
            clear hH hK K
            try simp only [Act.put, List.setIfInBounds_toArray, List.set_cons_zero, List.set_cons_succ]
            refine AnyT.ready (rs := [8]) (by kernel_rfl) (by simp) (ReadyT.cons rfl (fun K hK => ?_) ReadyT.nil)
            refine step_append_mine rfl _ _ rfl wq (.slice (some ⟨_, 0, none⟩) 0 0) [] (L.take L.length) rfl (by first | exact oE.out | exact oET.out | exact oTE.out) (by repeat (first | exact Keeps.refl _ _ | exact kA.out | exact kB.out | exact kC.out | apply Keeps.drew | apply Keeps.alloc)) _ rfl (by exact rd_take rfl (ownsRow_keeps R4.out (by repeat (first | exact Keeps.refl _ _ | exact kA.out | exact kB.out | apply Keeps.drew | apply Keeps.alloc)) fun _ _ => id) L.length hk _) L.length (by simp; try omega) (by omega) ?_
            intro aoA capA VA hO kA kA2
            have oA := Lib.hid hO
            have kA := Lib.hid kA
            have kA2 := Lib.hid kA2
            clear hO
            refine hK.out _ _ (fun _ => S1.out _ (by repeat (first | exact Keeps.refl _ _ | exact kA.out | exact kB.out | exact kC.out | apply Keeps.drew | apply Keeps.alloc))) (fun hH => ?_)
            have hHeld := hH (of_decide_eq_true (by kernel_rfl))
            clear hH hK K
            try simp only [Act.put, List.setIfInBounds_toArray, List.set_cons_zero, List.set_cons_succ]
            refine AnyT.ready (rs := [11]) (by kernel_rfl) (by simp) (ReadyT.cons rfl (fun K hK => ?_) ReadyT.nil)
            refine step_append_mine rfl _ _ rfl wq (.slice aoA L.length capA) ([] ++ L.take L.length) [t] rfl (by first | exact oA.out | exact oA.out.same ((Keeps.refl _ _).alloc _)) (by repeat (first | exact Keeps.refl _ _ | exact kA.out | exact kB.out | exact kC.out | apply Keeps.drew | apply Keeps.alloc)) (.slice (some ⟨_, 0, none⟩) 1 1) rfl (by first | exact lit_one (Whole.made _ _ _) 1 | exact lit_one (mET.out.keeps kA2.out (by simp [Value.ownBlock])) 1 | exact lit_one (mTE.out.keeps kA2.out (by simp [Value.ownBlock])) 1) (L.length + 1) (by simp; try omega) (by omega) ?_
            intro aoB capB VB hO kB kB2
            have oB := Lib.hid hO
            have kB := Lib.hid kB
            clear hO kB2
            refine hK.out _ _ (fun _ => S1.out _ (by repeat (first | exact Keeps.refl _ _ | exact kA.out | exact kB.out | exact kC.out | apply Keeps.drew | apply Keeps.alloc))) (fun hH => ?_)
            have hHeld := hH (of_decide_eq_true (by kernel_rfl))
            clear hH hK K
            try simp only [Act.put, List.setIfInBounds_toArray, List.set_cons_zero, List.set_cons_succ]
            refine AnyT.ready (rs := [18]) (by kernel_rfl) (by simp) (ReadyT.cons rfl (fun K hK => ?_) ReadyT.nil)
            refine step_append_mine rfl _ _ rfl wq (.slice aoB (L.length + 1) capB) ([] ++ L.take L.length ++ [t]) (L.drop L.length) rfl oB.out kB.out _ rfl (by rw [List.drop_of_length_le (Nat.le_refl _)]; exact rd_nil _ _ _) (L.length + 1) (by simp; try omega) (by omega) ?_
            intro aoC capC VC hO kC kC2
            have oC := Lib.hid hO
            have c0 := (S1.out _ kC).1
            have f0 := S2.out _ kC
            have kC := Lib.hid kC
            clear hO kC2
            refine hK.out _ _ (fun _ => S1.out _ (by repeat (first | exact Keeps.refl _ _ | exact kA.out | exact kB.out | exact kC.out | apply Keeps.drew | apply Keeps.alloc))) (fun hH => ?_)
            have hHeld := hH (of_decide_eq_true (by kernel_rfl))
            clear hH hK K
            try simp only [Act.put, List.setIfInBounds_toArray, List.set_cons_zero, List.set_cons_succ]
            (refine AnyT.take (i := 19) (v := ?_) rfl (by kernel_rfl) (fun _ _ _ h => h) (Or.inl ⟨by rfl, ?_⟩) (by assumption) ?_; rotate_left; (· (intro V hSV; (try dsimp only at hSV); (first | (go_simp; done) | (go_simp; with_reducible rfl)))); simp only [Act.put, List.setIfInBounds_toArray, List.set_cons_zero, List.set_cons_succ])
            (refine AnyT.take (i := 20) (v := ?_) rfl (by kernel_rfl) (fun _ _ _ h => h) (Or.inl ⟨by rfl, ?_⟩) (by assumption) ?_; rotate_left; (· (intro V hSV; (try dsimp only at hSV); (first | (go_simp; done) | (go_simp; with_reducible rfl)))); simp only [Act.put, List.setIfInBounds_toArray, List.set_cons_zero, List.set_cons_succ])
            refine AnyT.ready (rs := [21]) (by kernel_rfl) (by simp) (ReadyT.cons rfl (fun K hK => ?_) ReadyT.nil)
            go_simp
            refine hK.out _ _ (fun h => absurd h (of_decide_eq_false (by kernel_rfl))) (fun _ => ?_)
            clear hK K
            try simp only [Act.put, List.setIfInBounds_toArray, List.set_cons_zero, List.set_cons_succ]
            refine AnyT.done (by kernel_rfl) ?_ _
            go_wp2_with fail
            all_goals go_end0
            all_goals exact ⟨rfl, fin.out _ _ _ kC.out oC.out⟩
        · go_simp
          refine hK.out _ _ (fun _ => S1.out _ (by repeat (first | exact Keeps.refl _ _ | exact kA.out | exact kB.out | exact kC.out | apply Keeps.drew | apply Keeps.alloc))) (fun hH => ?_)
          have hHeld := hH (of_decide_eq_true (by kernel_rfl))
          clear hH hK K
          try simp only [Act.put, List.setIfInBounds_toArray, List.set_cons_zero, List.set_cons_succ]
          refine AnyT.ready (rs := [1]) (by kernel_rfl) (by simp) (ReadyT.cons rfl (fun K hK => ?_) ReadyT.nil)
          go_simp
          refine hK.out _ _ (fun _ => S1.out _ (by repeat (first | exact Keeps.refl _ _ | exact kA.out | exact kB.out | exact kC.out | apply Keeps.drew | apply Keeps.alloc))) (fun hH => ?_)
          have hHeld := hH (of_decide_eq_true (by kernel_rfl))
          clear hH hK K
          try simp only [Act.put, List.setIfInBounds_toArray, List.set_cons_zero, List.set_cons_succ]
          refine AnyT.ready (rs := [8]) (by kernel_rfl) (by simp) (ReadyT.cons rfl (fun K hK => ?_) ReadyT.nil)
          refine step_append_mine rfl _ _ rfl wq (.slice (some ⟨_, 0, none⟩) 0 0) [] (L.take L.length) rfl (by first | exact oE.out | exact oET.out | exact oTE.out) (by repeat (first | exact Keeps.refl _ _ | exact kA.out | exact kB.out | exact kC.out | apply Keeps.drew | apply Keeps.alloc)) _ rfl (by exact rd_take rfl (ownsRow_keeps R4.out (by repeat (first | exact Keeps.refl _ _ | exact kA.out | exact kB.out | apply Keeps.drew | apply Keeps.alloc)) fun _ _ => id) L.length hk _) L.length (by simp; try omega) (by omega) ?_
          intro aoA capA VA hO kA kA2
          have oA := Lib.hid hO
          have kA := Lib.hid kA
          have kA2 := Lib.hid kA2
          clear hO
          refine hK.out _ _ (fun _ => S1.out _ (by repeat (first | exact Keeps.refl _ _ | exact kA.out | exact kB.out | exact kC.out | apply Keeps.drew | apply Keeps.alloc))) (fun hH => ?_)
          have hHeld := hH (of_decide_eq_true (by kernel_rfl))
          clear hH hK K
          try simp only [Act.put, List.setIfInBounds_toArray, List.set_cons_zero, List.set_cons_succ]
          refine AnyT.ready (rs := [11]) (by kernel_rfl) (by simp) (ReadyT.cons rfl (fun K hK => ?_) ReadyT.nil)
          refine step_append_mine rfl _ _ rfl wq (.slice aoA L.length capA) ([] ++ L.take L.length) [t] rfl (by first | exact oA.out | exact oA.out.same ((Keeps.refl _ _).alloc _)) (by repeat (first | exact Keeps.refl _ _ | exact kA.out | exact kB.out | exact kC.out | apply Keeps.drew | apply Keeps.alloc)) (.slice (some ⟨_, 0, none⟩) 1 1) rfl (by first | exact lit_one (Whole.made _ _ _) 1 | exact lit_one (mET.out.keeps kA2.out (by simp [Value.ownBlock])) 1 | exact lit_one (mTE.out.keeps kA2.out (by simp [Value.ownBlock])) 1) (L.length + 1) (by simp; try omega) (by omega) ?_
          intro aoB capB VB hO kB kB2
          have oB := Lib.hid hO
          have kB := Lib.hid kB
          clear hO kB2
          refine hK.out _ _ (fun _ => S1.out _ (by repeat (first | exact Keeps.refl _ _ | exact kA.out | exact kB.out | exact kC.out | apply Keeps.drew | apply Keeps.alloc))) (fun hH => ?_)
          have hHeld := hH (of_decide_eq_true (by kernel_rfl))
          clear hH hK K
          try simp only [Act.put, List.setIfInBounds_toArray, List.set_cons_zero, List.set_cons_succ]
          refine AnyT.ready (rs := [18]) (by kernel_rfl) (by simp) (ReadyT.cons rfl (fun K hK => ?_) ReadyT.nil)
          refine step_append_mine rfl _ _ rfl wq (.slice aoB (L.length + 1) capB) ([] ++ L.take L.length ++ [t]) (L.drop L.length) rfl oB.out kB.out _ rfl (by rw [List.drop_of_length_le (Nat.le_refl _)]; exact rd_nil _ _ _) (L.length + 1) (by simp; try omega) (by omega) ?_
          intro aoC capC VC hO kC kC2
          have oC := Lib.hid hO
          have c0 := (S1.out _ kC).1
          have f0 := S2.out _ kC
          have kC := Lib.hid kC
          clear hO kC2
          refine hK.out _ _ (fun _ => S1.out _ (by repeat (first | exact Keeps.refl _ _ | exact kA.out | exact kB.out | exact kC.out | apply Keeps.drew | apply Keeps.alloc))) (fun hH => ?_)
          have hHeld := hH (of_decide_eq_true (by kernel_rfl))
          clear hH hK K
          try simp only [Act.put, List.setIfInBounds_toArray, List.set_cons_zero, List.set_cons_succ]
          (refine AnyT.take (i := 19) (v := ?_) rfl (by kernel_rfl) (fun _ _ _ h => h) (Or.inl ⟨by rfl, ?_⟩) (by assumption) ?_; rotate_left; (· (intro V hSV; (try dsimp only at hSV); (first | (go_simp; done) | (go_simp; with_reducible rfl)))); simp only [Act.put, List.setIfInBounds_toArray, List.set_cons_zero, List.set_cons_succ])
          (refine AnyT.take (i := 20) (v := ?_) rfl (by kernel_rfl) (fun _ _ _ h => h) (Or.inl ⟨by rfl, ?_⟩) (by assumption) ?_; rotate_left; (· (intro V hSV; (try dsimp only at hSV); (first | (go_simp; done) | (go_simp; with_reducible rfl)))); simp only [Act.put, List.setIfInBounds_toArray, List.set_cons_zero, List.set_cons_succ])
          refine AnyT.ready (rs := [21]) (by kernel_rfl) (by simp) (ReadyT.cons rfl (fun K hK => ?_) ReadyT.nil)
          go_simp
          refine hK.out _ _ (fun h => absurd h (of_decide_eq_false (by kernel_rfl))) (fun _ => ?_)
          clear hK K
          try simp only [Act.put, List.setIfInBounds_toArray, List.set_cons_zero, List.set_cons_succ]
          refine AnyT.done (by kernel_rfl) ?_ _
          go_wp2_with fail
          all_goals go_end0
          all_goals exact ⟨rfl, fin.out _ _ _ kC.out oC.out⟩
end Go.Proofs.YtjmkfloaagppdaaDoor
