/-
  The document's sets: Read, Keep, Back by contract.
-/
import Derived.Test.YtkolkimmhlmlgaaDoorStRef
namespace Go.Proofs.YtkolkimmhlmlgaaDoor
open Go.RowKit Go.Maps Go.Extern.Stop Go.Stop Go.Extern

theorem mvs_self {w : World} {Y : Nat → Prop} : Mvs w Y Y := fun _ h => .inl h

set_option maxRecDepth 100000 in
theorem rread_any {w : World} {r : Nat} {A : AS} {Y : Nat → Prop} (h : RS w r A Y) (ok : A.Ok) (c v : Int) :
    Calls Tryd.prog 21 #[.pointer (some ⟨r, 0, none⟩), .int .u64 c, .int .i64 v] w fun e w' => e = .returned (.tuple #[.int .i64 ((aRead A c v).2.1 : Nat), .int .i64 ((aRead A c v).2.2 : Nat)]) ∧ RDid w w' r (aRead A c v).1 Y := by
  have h' := Lib.hid h
  obtain ⟨vR, vW, vM, ws, h⟩ := h
  have few := ok.rfew
  obtain ⟨n, hn⟩ : ∃ n, A.R.length = n := ⟨_, rfl⟩
  obtain ⟨o, cap, rfl, ho⟩ := row2_cells h.reads hn
  have c1 : w.cell? ⟨r, 0, none⟩ = some (.slice o n cap) := h.blk.at_ 0
  have f1 : w.frozen? ⟨r, 0, none⟩ = false := h.blk.free 0
  rw [hn] at few
  have hn' := Lib.hid hn
  have hP := Lib.hid h
  clear h hn
  go_enter Tryd.func21, Tryd.ntmps21
  go_wp2_with fail
  go_loop [8] (fun iv => ∃ i : Nat, iv = .int .i64 i ∧ i ≤ n ∧ ∀ (j : Nat) (p : Int × Int), j < i → A.R[j]? = some p → p.1 ≠ c) (fun iv => n - (intOf iv).toNat)
  case atStart => exact ⟨0, rfl, Nat.zero_le _, fun j p h => absurd h (Nat.not_lt_zero _)⟩
  case round =>
    obtain ⟨i, rfl, hi, hk⟩ := hrel
    have K := Lib.hid hk
    clear hk
    by_cases hlt : i < n
    · have b1 : (i : Int) < (n : Int) := by omega
      obtain ⟨g, rfl, hc⟩ := ho (by omega)
      obtain ⟨d, u, hd⟩ : ∃ d u, A.R[i]? = some (d, u) := ⟨_, _, List.getElem?_eq_getElem (by rw [hn'.out]; exact hlt)⟩
      obtain ⟨d0, d1⟩ := hc i _ hd
      have hd' := Lib.hid hd
      simp only at d0 d1
      clear hc hd ho
      by_cases he : d = c
      · subst he
        obtain ⟨q1, q2⟩ := plc_first K.out hd'.out
        by_cases hu : u = v
        · subst hu
          have ea : aRead A d u = (A, 0, 0) := by unfold aRead; rw [q2]; simp
          have E := Lib.hid ea
          have hb : (u != u) = false := by simp
          clear ea q1 q2
          go_wp2_with fail
          go_ret2
          rw [E.out]
          exact ⟨rfl, RDid.same h'.out (Keeps.refl _ _)⟩
        · have ea : aRead A d v = (A, 12, i + 1) := by unfold aRead; rw [q2, q1]; simp [hu]
          have E := Lib.hid ea
          have hb : (u != v) = true := by simpa using hu
          have wi : IntKind.i64.wrap ((i : Int) + 1) = ((i + 1 : Nat) : Int) := by rw [show (i : Int) + 1 = ((i + 1 : Nat) : Int) by omega]; exact IntWalk.i64_in _ (by omega)
          clear ea q1 q2
          go_wp2_with fail
          go_ret2
          rw [E.out]
          exact ⟨rfl, RDid.same h'.out (Keeps.refl _ _)⟩
      · have hb : (d == c) = false := by simpa using he
        clear he
        go_wp2_with fail
        go_round
        case rel =>
          refine ⟨i + 1, by go_num, by omega, fun j p hj hp => ?_⟩
          rcases Nat.lt_or_ge j i with h | h
          · exact K.out j p h hp
          · obtain rfl : j = i := by omega
            rw [hd'.out] at hp
            injection hp with hp
            rw [← hp]
            simpa using hb
        case measure => simp [intOf]; omega
    · obtain rfl : i = n := by omega
      have b1 : ¬ (i : Int) < (i : Int) := by omega
      have hl := (plc_no fun j p hp => K.out j p (by have := (List.getElem?_eq_some_iff.1 hp).1; have := hn'.out; omega) hp).2
      by_cases hf : 500 ≤ i
      · have ea : aRead A c v = (A, 8, 0) := by unfold aRead; rw [hl]; simp [hn'.out, hf]
        have E := Lib.hid ea
        have b2 : (500 : Int) ≤ (i : Int) := by omega
        clear ea hl ho
        go_wp2_with fail
        go_ret2
        rw [E.out]
        exact ⟨rfl, RDid.same h'.out (Keeps.refl _ _)⟩
      · have ea : aRead A c v = ({ A with R := A.R ++ [(c, v)] }, 0, 0) := by unfold aRead; rw [hl]; simp [hn'.out, hf]
        have E := Lib.hid ea
        have b2 : ¬ (500 : Int) ≤ (i : Int) := by omega
        clear ea hl ho K
        go_wp2_with (first
          | (at_builtin; refine wpList_append_k seenK _ rfl _ _ rfl (.slice o i cap) A.R [(c, v)] rfl (World.ownsRow.alloc hP.out.reads _) ⟨w.heap.size, 0, none⟩ 1 _ rfl rfl (one_pair (Whole.made w 50 #[.int .u64 c, .int .i64 v])) (i + 1) (by rw [hn'.out]) (by omega) ?_
             intro ao ac w2 hr2 hg2 ho2
             have R2 := Lib.hid hr2
             have O2 := Lib.hid ho2
             have K2 := Lib.hid (show Keeps (fun x => (Value.slice o i cap).ownBlock = some x) w w2 from ((Keeps.refl _ w).alloc _).grown hg2 fun k hk _ => hk)
             have B2 := Lib.hid (hP.out.blk.keeps K2.out (fun e => row_ne hP.out.reads hP.out.blk (by decide) e))
             have f2 : w2.frozen? ⟨r, 0, none⟩ = false := B2.out.free 0
             have c2 : w2.cell? ⟨r, 0, none⟩ = some (.slice o i cap) := B2.out.at_ 0
             clear hr2 hg2 ho2))
        go_ret2
        obtain ⟨W3, hW3⟩ : ∃ W, W = w2.setCell ⟨r, 0, none⟩ (.slice ao (i + 1) ac) := ⟨_, rfl⟩
        rw [← hW3, E.out]
        have ks : Keeps (fun x => x = r) w2 W3 := by rw [hW3]; exact (Keeps.refl (fun x => x = r) w2).setCell (p := ⟨r, 0, none⟩) (fun _ => rfl) _
        have kk : Keeps (fun x => (Value.slice o i cap).ownBlock = some x ∨ x = r) w W3 := (K2.out.mono fun _ _ h => .inl h).trans ks fun _ _ h => .inr h
        have nrow : ∀ {t : TypeId} {size : Nat} {v : Value} {m : Nat} {xs : List Value}, w.ownsRow 0 t size v m xs → t ≠ 50 → t ≠ 32 → ∀ g, v.ownBlock = some g → ¬ ((Value.slice o i cap).ownBlock = some g ∨ g = r) := fun hv n1 n2 g hg e => by
          rcases e with e | e
          · exact row_ne_row hv hP.out.reads n1 hg e
          · exact row_ne hv hP.out.blk n2 (by rw [hg, e])
        have R3 : Row2 .i64 50 W3 (.slice ao (i + 1) ac) (A.R ++ [(c, v)]) := ownsRow_keeps R2.out ks fun g hg e => row_ne R2.out B2.out (by decide) (by rw [hg, e])
        refine ⟨rfl, fun y => Y y ∨ (Value.slice ao (i + 1) ac).ownBlock = some y, ⟨_, vW, vM, ws, {
          blk := by rw [hW3]; exact B2.out.set_ 0 _
          reads := R3
          writes := ownsRow_keeps hP.out.writes kk (nrow hP.out.writes (by decide) (by decide))
          marks := ownsRow_keeps hP.out.marks kk (nrow hP.out.marks (by decide) (by decide))
          len := hP.out.len
          each := fun j v m hv hm => ownsRow_keeps (hP.out.each j v m hv hm) kk (nrow (hP.out.each j v m hv hm) (by decide) (by decide))
          inY := ⟨.inl hP.out.inY.1, fun g hg => .inr hg, fun g hg => .inl (hP.out.inY.2.2.1 g hg), fun g hg => .inl (hP.out.inY.2.2.2.1 g hg), fun v hv g hg => .inl (hP.out.inY.2.2.2.2 v hv g hg)⟩
          old := fun y hy => by
            rcases hy with hy | hy
            · exact Nat.lt_of_lt_of_le (hP.out.old y hy) kk.size
            · exact (World.ownsRow.lt R3 y hy).2 }⟩, fun y hy => ?_, kk.mono fun y _ hy => ?_⟩
        · rcases hy with hy | hy
          · exact .inl hy
          · rcases O2.out with e | e
            · rw [e] at hy
              exact .inl (hP.out.inY.2.1 y hy)
            · rw [e] at hy
              injection hy with hy
              subst hy
              exact .inr (by simp)
        · rcases hy with hy | hy
          · exact hP.out.inY.2.1 y hy
          · rw [hy]; exact hP.out.inY.1

/-- A row cut short. -/
theorem ownsRow_take {w : World} {base : Nat} {e : TypeId} {g n c : Nat} {xs : List Value} (h : w.ownsRow base e 1 (.slice (some ⟨g, 0, none⟩) n c) n xs) (m : Nat) (hm : m ≤ n) : w.ownsRow base e 1 (.slice (some ⟨g, 0, none⟩) m c) m (xs.take m) := by
  obtain ⟨h1, h2⟩ := h
  refine ⟨by simp; omega, .inr ?_⟩
  rcases h2 with ⟨hv, _⟩ | ⟨g', cap, cur, hv, hb, hg, r1, r2, r3, r4⟩
  · cases hv
  · injection hv with hv _ hc
    injection hv with hv
    injection hv with hv
    subst hv
    refine ⟨g, cap, cur, by rw [hc], hb, hg, by omega, r2, r3, ?_⟩
    rw [← r4, List.take_take, Nat.mul_one, Nat.mul_one, Nat.min_eq_left hm]

theorem rkeep_any {w : World} {r : Nat} {A : AS} {Y : Nat → Prop} (h : RS w r A Y) (ok : A.Ok) (m : Int) :
    Calls Tryd.prog 25 #[.pointer (some ⟨r, 0, none⟩), .int .i64 m] w fun e w' => e = .returned (.int .i64 ((aKeep A m).2 : Nat)) ∧ RDid w w' r (aKeep A m).1 Y := by
  have h' := Lib.hid h
  obtain ⟨vR, vW, vM, ws, h⟩ := h
  have few := ok.mfew
  obtain ⟨n, hn⟩ : ∃ n, ws.length = n := ⟨_, rfl⟩
  obtain ⟨o, cap, rfl, ho⟩ := row_shape h.marks
  have c2 : w.cell? ⟨r, 2, none⟩ = some (.slice o n cap) := by rw [← hn]; exact h.blk.at_ 2
  have hlen := h.len
  rw [hn] at ho hlen
  by_cases h1 : m < 1
  · have ea : aKeep A m = (A, 6) := by unfold aKeep; rw [if_pos (.inl h1)]
    have E := Lib.hid ea
    have hd : decide (m < 1) = true := decide_eq_true h1
    clear ea h ho hn hlen
    go_enter Tryd.func25, Tryd.ntmps25
    go_wp2_with fail
    go_ret
    rw [E.out]
    exact ⟨rfl, RDid.same h'.out (Keeps.refl _ _)⟩
  by_cases h2 : (n : Int) < m
  · have ea : aKeep A m = (A, 6) := by unfold aKeep; rw [if_pos (.inr (by omega))]
    have E := Lib.hid ea
    clear ea h ho hn hlen
    go_enter Tryd.func25, Tryd.ntmps25
    go_wp2_with fail
    go_ret
    rw [E.out]
    exact ⟨rfl, RDid.same h'.out (Keeps.refl _ _)⟩
  have ea : aKeep A m = ({ A with M := A.M.take (m.toNat - 1) }, 0) := by unfold aKeep; rw [if_neg (by omega)]
  obtain ⟨k, hk⟩ : ∃ k, m.toNat - 1 = k := ⟨_, rfl⟩
  rw [hk] at ea
  obtain rfl : m = ((k + 1 : Nat) : Int) := by omega
  obtain ⟨g, rfl⟩ := ho (by omega)
  have hcap : n ≤ cap ∧ cap ≤ maxLen := by
    rcases h.marks.2 with ⟨hv, _⟩ | ⟨g', cap', cur, hv, hb, hg, r1, r2, _⟩
    · cases hv
    · injection hv with _ _ hc
      rw [hc, ← hn]; exact ⟨r1, r2⟩
  have b1 : (k : Int) ≤ (cap : Int) := by omega
  have wk : IntKind.i64.wrap ((((k + 1 : Nat) : Int)) - 1) = (k : Int) := by rw [show ((k + 1 : Nat) : Int) - 1 = (k : Int) by omega]; exact IntWalk.i64_in _ (by omega)
  have f2 : w.frozen? ⟨r, 2, none⟩ = false := h.blk.free 2
  have E := Lib.hid ea
  have hP := Lib.hid h
  have hn' := Lib.hid hn
  obtain ⟨m, hm⟩ : ∃ m, k + 1 = m := ⟨_, rfl⟩
  rw [hm] at wk h1 h2 E ⊢
  have hkn : k ≤ n := by omega
  have hc0 : (cap : Int) ≤ 9223372036854775807 := by have := hcap.2; unfold maxLen at this; omega
  have hkz : (0 : Int) ≤ (k : Int) := by omega
  clear ea h ho hn hlen hk hcap
  go_enter Tryd.func25, Tryd.ntmps25
  go_wp2_with fail
  go_ret
  rw [E.out]
  obtain ⟨W3, hW3⟩ : ∃ W, W = w.setCell ⟨r, 2, none⟩ (.slice (some ⟨g, 0, none⟩) k cap) := ⟨_, rfl⟩
  rw [← hW3]
  have ks : Keeps (fun x => x = r) w W3 := by rw [hW3]; exact (Keeps.refl (fun x => x = r) w).setCell (p := ⟨r, 2, none⟩) (fun _ => rfl) _
  have nrow : ∀ {t : TypeId} {size : Nat} {v : Value} {m : Nat} {xs : List Value}, w.ownsRow 0 t size v m xs → t ≠ 32 → ∀ g, v.ownBlock = some g → ¬ g = r := fun hv n2 g hg e => row_ne hv hP.out.blk n2 (by rw [hg, e])
  have hmk : w.ownsRow 0 29 1 (.slice (some ⟨g, 0, none⟩) ws.length cap) ws.length (ws.map slv) := hP.out.marks
  rw [hn'.out] at hmk
  have hl : (ws.take k).length = k := by rw [List.length_take, hn'.out]; omega
  refine ⟨rfl, Y, ⟨vR, vW, _, ws.take k, {
    blk := by rw [hW3]; exact hP.out.blk.set_ 2 _
    reads := ownsRow_keeps hP.out.reads ks (nrow hP.out.reads (by decide))
    writes := ownsRow_keeps hP.out.writes ks (nrow hP.out.writes (by decide))
    marks := by
      have h5 := ownsRow_keeps (ownsRow_take hmk k hkn) ks (nrow (ownsRow_take hmk k hkn) (by decide))
      show W3.ownsRow 0 29 1 _ (ws.take k).length ((ws.take k).map slv)
      rw [hl, List.map_take]
      exact h5
    len := by rw [hl]; show k = (A.M.take k).length; have := hP.out.len; have := hn'.out; rw [List.length_take]; omega
    each := fun j v m hv hm => by
      have hj : j < k := by have := (List.getElem?_eq_some_iff.1 hv).1; omega
      have hv' : ws[j]? = some v := by rw [← hv, List.getElem?_take_of_lt hj]
      have hm' : A.M[j]? = some m := by rw [← hm]; show _ = (A.M.take k)[j]?; rw [List.getElem?_take_of_lt hj]
      exact ownsRow_keeps (hP.out.each j v m hv' hm') ks (nrow (hP.out.each j v m hv' hm') (by decide))
    inY := ⟨hP.out.inY.1, hP.out.inY.2.1, hP.out.inY.2.2.1, fun g' hg' => hP.out.inY.2.2.2.1 g' (by rw [← hg']; rfl), fun v hv => hP.out.inY.2.2.2.2 v (List.mem_of_mem_take hv)⟩
    old := fun y hy => Nat.lt_of_lt_of_le (hP.out.old y hy) ks.size }⟩, mvs_self, ks.mono fun y _ hy => by rw [hy]; exact hP.out.inY.1⟩
theorem rback_any {w : World} {r : Nat} {A : AS} {Y : Nat → Prop} (h : RS w r A Y) (ok : A.Ok) (m : Int) :
    Calls Tryd.prog 26 #[.pointer (some ⟨r, 0, none⟩), .int .i64 m] w fun e w' => e = .returned (.int .i64 ((aBack A m).2 : Nat)) ∧ RDid w w' r (aBack A m).1 Y := by
  have h' := Lib.hid h
  obtain ⟨vR, vW, vM, ws, h⟩ := h
  have few := ok.mfew
  obtain ⟨n, hn⟩ : ∃ n, ws.length = n := ⟨_, rfl⟩
  obtain ⟨o, cap, rfl, ho⟩ := row_shape h.marks
  have c2 : w.cell? ⟨r, 2, none⟩ = some (.slice o n cap) := by rw [← hn]; exact h.blk.at_ 2
  have hlen := h.len
  rw [hn] at ho hlen
  by_cases h1 : m < 1
  · have ea : aBack A m = (A, 6) := by unfold aBack; rw [if_pos (.inl h1)]
    have E := Lib.hid ea
    have hd : decide (m < 1) = true := decide_eq_true h1
    clear ea h ho hn hlen
    go_enter Tryd.func26, Tryd.ntmps26
    go_wp2_with fail
    go_ret
    rw [E.out]
    exact ⟨rfl, RDid.same h'.out (Keeps.refl _ _)⟩
  by_cases h2 : (n : Int) < m
  · have ea : aBack A m = (A, 6) := by unfold aBack; rw [if_pos (.inr (by omega))]
    have E := Lib.hid ea
    clear ea h ho hn hlen
    go_enter Tryd.func26, Tryd.ntmps26
    go_wp2_with fail
    go_ret
    rw [E.out]
    exact ⟨rfl, RDid.same h'.out (Keeps.refl _ _)⟩
  have ea : aBack A m = ({ A with W := A.M.getD (m.toNat - 1) [], M := A.M.take (m.toNat - 1) }, 0) := by unfold aBack; rw [if_neg (by omega)]
  obtain ⟨k, hk⟩ : ∃ k, m.toNat - 1 = k := ⟨_, rfl⟩
  rw [hk] at ea
  obtain rfl : m = ((k + 1 : Nat) : Int) := by omega
  obtain ⟨g, rfl⟩ := ho (by omega)
  have hcap : n ≤ cap ∧ cap ≤ maxLen := by
    rcases h.marks.2 with ⟨hv, _⟩ | ⟨g', cap', cur, hv, hb, hg, r1, r2, _⟩
    · cases hv
    · injection hv with _ _ hc
      rw [hc, ← hn]; exact ⟨r1, r2⟩
  have b1 : (k : Int) ≤ (cap : Int) := by omega
  have wk : IntKind.i64.wrap ((((k + 1 : Nat) : Int)) - 1) = (k : Int) := by rw [show ((k + 1 : Nat) : Int) - 1 = (k : Int) by omega]; exact IntWalk.i64_in _ (by omega)
  have f2 : w.frozen? ⟨r, 2, none⟩ = false := h.blk.free 2
  have f1 : w.frozen? ⟨r, 1, none⟩ = false := h.blk.free 1
  have c1 : w.cell? ⟨r, 1, none⟩ = some vW := h.blk.at_ 1
  have hkn0 : k < n := by omega
  obtain ⟨sv, hsv⟩ : ∃ sv, ws[k]? = some sv := ⟨_, List.getElem?_eq_getElem (by rw [hn]; exact hkn0)⟩
  have hmk0 : w.ownsRow 0 29 1 (.slice (some ⟨g, 0, none⟩) ws.length cap) ws.length (ws.map slv) := h.marks
  have ck : w.cell? ⟨g, k, none⟩ = some (slv sv) := by
    rw [hmk0.cellAt k (by omega), List.getElem?_map, hsv]
    rfl
  obtain ⟨so, sn, sc⟩ := sv
  replace ck : w.cell? ⟨g, k, none⟩ = some (.slice so sn sc) := ck
  have b2 : (k : Int) < (n : Int) := by omega
  obtain ⟨W2, hW2⟩ : ∃ W, W = w.setCell ⟨r, 1, none⟩ (.slice so sn sc) := ⟨_, rfl⟩
  have c2' : W2.cell? ⟨r, 2, none⟩ = some (.slice (some ⟨g, 0, none⟩) n cap) := by
    rw [hW2]
    have := (h.blk.set_ 1 (.slice so sn sc)).at_ 2
    rw [hn] at this
    exact this
  have f2' : W2.frozen? ⟨r, 2, none⟩ = false := by rw [hW2]; exact (h.blk.set_ 1 _).free 2
  have hW2' := Lib.hid hW2
  have ngr : ¬ g = r := fun e => row_ne hmk0 h.blk (by decide) (by rw [e]; rfl)
  have hsv' := Lib.hid hsv
  have hmem : A.M[k]? = some (A.M.getD k []) := by
    have hkm : k < A.M.length := by omega
    rw [List.getD_eq_getElem?_getD, List.getElem?_eq_getElem hkm]; rfl
  have hmem' := Lib.hid hmem
  have E := Lib.hid ea
  have hP := Lib.hid h
  have hn' := Lib.hid hn
  obtain ⟨m, hm⟩ : ∃ m, k + 1 = m := ⟨_, rfl⟩
  rw [hm] at wk h1 h2 E ⊢
  have hkn : k ≤ n := by omega
  have hc0 : (cap : Int) ≤ 9223372036854775807 := by have := hcap.2; unfold maxLen at this; omega
  have hkz : (0 : Int) ≤ (k : Int) := by omega
  clear ea h ho hn hlen hk hcap hmk0 hsv hmem hW2
  go_enter Tryd.func26, Tryd.ntmps26
  go_upto_region 4 with fail
  rw [← hW2'.out]
  go_wp2_with fail
  go_ret
  rw [E.out]
  obtain ⟨W3, hW3⟩ : ∃ W, W = W2.setCell ⟨r, 2, none⟩ (.slice (some ⟨g, 0, none⟩) k cap) := ⟨_, rfl⟩
  rw [← hW3]
  have ks : Keeps (fun x => x = r) w W3 := by rw [hW3, hW2'.out]; exact ((Keeps.refl (fun x => x = r) w).setCell (p := ⟨r, 1, none⟩) (fun _ => rfl) _).setCell (p := ⟨r, 2, none⟩) (fun _ => rfl) _
  have nrow : ∀ {t : TypeId} {size : Nat} {v : Value} {m : Nat} {xs : List Value}, w.ownsRow 0 t size v m xs → t ≠ 32 → ∀ g, v.ownBlock = some g → ¬ g = r := fun hv n2 g hg e => row_ne hv hP.out.blk n2 (by rw [hg, e])
  have hmk : w.ownsRow 0 29 1 (.slice (some ⟨g, 0, none⟩) ws.length cap) ws.length (ws.map slv) := hP.out.marks
  rw [hn'.out] at hmk
  have hl : (ws.take k).length = k := by rw [List.length_take, hn'.out]; omega
  refine ⟨rfl, Y, ⟨vR, .slice so sn sc, _, ws.take k, {
    blk := by rw [hW3, hW2'.out]; exact (hP.out.blk.set_ 1 _).set_ 2 _
    reads := ownsRow_keeps hP.out.reads ks (nrow hP.out.reads (by decide))
    writes := by
      have h6 := hP.out.each k (so, sn, sc) _ hsv'.out hmem'.out
      exact ownsRow_keeps h6 ks (nrow h6 (by decide))
    marks := by
      have h5 := ownsRow_keeps (ownsRow_take hmk k hkn) ks (nrow (ownsRow_take hmk k hkn) (by decide))
      show W3.ownsRow 0 29 1 _ (ws.take k).length ((ws.take k).map slv)
      rw [hl, List.map_take]
      exact h5
    len := by rw [hl]; show k = (A.M.take k).length; have := hP.out.len; have := hn'.out; rw [List.length_take]; omega
    each := fun j v m hv hm => by
      have hj : j < k := by have := (List.getElem?_eq_some_iff.1 hv).1; omega
      have hv' : ws[j]? = some v := by rw [← hv, List.getElem?_take_of_lt hj]
      have hm' : A.M[j]? = some m := by rw [← hm]; show _ = (A.M.take k)[j]?; rw [List.getElem?_take_of_lt hj]
      exact ownsRow_keeps (hP.out.each j v m hv' hm') ks (nrow (hP.out.each j v m hv' hm') (by decide))
    inY := ⟨hP.out.inY.1, hP.out.inY.2.1, fun g' hg' => hP.out.inY.2.2.2.2 (so, sn, sc) (List.mem_of_getElem? hsv'.out) g' hg', fun g' hg' => hP.out.inY.2.2.2.1 g' (by rw [← hg']; rfl), fun v hv => hP.out.inY.2.2.2.2 v (List.mem_of_mem_take hv)⟩
    old := fun y hy => Nat.lt_of_lt_of_le (hP.out.old y hy) ks.size }⟩, mvs_self, ks.mono fun y _ hy => by rw [hy]; exact hP.out.inY.1⟩
end Go.Proofs.YtkolkimmhlmlgaaDoor
