/-
  blocks: Free by contract: a good ref's block is not live any more, has the next generation, and its place may be given out again; ErrStale, ErrNil.
-/
import Derived.Test.YtipogkgolbmgkaaGreatDoorBkAlloc
import Derived.Maps.AppendAt
namespace Go.Proofs.YtipogkgolbmgkaaGreatDoor
open Go.RowKit Go.Extern.Stop Go.Stop Go.Extern

theorem free_nil (r : Int) (w : World) :
    Calls Tryz.prog 57 #[.pointer none, .int .u64 r] w fun e w' => e = .returned (.iface 60 (.int .i64 1)) ∧ w = w' := by
  go_enter Tryz.func57, Tryz.ntmps57
  go_wp2_with (go_at_call 33; refine (none_bk_nil _).mono ?_; rintro e w' ⟨rfl, rfl⟩)
  go_ret
  exact ⟨rfl, rfl⟩

theorem free_miss {b : Nat} {ws : List Int} {cnt : Nat} {st : St} {X : Nat → Prop} (ref : Nat) (hr : ref < 18446744073709551616) (hB : st.get ref = none) (w : World) (h : Bk w b ws cnt st X) :
    Calls Tryz.prog 57 #[.pointer (some ⟨b, 0, none⟩), .int .u64 ref] w fun e w' => e = .returned (.iface 60 (.int .i64 5)) ∧ Keeps (fun _ => False) w w' := by
  obtain ⟨a, c0⟩ := h.cell0
  have cf' := Lib.hid (find_miss ref hr hB w h)
  clear h hB
  go_enter Tryz.func57, Tryz.ntmps57
  go_wp2_with (first
    | (go_at_call 33; refine (none_bk _ c0).mono ?_; rintro e w' ⟨rfl, rfl⟩)
    | (go_at_call 43; refine cf'.out.mono ?_; rintro e w' ⟨rfl, hK⟩; have hK' := Lib.hid hK; clear hK))
  go_ret
  exact ⟨rfl, hK'.out.alloc _⟩

/-- append of one element to a row of the call's own, as one step of a region that draws. -/
theorem step_append_mine {P : Program} {ops : Array Oper} {o : Oper} {a : Act} {w : World} {K : Act → World → Prop} {Q : Exit → Act → World → Prop} {E : Prop}
    (hg : o.guard = none) (s x : Operand) (t : TypeId) (hop : o.op = Op.call { callee := Callee.builtin Builtin.append, args := #[s, x], argTypes := #[t, t] })
    (e : TypeId) (i : TypeInfo) (z : Value) (bytes : Nat) (ht : P.underlying t = some (.slice e)) (hi : P.info? e = some i) (hz : i.zero = some z) (hsize : i.size = 1) (hby : i.bytes = bytes) (hzs : z.cells.size = 1)
    (v : Value) (n : Nat) (xs : List Value) (hs : a.eval s = v) (hown : w.ownsRow 0 e 1 v n xs)
    (ad : Addr) (c : Nat) (y : Value) (hx : a.eval x = .slice (some ad) 1 c) (hnews : w.cell? ad = some y) (h1 : y.oneCell' = true)
    (h63 : n + 1 ≤ maxLen) (hbytes : (n + 1) * bytes ≤ 140737488355328)
    (hK : ∀ g cap w', w'.ownsRow 0 e 1 (.slice (some ⟨g, 0, none⟩) (n + 1) cap) (n + 1) (xs ++ [y]) → w.grownBy w' v.ownBlock → (v.ownBlock = some g ∨ g = w.heap.size) → K (a.put o.dst (.slice (some ⟨g, 0, none⟩) (n + 1) cap)) w') :
    if Region.wanted o (yielded ops a.tmps) = true then Oper.wp P o a w K Q else E := by
  have hw : Region.wanted o (yielded ops a.tmps) = true := by simp [Region.wanted, hg]
  rw [if_pos hw]
  have hn : ∀ j u, [y][j]? = some u → w.cell? (ad.add j) = some u := by
    intro j u hj
    match j, hj with
    | 0, hj =>
      simp at hj
      subst hj
      simpa [Addr.add] using hnews
  obtain ⟨v', w', hr, h2, h3, h4, h5⟩ := run_append_own_at (P := P) w 0 t o.type e i z 1 bytes ht hi hz hsize hby hzs (by decide) v n xs hown ad 1 c [y] rfl hn (by intro u hu; rw [List.mem_singleton.1 hu]; exact h1) h63 hbytes (Nat.zero_le _)
  have hshape := h2.2
  rcases hshape with ⟨hv', _⟩ | ⟨g, cap, cur, rfl, _⟩
  · exact absurd (h4.1 hv').2 (by decide)
  · have hloc : v.ownBlock = some g ∨ g = w.heap.size := by
      rcases h5 with h5 | h5
      · exact .inl (by rw [← h5]; rfl)
      · right
        simp [Value.ownBlock] at h5
        exact h5
    unfold Oper.wp
    simp [execOp, hop, resolve, invoke, builtin, hs, hx, hr, Result.andThen]
    exact hK g cap w' h2 h3 hloc

theorem keeps_row {w w' : World} {v : Value} (h : w.grownBy w' v.ownBlock) : Keeps (fun x => v.ownBlock = some x) w w' :=
  (Keeps.refl (fun x => v.ownBlock = some x) w).grown h fun _ hk _ => hk

theorem two_later {w w' : World} {b r fb : Nat} {x y : Value} (h : w.cell? ⟨b, 2, none⟩ = some x ∧ w.cell? ⟨r, 0, none⟩ = some y) (k : Keeps (fun z => z = fb) w w') (lb : b < w.heap.size) (lr : r < w.heap.size) (nb : ¬ b = fb) (nr : ¬ r = fb) :
    w'.cell? ⟨b, 2, none⟩ = some x ∧ w'.cell? ⟨r, 0, none⟩ = some y :=
  ⟨(k.cell (p := ⟨b, 2, none⟩) lb nb).trans h.1, (k.cell (p := ⟨r, 0, none⟩) lr nr).trans h.2⟩

theorem info_int : (Tryz.prog.info? 3).map (fun i => (i.zero, i.size, i.bytes)) = some (some (.int .i64 0), 1, 8) := by kernel_rfl

/-- Behind the append and the store of the row: the state of memory. -/
theorem freed_raw {W A V V2 : World} {b a bw mb fb : Nat} {ws : List Int} {cnt : Nat} {f : Int → Option BV} {fr : Nat → List Nat} {top : Nat} {rows : Int → Option RowV} {X : Nat → Prop} {u : Value} {sz g cap p : Nat} {l : List Nat} (R : BkRaw W b a bw mb fb ws cnt f fr top rows X) (hu : rowVal (rowAt rows sz) = u) (hsz : 1 ≤ sz ∧ sz ≤ 64)
    (kA : Keeps (fun _ => False) W A) (kV : Keeps (fun x => u.ownBlock = some x) A V) (K2 : Keeps (fun x => x = fb) V V2) (M2 : HoldsM Tryz.prog 3 rowE V2 fb (upd rows (sz : Int) (some (g, l.length + 1, cap))))
    (O2 : V.ownsRow 0 3 1 (.slice (some ⟨g, 0, none⟩) (l.length + 1) cap) (l.length + 1) (placeCells l ++ [.int .i64 p])) (hloc : u.ownBlock = some g ∨ g = A.heap.size) (nfb : ¬ u.ownBlock = some fb) :
    BkRaw V2 b a bw mb fb ws cnt f (setFr fr sz (l ++ [p])) top (upd rows (sz : Int) (some (g, l.length + 1, cap))) (fun x => X x ∨ x = g) ∧ Keeps X W V2 ∧ (X g ∨ W.heap.size ≤ g) := by
  have hfbA : fb < A.heap.size := Nat.lt_of_lt_of_le R.freed.lt kA.size
  have hgf : ¬ g = fb := by
    rcases hloc with h | h
    · intro e; exact nfb (by rw [h, e])
    · omega
  have hgV : g < V.heap.size := (O2.lt g rfl).2
  have k1 : Keeps (fun x => x = fb ∨ u.ownBlock = some x) W V := (kA.mono fun _ _ => False.elim).trans kV fun _ _ h => .inr h
  have k2 : Keeps (fun x => x = fb ∨ u.ownBlock = some x) W V2 := k1.trans K2 fun _ _ h => .inl h
  have hX : X g ∨ W.heap.size ≤ g := by
    rcases hloc with h | h
    · exact .inl (R.rowX sz g (by rw [hu]; exact h))
    · exact .inr (by rw [h]; exact kA.size)
  have O3 := ownsRow_keeps O2 K2 fun x hx e => hgf (by simp [Value.ownBlock] at hx; rw [hx]; exact e)
  refine ⟨R.row sz hsz g (l.length + 1) cap (l ++ [p]) M2 k2 (fun x _ h => by rw [hu]; exact h) ?_ ?_ (Nat.lt_of_lt_of_le hgV K2.size), k2.mono fun x _ h => ?_, hX⟩
  · have e : placeCells (l ++ [p]) = placeCells l ++ [Value.int .i64 (p : Int)] := by simp [placeCells]
    rw [e, List.length_append]
    exact O3
  · rcases hloc with h | h
    · exact .inl (by rw [hu]; exact h)
    · exact .inr (by rw [h]; exact kA.size)
  · rcases h with rfl | h
    · exact R.inX.2.2.2.2
    · exact R.rowX sz x (by rw [hu]; exact h)

set_option maxRecDepth 100000 in
theorem free_go {w : World} {b a bw mb fb : Nat} {ws : List Int} {cnt : Nat} {st : St} {rows : Int → Option RowV} {X : Nat → Prop} (h : BkParts w b a bw mb fb ws cnt st rows X) (ref : Nat) (hr : ref < 18446744073709551616) (B : Blk) (hB : st.get ref = some B) (hg : B.gen + 1 < 4294967295) (hcnt : cnt + 100 ≤ 1000000) :
    Calls Tryz.prog 57 #[.pointer (some ⟨b, 0, none⟩), .int .u64 ref] w fun e w' => e = .returned .nilIface ∧ (∃ rows' X' hd, BkRaw w' b a bw mb fb (ws.set B.place hd) (cnt + 1) (upd (allF st) (B.place : Int) ⟨B.size, B.gen + 1, false⟩) (setFr st.fr B.size (st.fr B.size ++ [B.place])) st.top rows' X' ∧ ∀ x, X' x → X x ∨ w.heap.size ≤ x) ∧ Keeps X w w' := by
  have c0 : w.cell? ⟨b, 0, none⟩ = some (.pointer (some ⟨a, 0, none⟩)) := h.blk.at_ 0
  obtain ⟨hm, hp, hl, hgen⟩ := St.get_some hB
  have hfits := h.ok.fits B hm
  have hroom := h.ok.room
  have hlen16 := h.arena.2.2.2
  have hfrl : (st.fr B.size).length ≤ 16384 := by
    have := subset_length (b := st.bs.map (·.place)) (h.ok.once B.size) (fun p hp => by obtain ⟨C, hC, e, _⟩ := h.ok.free _ p hp; exact List.mem_map.2 ⟨C, hC, e⟩)
    have h1 := bs_length h.ok
    rw [List.length_map] at this
    omega
  have hkeys := places_len h
  have cf := find_hit ref hr B hB w ⟨a, bw, mb, fb, rows, h⟩
  have cp := placeOf_any ref hr
  have hv : B.val = .agg #[.int .i64 B.size, .int .u32 B.gen, .bool true] := by
    show Value.agg #[.int .i64 B.size, .int .u32 B.gen, .bool B.live] = _
    rw [hl]
  rw [hv] at cf
  rw [← hp] at cp
  have hwsz : (Lit.int .i64 (B.size : Int)).wf = true := WalkArith.wf_i64 (by omega)
  have hpl : B.place < ws.length := by omega
  have hown := h.own B.size
  have hrowX := h.rowX B.size
  have hsz64 := hfits.2.1
  have hsz1 := hfits.1
  have hfu : rowE.val ((rows (B.size : Int)).getD none) = rowVal (rowAt rows B.size) := rfl
  generalize hu : rowVal (rowAt rows B.size) = u at hown hrowX hfu
  have hu' := Lib.hid hu
  generalize st.fr B.size = l at hown hfrl ⊢
  generalize B.size = sz at *
  generalize B.place = p at *
  generalize B.gen = gn at *
  have t1 : (gn : Int) < 4294967294 := by omega
  have t2 : ((gn : Int) + 1 == 4294967295) = false := by simp; omega
  have t3 : ((gn : Int) + 1 != 4294967295) = true := by simp; omega
  have h' := Lib.hid h
  have cf' := Lib.hid cf
  have hfu' := Lib.hid hfu
  have hown' := Lib.hid hown
  have hrowX' := Lib.hid hrowX
  clear h cf hfu hown hrowX hu hgen hfits hm hl hB hp hv
  go_enter Tryz.func57, Tryz.ntmps57
  go_wp2_with (first
    | (go_at_call 33; refine (none_bk _ c0).mono ?_; rintro e w' ⟨rfl, rfl⟩)
    | (go_at_call 44; refine (cp _).mono ?_; rintro e w' ⟨rfl, rfl⟩)
    | (go_at_call 43; refine cf'.out.mono ?_; rintro e w1 ⟨rfl, hK⟩; have k1 := Lib.hid hK; clear hK))
  obtain ⟨W, hW⟩ : ∃ W, W = w1.alloc (.cells #[.int .i64 sz, .int .u32 ((gn : Int) + 1), .bool false] 81) := ⟨_, rfl⟩
  have kW : Keeps (fun _ => False) w W := by rw [hW]; exact k1.out.alloc _
  have mW : Whole W w1.heap.size 81 #[.int .i64 sz, .int .u32 ((gn : Int) + 1), .bool false] := by rw [hW]; exact Whole.made _ _ _
  rw [← hW]
  clear hW
  have hwr : w.heap.size ≤ w1.heap.size := k1.out.size
  generalize w1.heap.size = r at mW hwr ⊢
  clear k1 w1
  have R0 := h'.out.toBkRaw.keeps kW fun _ _ => id
  have hrX : Hid (∀ x, X x → ¬ x = r) := Lib.hid fun x hx e => by have := h'.out.old x hx; omega
  -- the two worlds in which the look-up may come up
  have kA : Keeps (fun _ => False) W (W.alloc (.cells #[.int .i64 p] 3)).drew := ((Keeps.refl _ W).alloc _).drew
  have l0 : (Instr.lookup 82 (.map (some fb)) (.int .i64 (sz : Int)) false).run Tryz.prog W.drew = .ok u W.drew := by
    rw [← hfu'.out]
    exact (R0.freed.keeps ((Keeps.refl (fun _ => False) W).drew) id).look Tryz.underlying3 Tryz.underlying82 none (zero_row _) _ hwsz
  have l1 : (Instr.lookup 82 (.map (some fb)) (.int .i64 (sz : Int)) false).run Tryz.prog (W.alloc (.cells #[.int .i64 p] 3)).drew = .ok u (W.alloc (.cells #[.int .i64 p] 3)).drew := by
    rw [← hfu'.out]
    exact (R0.freed.keeps kA id).look Tryz.underlying3 Tryz.underlying82 none (zero_row _) _ hwsz
  have ownA := ownsRow_keeps (ownsRow_keeps hown'.out kW fun _ _ => id) kA fun _ _ => id
  have newA : (W.alloc (.cells #[.int .i64 p] 3)).drew.cell? ⟨W.heap.size, 0, none⟩ = some (.int .i64 p) := (Whole.made W 3 #[.int .i64 p]).drew.at_ 0
  have two : ∀ V : World, W.cell? ⟨b, 2, none⟩ = V.cell? ⟨b, 2, none⟩ → W.cell? ⟨r, 0, none⟩ = V.cell? ⟨r, 0, none⟩ → V.cell? ⟨b, 2, none⟩ = some (.map (some fb)) ∧ V.cell? ⟨r, 0, none⟩ = some (.int .i64 sz) := fun V e1 e2 => ⟨e1.symm.trans (R0.blk.at_ 2), e2.symm.trans (mW.at_ 0)⟩
  have lb := R0.blk.lt
  have lr := mW.lt
  have s0 := Lib.hid (two W.drew rfl rfl)
  have sA := Lib.hid (two (W.alloc (.cells #[.int .i64 p] 3)).drew (kA.cell (p := ⟨b, 2, none⟩) lb id).symm (kA.cell (p := ⟨r, 0, none⟩) lr id).symm)
  have nb := Lib.hid (show ¬ u.ownBlock = some b from row_ne ownA (R0.keeps kA fun _ _ => id).blk (by decide))
  have nr := Lib.hid (show ¬ u.ownBlock = some r from fun e => hrX.out r (hrowX'.out r e) rfl)
  have nfb := Lib.hid (show ¬ u.ownBlock = some fb from row_ne_map ownA (R0.freed.keeps kA id))
  have nbf := Lib.hid (show ¬ b = fb from R0.blk.ne_map R0.freed)
  have nrf := Lib.hid (show ¬ r = fb from mW.ne_map R0.freed)
  have lbA := Nat.lt_of_lt_of_le lb kA.size
  have lrA := Nat.lt_of_lt_of_le lr kA.size
  have two' := Lib.hid two
  have ownA' := Lib.hid ownA
  have newA' := Lib.hid newA
  have kA' := Lib.hid kA
  have R0' := Lib.hid R0
  have mW' := Lib.hid mW
  have kW' := Lib.hid kW
  obtain ⟨i0, hi, hz0, hz1, hz2⟩ := info_parts info_int
  have hI := Lib.hid (show Tryz.prog.info? 3 = some i0 ∧ i0.zero = some (.int .i64 0) ∧ i0.size = 1 ∧ i0.bytes = 8 from ⟨hi, hz0, hz1, hz2⟩)
  clear two ownA newA kA R0 mW kW hi hz0 hz1 hz2
  go_region_held3 (fun V => V.cell? ⟨b, 2, none⟩ = some (.map (some fb)) ∧ V.cell? ⟨r, 0, none⟩ = some (.int .i64 sz)) (first | exact s0.out | exact sA.out | exact hHeld | exact s2.out | exact s3.out)
    (first
      | (refine step_append_mine rfl _ _ 23 rfl 3 i0 (.int .i64 0) 8 Tryz.underlying23 hI.out.1 hI.out.2.1 hI.out.2.2.1 hI.out.2.2.2 rfl u l.length (placeCells l) rfl ownA'.out ⟨W.heap.size, 0, none⟩ 1 (.int .i64 p) rfl newA'.out rfl (by unfold maxLen; omega) (by omega) ?_
         intro g cap V hO hG hloc
         have kV := Lib.hid (keeps_row hG)
         have fV := (R0'.out.freed.keeps kA'.out id).keeps kV.out nfb.out
         obtain ⟨V2, hrun, hM, hG2⟩ := fV.store Tryz.underlying3 Tryz.underlying82 _ (rows_keys h'.out.toBkRaw) (by simp [maxLen]) sz hwsz (some (g, l.length + 1, cap))
         have hrun2 : (Instr.mapUpdate 82 (.map (some fb)) (.int .i64 (sz : Int)) (.slice (some ⟨g, 0, none⟩) (l.length + 1) cap)).run Tryz.prog V = .ok () V2 := hrun
         have s2 := Lib.hid (two'.out V ((kV.out.cell (p := ⟨b, 2, none⟩) lbA nb.out).trans (kA'.out.cell (p := ⟨b, 2, none⟩) lb id)).symm ((kV.out.cell (p := ⟨r, 0, none⟩) lrA nr.out).trans (kA'.out.cell (p := ⟨r, 0, none⟩) lr id)).symm)
         have K2 := Lib.hid (Keeps.of_grown hG2)
         have s3 := Lib.hid (two_later s2.out K2.out (Nat.lt_of_lt_of_le lbA kV.out.size) (Nat.lt_of_lt_of_le lrA kV.out.size) nbf.out nrf.out)
         have M2 := Lib.hid hM
         have O2 := Lib.hid hO
         have loc2 := Lib.hid hloc
         clear hM hO hG hG2 fV hloc hrun))
  all_goals
    obtain ⟨hR2, hK, hXg⟩ := freed_raw R0'.out hu'.out ⟨hsz1, hsz64⟩ kA'.out kV.out K2.out M2.out O2.out loc2.out nfb.out
    have hXg' := Lib.hid hXg
    have KV2 := Lib.hid hK
    have RV2 := Lib.hid hR2
    have mr := mW'.out.keeps hK (fun hx => hrX.out r hx rfl)
    have x0 : V2.cell? ⟨r, 0, none⟩ = some (.int .i64 sz) := mr.at_ 0
    have x1 : V2.cell? ⟨r, 1, none⟩ = some (.int .u32 ((gn : Int) + 1)) := mr.at_ 1
    have x2 : V2.cell? ⟨r, 2, none⟩ = some (.bool false) := mr.at_ 2
    have ck := keep_raw hR2 p sz (gn + 1) false hpl _ (allF_keys st) (Nat.lt_of_succ_lt hkeys) (by omega)
    rw [show ((gn + 1 : Nat) : Int) = (gn : Int) + 1 by omega] at ck
    have ck' := Lib.hid ck
    clear hR2 hK mr ck hXg hrun2
    rename_i hHd
    clear hHd
    go_wp2_with fail
    refine ck'.out.mono ?_
    rintro e w3 ⟨rfl, ⟨hd, hR3⟩, hK3⟩
    have R3 := Lib.hid hR3
    have K3 := Lib.hid hK3
    clear hR3 hK3
    go_wp2_with fail
    go_ret
    have hle : w.heap.size ≤ W.heap.size := kW'.out.size
    refine ⟨rfl, ⟨_, _, hd, R3.out, fun x hx => ?_⟩, ?_⟩
    · rcases hx with hx | rfl
      · exact .inl hx
      · exact hXg'.out.imp id fun h => Nat.le_trans hle h
    · have e1 : Keeps X w V2 := (kW'.out.mono fun _ _ => False.elim).trans KV2.out fun _ _ h => h
      refine e1.trans K3.out fun x hx h => ?_
      rcases h with h | rfl
      · exact h
      · exact hXg'.out.elim id fun h => absurd hx (by omega)

/-- What Free leaves: the state as it is now; nothing else has changed. -/
def Freed (w : World) (b : Nat) (ws : List Int) (cnt : Nat) (st : St) (X : Nat → Prop) (place : Nat) (e : Ending) (w' : World) : Prop :=
  e = .returned .nilIface ∧ (∃ X' hd, Bk w' b (ws.set place hd) (cnt + 1) st X' ∧ ∀ x, X' x → X x ∨ w.heap.size ≤ x) ∧ Keeps X w w'

theorem free_hit {w : World} {b : Nat} {ws : List Int} {cnt : Nat} {st : St} {X : Nat → Prop} (h : Bk w b ws cnt st X) (ref : Nat) (hr : ref < 18446744073709551616) (B : Blk) (hB : st.get ref = some B) (hg : B.gen + 1 < 4294967295) (hcnt : cnt + 100 ≤ 1000000) :
    Calls Tryz.prog 57 #[.pointer (some ⟨b, 0, none⟩), .int .u64 ref] w fun e w' => Freed w b ws cnt (st.back B) X B.place e w' := by
  obtain ⟨a, bw, mb, fb, rows, h⟩ := h
  obtain ⟨hm, _, hl, _⟩ := St.get_some hB
  refine (free_go h ref hr B hB hg hcnt).mono ?_
  rintro e w' ⟨rfl, ⟨rows', X', hd, hR, hX⟩, hK⟩
  have hf : upd (allF st) (B.place : Int) ⟨B.size, (B.gen : Int) + 1, false⟩ = allF (st.back B) := by
    have := allF_set (B := { B with live := false, gen := B.gen + 1 }) ⟨B, hm, rfl⟩ (st.back B) rfl
    rw [this]
    congr 1
  have hfr : setFr st.fr B.size (st.fr B.size ++ [B.place]) = (st.back B).fr := by
    unfold St.back
    rw [if_neg (by omega)]
  rw [hf, hfr] at hR
  exact ⟨rfl, ⟨X', hd, ⟨a, bw, mb, fb, rows', ⟨hR, by rw [List.length_set]; exact ok_back h.ok hm hl⟩⟩, hX⟩, hK⟩
end Go.Proofs.YtipogkgolbmgkaaGreatDoor
