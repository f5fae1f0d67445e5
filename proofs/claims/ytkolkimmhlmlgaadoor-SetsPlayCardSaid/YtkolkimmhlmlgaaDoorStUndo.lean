/-
  sets: Back by contract.
-/
import Derived.Test.YtkolkimmhlmlgaaDoorStKeep
namespace Go.Proofs.YtkolkimmhlmlgaaDoor
open Go.RowKit Go.Maps Go.Extern.Stop Go.Stop Go.Extern

/-- Part of the way back: what is still to come is left as it is. -/
def pu (u : Lg) (left : Int → Bool) (f : Int → Option Int) : Int → Option Int := fun k => match u k with
  | some x => if left k = true then f k else if x.2 = true then some x.1 else none
  | none => f k

theorem pu_start (u : Lg) (f : Int → Option Int) : pu u (fun k => (u k).isSome) f = f := funext fun k => by
  unfold pu
  cases hu : u k with
  | none => rfl
  | some x => simp [hu]
theorem pu_end {u : Lg} {left : Int → Bool} {f : Int → Option Int} (h : ∀ k, left k = false) : pu u left f = un u f := funext fun k => by
  unfold pu un
  rw [h k]
  cases u k <;> simp
theorem pu_put {u : Lg} {left : Int → Bool} {f : Int → Option Int} {c : Int} {x : Bef} (hu : u c = some x) (hx : x.2 = true) : upd (pu u left f) c x.1 = pu u (fun k => left k && !decide (k = c)) f := by
  funext k
  unfold upd pu
  by_cases e : k = c
  · subst e; simp [hu, hx]
  · simp [e]
theorem pu_clr {u : Lg} {left : Int → Bool} {f : Int → Option Int} {c : Int} {x : Bef} (hu : u c = some x) (hx : x.2 = false) : clr (pu u left f) c = pu u (fun k => left k && !decide (k = c)) f := by
  funext k
  unfold clr pu
  by_cases e : k = c
  · subst e; simp [hu, hx]
  · simp [e]
theorem pu_keys {u : Lg} {left : Int → Bool} {W : Tl} (h : ∀ k, (u k).isSome = true → (look W k).isSome = true) : ∀ k, (pu u left (look W) k).isSome = true → k ∈ W.map (·.1) := fun k hk => by
  refine look_mem.1 ?_
  unfold pu at hk
  cases hu : u k with
  | none => rw [hu] at hk; exact hk
  | some x => exact h k (by rw [hu]; rfl)

set_option maxRecDepth 100000 in
set_option maxHeartbeats 1000000 in
theorem back_any {w : World} {s : Nat} {A : AS} {X : Nat → Prop} (h : PS w s A X) (m : Int) :
    Calls Tryd.prog 15 #[.pointer (some ⟨s, 0, none⟩), .int .i64 m] w fun e w' => ∃ ev, e = .returned ev ∧ ErrU w.heap.size w' ev (aBack A m).2 (atM (aBack A m).2 m) ∧ Did w w' s (aBack A m).1 X := by
  by_cases hm : m < 1 ∨ (A.M.length : Int) < m
  · have ea : aBack A m = (A, 6) := by unfold aBack; rw [if_pos hm]
    rw [ea]
    exact back_none h m hm
  have hok := Lib.hid (aBack_ok h.ok m)
  have ea : aBack A m = ({ A with W := A.M.getD (m.toNat - 1) [], M := A.M.take (m.toNat - 1) }, 0) := by unfold aBack; rw [if_neg hm]
  have cn := Lib.hid (check_there h m (by omega) (by omega))
  obtain ⟨k, hk⟩ : ∃ k, m.toNat - 1 = k := ⟨_, rfl⟩
  rw [ea, hk] at hok
  rw [ea, hk]
  have em : m = ((k + 1 : Nat) : Int) := by omega
  have hkl : k < A.M.length := by omega
  clear ea hk hm
  subst em
  obtain ⟨pb, wb, vr, vm, lb, lg, h⟩ := h
  have hmf := h.ok.mfew
  have hwf := h.ok.wfew
  obtain ⟨l1, bl, l2, g1, u, g2, rfl, rfl, hl1, hg1⟩ := h.part hkl
  have ct := Lib.hid (take_any h (by omega) (k + 1) (by omega))
  have hP := Lib.hid h
  have hlog : HoldsM Tryd.prog 23 bE w bl u := h.logs k bl u (by rw [List.getElem?_append_right (by omega)]; simp [hl1]) (by rw [List.getElem?_append_right (by omega)]; simp [hg1])
  have tS : ∀ (x : Nat), (x = s ∨ x = bl ∨ vm.ownBlock = some x) → x = s ∨ x = wb ∨ x ∈ (l1 ++ bl :: l2) ∨ vm.ownBlock = some x := fun x hx => by
    rcases hx with hx | hx | hx
    · exact .inl hx
    · exact .inr (.inr (.inl (by simp [hx])))
    · exact .inr (.inr (.inr hx))
  have inXS : ∀ (x : Nat), (x = s ∨ x = bl ∨ vm.ownBlock = some x) → X x := fun x hx => by
    rcases hx with hx | hx | hx
    · rw [hx]; exact h.inX.1
    · rw [hx]; exact h.inX.2.2.2.1 bl (by simp)
    · exact h.inX.2.2.2.2.2 x hx
  have nwb : ¬ (wb = s ∨ wb = bl ∨ vm.ownBlock = some wb) := fun e => by
    rcases e with e | e | e
    · exact h.blk.ne_map h.writes e.symm
    · have := h.once; rw [e] at this; simp at this
    · exact row_ne_map h.marks h.writes e
  have nlog : ∀ (i b : Nat) (v : Lg), l1[i]? = some b → g1[i]? = some v → HoldsM Tryd.prog 23 bE w b v ∧ ¬ (b = s ∨ b = bl ∨ vm.ownBlock = some b) ∧ ¬ b = wb := fun i b v hb hv => by
    have hi : i < l1.length := (List.getElem?_eq_some_iff.1 hb).1
    have hH := h.logs i b v (by rw [List.getElem?_append_left hi]; exact hb) (by rw [List.getElem?_append_left (by omega)]; exact hv)
    have hmem := List.mem_of_getElem? hb
    refine ⟨hH, fun e => ?_, fun e => ?_⟩
    · rcases e with e | e | e
      · exact h.blk.ne_map hH e.symm
      · have h1 := (List.nodup_cons.1 (List.nodup_cons.1 h.once).2).2
        have h2 := (List.nodup_append.1 h1).2.2 b hmem bl (by simp)
        exact h2 e
      · exact row_ne_map h.marks hH e
    · have h1 := (List.nodup_cons.1 (List.nodup_cons.1 h.once).2).1
      exact h1 (by rw [← e]; simp [hmem])
  have hb := h.back.drop k
  rw [show (g1 ++ u :: g2).drop k = u :: g2 by rw [← hg1]; simp] at hb
  obtain ⟨hall, hsub⟩ := hb.all
  have hat := h.back.at_ (n := k) (by simp; omega)
  rw [show (g1 ++ u :: g2).drop k = u :: g2 by rw [← hg1]; simp, hall] at hat
  have htk := h.back.take k (by simp; omega)
  rw [show (g1 ++ u :: g2).drop k = u :: g2 by rw [← hg1]; simp, show (g1 ++ u :: g2).take k = g1 by rw [← hg1]; simp, hall, hat] at htk
  obtain ⟨U, hU⟩ : ∃ U, mrg u g2 = U := ⟨_, rfl⟩
  rw [hU] at ct hat hsub
  have hat' := Lib.hid hat
  have htk' := Lib.hid htk
  have hkeys := Lib.hid (fun left => pu_keys (left := left) hsub)
  have hlm : (A.W.map (·.1)).length < maxLen := by rw [List.length_map]; unfold maxLen; omega
  have tS' := Lib.hid tS
  have inXS' := Lib.hid inXS
  have nlog' := Lib.hid nlog
  have hl1' := Lib.hid hl1
  have hg1' := Lib.hid hg1
  have hW := Lib.hid h.writes
  have nwb' := Lib.hid nwb
  have nsw : ¬ s = wb := fun e => h.blk.ne_map h.writes e
  have nbw : ¬ bl = wb := fun e => by have := h.once; rw [e] at this; simp at this
  have ls := h.blk.lt
  have lwb := h.writes.lt
  have lbl := hlog.lt
  obtain ⟨m, hm⟩ : ∃ m, k + 1 = m := ⟨_, rfl⟩
  rw [hm] at cn ct ⊢
  clear h hlog hU tS inXS nlog hl1 hg1 hat htk hb hall hsub nwb hm
  go_enter Tryd.func15, Tryd.ntmps15
  go_wp2_with (first | (go_at_call 35; refine cn.out.mono ?_; rintro e w' ⟨rfl, rfl⟩))
  refine ct.out.mono ?_
  rintro e w2 ⟨rfl, vm2, hT⟩
  have T2 := Lib.hid hT
  have W2 := Lib.hid (hW.out.keeps hT.keeps nwb'.out)
  have sz2 := hT.keeps.size
  clear hT
  go_wp2_with (first
    | (at_range; refine wpList_ranging _ rfl _ 79 rfl 23 83 bE Tryd.underlying23 Tryd.underlying79 bl U rfl T2.out.log ?_; intro W cnt0 hR hG hS; have R0 := Lib.hid hR; have K0 := Lib.hid ((Keeps.refl (fun _ => False) w2).grown hG (fun _ h _ => by cases h)); clear hR hG hS))
  go_frame
  go_loopw [6] (fun _ wr => ∃ (left : Int → Bool) (cn : Nat), Ranging Tryd.prog 23 bE wr bl w2.heap.size U left cn ∧ HoldsM Tryd.prog 23 uE wr wb (pu U left (look A.W)) ∧ Keeps (fun y => y = wb) w2 wr) (fun _ wr => wr.rangeLeft bl w2.heap.size)
  case atStart => exact ⟨_, cnt0, R0.out, by rw [pu_start]; exact W2.out.keeps K0.out id, K0.out.mono fun _ _ => False.elim⟩
  case round =>
    clear R0 K0
    obtain ⟨left, cn, hR, hB, hK⟩ := hrel
    have R1 := Lib.hid hR
    have B1 := Lib.hid hB
    have K1 := Lib.hid hK
    clear hR hB hK
    go_wp2_with (first
      | (at_next; refine wpList_next_ranging _ rfl _ rfl 23 bE Tryd.underlying23 bl w2.heap.size U left cn rfl R1.out ?_ ?_))
    · intro hDone
      have he := Lib.hid (pu_end (u := U) (f := look A.W) hDone)
      clear hDone
      go_wp2
      go_ret
      have kk : Keeps (fun x => (x = s ∨ x = bl ∨ vm.ownBlock = some x) ∨ x = wb) w wr := (T2.out.keeps.mono fun _ _ h => .inl h).trans K1.out fun _ _ h => .inr h
      have B2 : HoldsM Tryd.prog 23 uE wr wb (look (A.M.getD k [])) := by rw [← hat'.out, ← he.out]; exact B1.out
      have nvm : ∀ g', vm2.ownBlock = some g' → ¬ g' = wb := fun g' hg' e => nwb'.out (.inr (.inr (T2.out.own _ (by rw [hg', e]))))
      refine ⟨_, rfl, .inl ⟨rfl, rfl, rfl⟩, X, ⟨pb, wb, vr, _, l1, g1, hP.out.after kk (fun x hx => ?_) (T2.out.blk.keeps K1.out nsw) (ownsRow_keeps T2.out.marks K1.out nvm) T2.out.own (List.sublist_append_left _ _) B2 (by rw [hl1'.out, hg1'.out]) (fun i b v hb hv => ?_) htk'.out hok.out rfl⟩, fun x hx => .inl hx, kk.mono fun x _ hx => ?_⟩
      · rcases hx with hx | hx
        · exact tS'.out x hx
        · exact .inr (.inl hx)
      · obtain ⟨q1, q2, q3⟩ := nlog'.out i b v hb hv
        exact q1.keeps kk fun e => e.elim q2 q3
      · rcases hx with hx | hx
        · exact inXS'.out x hx
        · rw [hx]; exact hP.out.inX.2.2.1
    · intro x c w3 cnt1 hwx hlx hfx hR1 hlt hg1 hs1 hen
      have hen2 : (Instr.entry (.pointer (some ⟨w2.heap.size, 0, none⟩))).run Tryd.prog w3 = .ok (.tuple #[.int .u64 x, .agg #[.int .u64 c.1, .bool c.2]]) w3 := hen
      have R2 := Lib.hid hR1
      have hr1 := hR1.lts.2
      have kx : Keeps (fun y => y = w2.heap.size) wr w3 := Keeps.of_grown hg1
      have K2 := Lib.hid (K1.out.trans kx fun y hy e => absurd hy (by omega))
      have B2 := Lib.hid (B1.out.keeps kx (fun (e : wb = w2.heap.size) => by omega))
      have hlt' := Lib.hid hlt
      have k3 : Keeps (fun _ => False) w3 (w3.alloc (.cells #[.int .u64 c.1, .bool c.2] 83)) := (Keeps.refl _ w3).alloc _
      have R3 := Lib.hid (R2.out.alloc (.cells #[.int .u64 c.1, .bool c.2] 83))
      have K3 := Lib.hid (K2.out.trans k3 fun _ _ => False.elim)
      have B3 := Lib.hid (B2.out.keeps k3 id)
      have M3 := Whole.made w3 83 #[.int .u64 c.1, .bool c.2]
      obtain ⟨W3, hW3⟩ : ∃ W, W = w3.alloc (.cells #[.int .u64 c.1, .bool c.2] 83) := ⟨_, rfl⟩
      rw [← hW3] at R3 K3 B3 M3
      have hW3' := Lib.hid hW3
      have hU3 := Lib.hid hfx
      have c2 : W3.cell? ⟨s, 2, none⟩ = some (.map (some wb)) := (K3.out.cell (Nat.lt_of_lt_of_le ls sz2) nsw).trans (T2.out.blk.at_ 2)
      have q0 : W3.cell? ⟨w3.heap.size, 0, none⟩ = some (.int .u64 c.1) := M3.at_ 0
      have q1 : W3.cell? ⟨w3.heap.size, 1, none⟩ = some (.bool c.2) := M3.at_ 1
      clear hlx hfx hR1 hlt hg1 hs1 hen kx k3 hW3 M3
      have fin : ∀ w4, HoldsM Tryd.prog 23 uE w4 wb (pu U (fun k => left k && !decide (k = x)) (look A.W)) → Keeps (fun y => y = wb) W3 w4 → Ranging Tryd.prog 23 bE w4 bl w2.heap.size U (fun k => left k && !decide (k = x)) cnt1 ∧ HoldsM Tryd.prog 23 uE w4 wb (pu U (fun k => left k && !decide (k = x)) (look A.W)) ∧ Keeps (fun y => y = wb) w2 w4 := fun w4 hB4 hK4 =>
        ⟨R3.out.same (hK4.block bl R3.out.lts.1 nbw) (hK4.block w2.heap.size R3.out.lts.2 (fun (e : w2.heap.size = wb) => by omega)), hB4, K3.out.trans_ hK4⟩
      have fin' := Lib.hid fin
      clear fin
      obtain ⟨c1, cw⟩ := c
      cases cw with
      | true =>
        have hstep := Lib.hid (pu_put (left := left) (f := look A.W) hU3.out rfl)
        go_wp2_with fail
        rw [← hW3'.out]
        obtain ⟨W4, hW4⟩ : ∃ W, W = W3.drew := ⟨_, rfl⟩
        have d2 : W4.cell? ⟨s, 2, none⟩ = some (.map (some wb)) := by rw [hW4]; exact c2
        have d0 : W4.cell? ⟨w3.heap.size, 0, none⟩ = some (.int .u64 c1) := by rw [hW4]; exact q0
        have B4 := Lib.hid (show HoldsM Tryd.prog 23 uE W4 wb (pu U left (look A.W)) by rw [hW4]; exact B3.out.keeps ((Keeps.refl (fun _ => False) W3).drew) id)
        have K4 := Lib.hid (show Keeps (fun _ => False) W3 W4 by rw [hW4]; exact (Keeps.refl (fun _ => False) W3).drew)
        refine still_tail_at 7 (by kernel_rfl) (by kernel_rfl) W4 hW4 ?_
        clear hW4
        simp only [List.take_succ_cons, List.take_zero, List.drop_succ_cons, List.drop_zero]
        repeat still_step
        refine wpStill_nil ?_
        clear d0 d2 q0 q1 c2
        go_wp2_with (first | (at_mapUpdate; refine wpList_upd _ rfl _ _ _ 55 rfl 23 23 uE Tryd.underlying23 Tryd.underlying55 wb (pu U left (look A.W)) rfl B4.out _ (hkeys.out left) hlm x rfl hwx c1 rfl ?_; intro W5 hM5 hG5; have M5 := Lib.hid hM5; have K5 := Lib.hid (Keeps.of_grown hG5); clear hM5 hG5))
        simp only [Act.put]
        go_roundw
        case rel => exact ⟨_, cnt1, fin'.out _ (hstep.out ▸ M5.out) ((K4.out.mono fun _ _ => False.elim).trans_ K5.out)⟩
        case measure => rw [(fin'.out _ (hstep.out ▸ M5.out) ((K4.out.mono fun _ _ => False.elim).trans_ K5.out)).1.left_eq, R1.out.left_eq]; exact hlt'.out
      | false =>
        have hstep := Lib.hid (pu_clr (left := left) (f := look A.W) hU3.out rfl)
        have hW4 := hW3'.out
        subst hW4
        obtain ⟨W5, hdel, hM5, hG5⟩ := B3.out.drop Tryd.underlying23 Tryd.underlying55 x hwx 0
        have M5 := Lib.hid hM5
        have K5 := Lib.hid (Keeps.of_grown hG5)
        clear hM5 hG5
        go_wp2_with fail
        go_roundw
        case rel => exact ⟨_, cnt1, fin'.out _ (hstep.out ▸ M5.out) K5.out⟩
        case measure => rw [(fin'.out _ (hstep.out ▸ M5.out) K5.out).1.left_eq, R1.out.left_eq]; exact hlt'.out
end Go.Proofs.YtkolkimmhlmlgaaDoor
