/-
  Ctx.access by contract: beyond the log: the step's own access, and what is behind that.
-/
import Derived.Test.YtenhmficiegpiaaGreatDoorThRun
namespace Go.Proofs.YtenhmficiegpiaaGreatDoor
open Go.RowKit Go.Extern.Stop Go.Stop Go.Extern

theorem ask_over {s : Rn} (q : Req) (h : ¬ s.next < s.log.length) (ho : s.over = true) : ask s q = (.zero (.no 11), s) := by unfold ask; rw [if_neg h, if_pos ho]
theorem ask_do {s : Rn} (q : Req) (h : ¬ s.next < s.log.length) (ho : s.over = false) : ask s q = ((doReq s.m q).1.ans, ⟨s.log ++ [(doReq s.m q).1], s.next + 1, true, (doReq s.m q).2⟩) := by unfold ask; rw [if_neg h, if_neg (by simp [ho])]

set_option maxRecDepth 100000 in
set_option maxHeartbeats 1000000 in
theorem access_over {w : World} {c t b a pl : Nat} {bv : Value} {round steps : Int} {ev : Value} {s : Rn} {Z : Nat → Prop} (h : RunM w c t b a pl bv round steps ev s Z) (q : Req) (f : Nat) (caps : Array Value) (hlt : ¬ s.next < s.log.length) (ho : s.over = true) :
    Calls Tryz.prog 40 #[.pointer (some ⟨c, 0, none⟩), .func (.func f) #[] caps] w fun e w' => ∃ v, e = .returned (.tuple #[entVal0 (ask s q).1, v]) ∧ Asked w c t b a pl bv round steps ev s Z q v w' := by
  obtain ⟨lv, X, h⟩ := h
  obtain ⟨o, lc, hlv, _⟩ := h.th.row.shape
  unfold Asked
  rw [ask_over q hlt ho]
  obtain ⟨W1, hW1⟩ : ∃ W, W = w.alloc (.cells #[.int .i64 0, .int .u64 0, .int .i64 0, .int .u64 0, .bool false, .int .i64 0] 105) := ⟨_, rfl⟩
  have k1 : Keeps (fun _ => False) w W1 := by rw [hW1]; exact (Keeps.refl _ w).alloc _
  have mA : Whole W1 w.heap.size 105 #[.int .i64 0, .int .u64 0, .int .i64 0, .int .u64 0, .bool false, .int .i64 0] := by rw [hW1]; exact Whole.made _ _ _
  have P1 := h.same k1
  have c0 : W1.cell? ⟨c, 0, none⟩ = some (.pointer (some ⟨t, 0, none⟩)) := P1.ctx.at_ 0
  have c1 : W1.cell? ⟨c, 1, none⟩ = some (.int .i64 (s.next : Int)) := P1.ctx.at_ 1
  have c2 : W1.cell? ⟨c, 2, none⟩ = some (.bool true) := by have := P1.ctx.at_ 2; rw [ho] at this; exact this
  have t4 : W1.cell? ⟨t, 4, none⟩ = some lv := P1.th.blk.at_ 4
  subst hlv
  have hcn := cnone_there _ c0
  have hge : (s.log.length : Int) ≤ (s.next : Int) := by omega
  obtain ⟨⟨a0, a1, a2, a3, a4, a5⟩, z0, z1, z2, z3, z4, z5⟩ := six mA
  have P' := Lib.hid P1
  have hW1' := Lib.hid hW1
  have k1' := Lib.hid k1
  have hold := Lib.hid h.old
  have hgl := Lib.hid (show etB < w.heap.size from h.glob.lt)
  clear P1 mA hW1 h hlt k1 ho
  go_enter Tryz.func40, Tryz.ntmps40
  go_wp2_with fail
  rw [← hW1'.out]
  go_wp2_with (go_at_call 58; refine hcn.mono ?_; rintro e w' ⟨rfl, rfl⟩)
  go_quiet (fail)
  go_wp2_with fail
  refine bodyPost_ret (v := .tuple #[.agg #[.int .i64 0, .int .u64 0, .int .i64 0, .int .u64 0, .bool false, .int .i64 0], .iface 71 (.int .i64 11)]) (by simp [results, Tryz.results40, go_sem, a0, a1, a2, a3, a4, a5]) rfl ?_
  have kd : Keeps (fun _ => False) W1 (W1.drewN nq) := (Keeps.refl _ W1).drewN nq
  have k6 := put6_keeps (W1.drewN nq) w.heap.size (.int .i64 0) (.int .u64 0) (.int .i64 0) (.int .u64 0) (.bool false) (.int .i64 0)
  refine ⟨_, rfl, rfl, fun ty x hx => (by cases hx), Z, ⟨_, _, (P'.out.same kd).keeps k6 (fun x hx e => ?_) (fun e => ?_)⟩, Mv.of ?_⟩
  · have := hold.out x hx; omega
  · have := hgl.out; omega
  · exact (((k1'.out.trans_ kd).mono fun _ _ => False.elim).trans k6 fun x hx e => absurd hx (by omega))

set_option maxRecDepth 100000 in
set_option maxHeartbeats 1000000 in
theorem access_do {w : World} {c t b a pl : Nat} {bv : Value} {round steps : Int} {ev : Value} {s : Rn} {Z : Nat → Prop} (h : RunM w c t b a pl bv round steps ev s Z) (few : s.log.length ≤ 4999) (hcnt : s.m.cnt < 10000) (q : Req) (hq : q.small) (f : Nat) (caps : Array Value) (hent : ∀ (args : Array Value) (w : World), (callFunc f args).run Tryz.prog w = .ok (.enter f args) w) (N : Nat) (hN : ∀ x, Z x → x < N) (hdo : Does f caps q b a c N w) (hlt : ¬ s.next < s.log.length) (ho : s.over = false) :
    Calls Tryz.prog 40 #[.pointer (some ⟨c, 0, none⟩), .func (.func f) #[] caps] w fun e w' => ∃ v, e = .returned (.tuple #[entVal0 (ask s q).1, v]) ∧ Asked w c t b a pl bv round steps ev s Z q v w' := by
  have hak := ask_ok (s := s) (by obtain ⟨lv, X, h⟩ := h; exact h.ok) q hq
  obtain ⟨lv, X, h⟩ := h
  obtain ⟨o, lc, hlv, _⟩ := h.th.row.shape
  have hnx : s.next = s.log.length := by have := h.ok.next; omega
  unfold Asked
  rw [ask_do q hlt ho] at hak ⊢
  have hok : Rn.Ok ⟨s.log ++ [(doReq s.m q).1], s.next + 1, true, (doReq s.m q).2⟩ ∧ (doReq s.m q).1.Ok := by
    refine ⟨?_, (doReq_ok h.ok.m q hq).1⟩
    rcases hak with ⟨_, _, h⟩ | ⟨_, h, _⟩
    · rw [ho] at h; cases h
    · exact h
  have hae : (doReq s.m q).1.ans.err = (doReq s.m q).1.err := Ent.ans_err _
  obtain ⟨W1, hW1⟩ : ∃ W, W = w.alloc (.cells #[.int .i64 0, .int .u64 0, .int .i64 0, .int .u64 0, .bool false, .int .i64 0] 105) := ⟨_, rfl⟩
  have k1 : Keeps (fun _ => False) w W1 := by rw [hW1]; exact (Keeps.refl _ w).alloc _
  have mA : Whole W1 w.heap.size 105 #[.int .i64 0, .int .u64 0, .int .i64 0, .int .u64 0, .bool false, .int .i64 0] := by rw [hW1]; exact Whole.made _ _ _
  have P1 := h.same k1
  have c0 : W1.cell? ⟨c, 0, none⟩ = some (.pointer (some ⟨t, 0, none⟩)) := P1.ctx.at_ 0
  have c1 : W1.cell? ⟨c, 1, none⟩ = some (.int .i64 (s.next : Int)) := P1.ctx.at_ 1
  have c2 : W1.cell? ⟨c, 2, none⟩ = some (.bool false) := by have := P1.ctx.at_ 2; rw [ho] at this; exact this
  have fc2 : W1.frozen? ⟨c, 2, none⟩ = false := P1.ctx.free 2
  have t4 : W1.cell? ⟨t, 4, none⟩ = some lv := P1.th.blk.at_ 4
  have t0 : W1.cell? ⟨t, 0, none⟩ = some (.pointer (some ⟨b, 0, none⟩)) := P1.th.blk.at_ 0
  have htc : ¬ t = c := fun e => P1.ctx.ne_ P1.th.blk (by decide) e.symm
  subst hlv
  have hcn := cnone_there _ c0
  have hge : (s.log.length : Int) ≤ (s.next : Int) := by omega
  have hcap : ¬ ((6000 : Int) ≤ (s.log.length : Int)) := by omega
  have P' := Lib.hid P1
  have A1 := Lib.hid mA
  have hW1' := Lib.hid hW1
  have k1' := Lib.hid k1
  have hold := Lib.hid h.old
  have hcz := Lib.hid h.cz.1
  have hgl := Lib.hid (show etB < w.heap.size from h.glob.lt)
  have hdo' := Lib.hid hdo
  have hN' := Lib.hid hN
  have few' := Lib.hid few
  have hcnt' := Lib.hid hcnt
  have hnx' := Lib.hid hnx
  have hok' := Lib.hid hok
  have hae' := Lib.hid hae
  clear P1 mA hW1 h few hlt k1 ho hak hdo hN hcnt hnx hok hae
  go_enter Tryz.func40, Tryz.ntmps40
  go_wp2_with fail
  rw [← hW1'.out]
  go_wp2_with (go_at_call 58; refine hcn.mono ?_; rintro e w' ⟨rfl, rfl⟩)
  go_quiet (fail)
  go_wp2_with fail
  obtain ⟨W2, hW2⟩ : ∃ W, W = (W1.drewN nq).setCell ⟨c, 2, none⟩ (.bool true) := ⟨_, rfl⟩
  have P2 := Lib.hid (show RunP W2 c t b a pl bv round steps ev { s with over := true } (.slice o s.log.length lc) X Z by rw [hW2]; exact (P'.out.same ((Keeps.refl (fun _ => False) W1).drewN nq)).begun)
  have k2 : Keeps (fun x => x = c) W1 W2 := by rw [hW2]; exact ((Keeps.refl (fun x => x = c) W1).drewN nq).setCell (p := ⟨c, 2, none⟩) (fun _ => rfl) _
  have kc := Lib.hid (show Keeps (fun x => x = c) w W2 from (k1'.out.mono fun _ _ => False.elim).trans_ k2)
  have hnc : ∀ x, x < w.heap.size → ¬ w.heap.size = x := fun x hx => by omega
  have mA2 := Lib.hid (A1.out.keeps k2 (hnc c (hold.out c hcz.out)))
  rw [← hW2]
  clear k2 hW2 c0 c1 c2 fc2 t4 t0
  refine (hdo'.out W2 X s.m kc.out P2.out.mm (fun x hx => hN'.out x (P2.out.x x hx)) hcnt'.out).mono ?_
  rintro e W3 ⟨v, rfl, hv, X', hm, hX⟩
  generalize hR : doReq s.m q = R at hv hm hok' hae' ⊢
  obtain ⟨ent, m'⟩ := R
  have hm' := Lib.hid hm
  have hX' := Lib.hid hX
  have hv' := Lib.hid hv
  have T3 := Lib.hid (P2.out.th.keeps hX.keeps fun x hx => (P2.out.own x hx).2)
  have G3 := Lib.hid (P2.out.glob.keeps hX.keeps fun hx => P2.out.gz (P2.out.x _ hx))
  have hR' := Lib.hid hR
  clear hv hm hX hR
  go_wp2_with fail
  refine (note_any T3.out G3.out (by have := few'.out; show s.log.length ≤ 5000; omega) ent v hv'.out).mono ?_
  rintro e W4 ⟨rfl, ⟨lv', hT, hl⟩, hK⟩
  have nco : ¬ Own3 t pl (.slice o s.log.length lc) c := by
    rintro (e | e | e)
    · exact htc e.symm
    · exact P2.out.ctx.ne_map P2.out.th.map e
    · exact Go.Proofs.YtenhmficiegpiaaGreatDoor.row_ne P2.out.th.row P2.out.ctx (by decide) e
  have C4 := (P2.out.ctx.keeps hX'.out.keeps P2.out.cz.2).keeps hK nco
  have c0 : W4.cell? ⟨c, 0, none⟩ = some (.pointer (some ⟨t, 0, none⟩)) := C4.at_ 0
  have c1 : W4.cell? ⟨c, 1, none⟩ = some (.int .i64 (s.next : Int)) := C4.at_ 1
  have fc1 : W4.frozen? ⟨c, 1, none⟩ = false := C4.free 1
  obtain ⟨hP5, hM5⟩ := P2.out.did rfl hm'.out hX'.out hT hl hK hok'.out.1
  rw [show (({ s with over := true } : Rn).next : Int) = (s.next : Int) from rfl] at hP5 hM5
  have mA4 := ((mA2.out.keeps hX'.out.keeps (fun hx => Nat.lt_irrefl _ (hold.out _ (P2.out.x _ hx)))).keeps hK (fun hx => Nat.lt_irrefl _ (hold.out _ (P2.out.own _ hx).1))).keeps ((Keeps.refl (fun x => x = c) W4).setCell (p := ⟨c, 1, none⟩) (fun _ => rfl) (.int .i64 ((s.next : Int) + 1))) (hnc c (hold.out c hcz.out))
  have hnb : (s.next : Int) ≤ 5000 := by have := few'.out; have := hnx'.out; omega
  have l3 := Lib.hid (show w.heap.size < W3.heap.size from Nat.lt_of_lt_of_le mA2.out.lt hX'.out.keeps.size)
  have mA4' := Lib.hid mA4
  have l4 := Lib.hid hK.size
  have P5 := Lib.hid hP5
  have M5 := Lib.hid hM5
  clear C4 hT hl hK hP5 hM5 mA4 hnc
  go_wp2_with fail
  have hg : (s.log ++ [ent]).getD s.next (.zero .ok) = ent := by rw [hnx'.out]; simp
  obtain ⟨W5, hW5⟩ : ∃ W, W = W4.setCell ⟨c, 1, none⟩ (.int .i64 ((s.next : Int) + 1)) := ⟨_, rfl⟩
  have l5 := Lib.hid (show W3.heap.size ≤ W5.heap.size by rw [hW5, World.size_setCell]; exact l4.out)
  rw [← hW5] at P5 M5 mA4' ⊢
  have hnk : s.next < (s.log ++ [ent]).length := by rw [hnx'.out, List.length_append, List.length_singleton]; exact Nat.lt_succ_self _
  refine (answer_any P5.out.th (by have := few'.out; show (s.log ++ [ent]).length ≤ 6000; rw [List.length_append, List.length_singleton]; omega) s.next hnk (by
    rw [hg]
    rcases hok'.out.2.err with h | h | h | h | h
    · exact .inl h
    all_goals exact .inr (by have h' : ent.err.num = _ := h; omega))).mono ?_
  rw [hg]
  rintro e W6 ⟨v2, rfl, hv2, hf, hK2⟩
  have mA6 := mA4'.out.keeps hK2 id
  obtain ⟨⟨a0, a1, a2, a3, a4, a5⟩, z0, z1, z2, z3, z4, z5⟩ := six mA6
  generalize hE : ent.ans = E at hae' ⊢
  have hE' := Lib.hid hE
  have P6 := Lib.hid (P5.out.same hK2)
  have M6 := Lib.hid (M5.out.trans (Mv.stay hK2))
  have V6 := Lib.hid hv2
  have F6 := Lib.hid hf
  clear hK2 mA6 hv2 hf hW5 hg hnk hE c0 c1 fc1
  unfold entVal0
  go_wp2_with fail
  refine bodyPost_ret (v := .tuple #[.agg #[.int .i64 (E.kind : Int), .int .u64 (E.ref : Int), .int .i64 E.i, .int .u64 (E.word : Int), .bool E.done, .int .i64 0], v2]) (by simp [results, Tryz.results40, go_sem, a0, a1, a2, a3, a4, a5]) rfl ?_
  have k6 := put6_keeps W6 w.heap.size (.int .i64 (E.kind : Int)) (.int .u64 (E.ref : Int)) (.int .i64 E.i) (.int .u64 (E.word : Int)) (.bool E.done) (.int .i64 0)
  rw [hR'.out]
  refine ⟨v2, by show _ = Ending.returned (Value.tuple #[entVal0 ent.ans, v2]); rw [hE'.out]; rfl, ?_, fun ty x hx => ?_, _, ⟨_, _, P6.out.keeps k6 (fun x hx e => ?_) (fun e => ?_)⟩, ⟨?_, fun x hx => ?_⟩⟩
  · show ErrV _ v2 ent.ans.err
    rw [hE'.out, hae'.out]
    exact V6.out.keeps k6 fun ty x hx e => by have := F6.out ty x hx; have := l3.out; have := l5.out; omega
  · have := F6.out ty x hx; have := l3.out; have := l5.out; omega
  · rcases M6.out.new x hx with h | h
    · have := hold.out x h; omega
    · have := mA2.out.lt; omega
  · have := hgl.out; omega
  · exact ((kc.out.mono fun x _ e => by rw [e]; exact hcz.out).trans M6.out.keeps fun x _ h => h).trans k6 fun x hx e => absurd hx (by omega)
  · exact (M6.out.new x hx).imp id fun h => Nat.le_trans kc.out.size h

theorem access_any {w : World} {c t b a pl : Nat} {bv : Value} {round steps : Int} {ev : Value} {s : Rn} {Z : Nat → Prop} (h : RunM w c t b a pl bv round steps ev s Z) (few : s.log.length ≤ 4999) (hcnt : s.m.cnt < 10000) (q : Req) (hq : q.small) (f : Nat) (caps : Array Value) (hent : ∀ (args : Array Value) (w : World), (callFunc f args).run Tryz.prog w = .ok (.enter f args) w) (N : Nat) (hN : ∀ x, Z x → x < N) (hdo : Does f caps q b a c N w) :
    Calls Tryz.prog 40 #[.pointer (some ⟨c, 0, none⟩), .func (.func f) #[] caps] w fun e w' => ∃ v, e = .returned (.tuple #[entVal0 (ask s q).1, v]) ∧ Asked w c t b a pl bv round steps ev s Z q v w' := by
  by_cases hlt : s.next < s.log.length
  · exact access_log h (by omega) q f caps hlt
  · by_cases ho : s.over = true
    · exact access_over h q f caps hlt ho
    · exact access_do h few hcnt q hq f caps hent N hN hdo hlt (by simpa using ho)

/-- Of a Ctx that is none. -/
theorem caccess_nil (v : Value) (w : World) :
    Calls Tryz.prog 40 #[.pointer none, v] w fun e w' => e = .returned (.tuple #[.agg #[.int .i64 0, .int .u64 0, .int .i64 0, .int .u64 0, .bool false, .int .i64 0], .iface 71 (.int .i64 1)]) ∧ Keeps (fun _ => False) w w' := by
  go_enter Tryz.func40, Tryz.ntmps40
  go_wp2_with (go_at_call 58; refine (cnone_nil _).mono ?_; rintro e w' ⟨rfl, rfl⟩)
  refine bodyPost_ret (v := .tuple #[.agg #[.int .i64 0, .int .u64 0, .int .i64 0, .int .u64 0, .bool false, .int .i64 0], .iface 71 (.int .i64 1)]) (by simp [results, Tryz.results40, go_sem]) rfl ?_
  exact ⟨rfl, (Keeps.refl _ w).alloc _⟩
end Go.Proofs.YtenhmficiegpiaaGreatDoor
