/-
  (*run).one by contract, whatever its kind.
  (*run).all by contract.
-/
import Derived.Test.YthidipigpfcbbaaGreatDoorEvOne
import Derived.Test.YthidipigpfcbbaaGreatDoorEvSet

namespace Go.Proofs.YthidipigpfcbbaaGreatDoor
open Go.RowKit Go.Maps Go.Extern.Stop Go.Stop Go.Extern

section
variable {PM : PMem} {w0 w : World} {rb n : Nat} {r : RS} {X : Nat → Prop} {K : List Int}
theorem left_nil {e : Ending} {w' : World} {z : RS × Nat × Nat} {r2 : RS} (hz : z = (r2, 0, n)) (h : e = .returned .nilIface ∧ RDone PM w w' rb r2 n X) : Left11 PM w0 w rb X z e w' := by
  subst hz
  exact ⟨_, h.1, .inl ⟨rfl, rfl⟩, h.2⟩
theorem st_plain {s : St7} {b e : RS → Nat → RS × Nat × Nat} (h : s.k ≠ 11 ∧ s.k ≠ 12 ∧ s.k ≠ 13 ∧ s.k ≠ 14) : stF s b e r n = ((plainS s r).1, (plainS s r).2, n) := by
  unfold stF
  rw [if_neg h.1, if_neg h.2.1, if_neg h.2.2.1, if_neg h.2.2.2]
theorem st_ask {s : St7} {b e : RS → Nat → RS × Nat × Nat} (h : s.k ≤ 8) {r2 : RS} {k : Nat} (ha : ask s r = (r2, k)) : stF s b e r n = (r2, k, n) := by
  rw [st_plain ⟨by omega, by omega, by omega, by omega⟩]
  unfold plainS
  rw [if_neg (by omega), if_neg (by omega), if_neg (by omega), if_neg (by omega), ha]
theorem ask_1 {s : St7} (hk : s.k = 1) : ask s r = (r.tell s.r (if (mGet r.A s.c (argv r.R s.ar s.an % 64)).2.1 = true then (mGet r.A s.c (argv r.R s.ar s.an % 64)).1 else -1), 0) := by unfold ask; simp [hk]
theorem ask_4 {s : St7} (hk : s.k = 4) : ask s r = (r.tell s.r (if (mGet r.A s.c (argv r.R s.ar s.an % 64)).2.1 = true then 1 else 0), 0) := by unfold ask; simp [hk]
theorem ask_2 {s : St7} (hk : s.k = 2) : ask s r = (if (mPut r.A s.c (argv r.R s.ar s.an % 64) (argv r.R s.br s.bn % 1000)).2 = 0 then ({ r with A := (mPut r.A s.c (argv r.R s.ar s.an % 64) (argv r.R s.br s.bn % 1000)).1 }, 0) else (r, 5)) := by unfold ask; simp [hk]
theorem ask_3 {s : St7} (hk : s.k = 3) : ask s r = ({ r with A := (mDel r.A s.c (argv r.R s.ar s.an % 64)).1 }, 0) := by unfold ask; simp [hk]
theorem ask_5 {s : St7} (hk : s.k = 5) : ask s r = (r.tell s.r ((r.A.col s.c).length : Nat), 0) := by unfold ask; simp [hk]
theorem ask_6 {s : St7} (hk : s.k = 6) : ask s r = (r.tell s.r (if (mCeil r.A s.c (argv r.R s.ar s.an % 64)).2.1 = true then (mCeil r.A s.c (argv r.R s.ar s.an % 64)).1 else -1), 0) := by unfold ask; simp [hk]
theorem ask_7 {s : St7} (hk : s.k = 7) : ask s r = (r.tell s.r ((mRange r.A s.c (argv r.R s.ar s.an % 64) (argv r.R s.br s.bn % 64)).1 : Nat), 0) := by unfold ask; simp [hk]
theorem ask_8 {s : St7} (hk : s.k = 8) : ask s r = ({ r with T := r.T ++ ((r.A.col s.c).length : Int) :: flat2 (r.A.col s.c) }, 0) := by unfold ask; simp [hk, flat2]
theorem put_same {A : M8} {c k v : Int} (h : A.there c) : ((mPut A c k v).2 = 0) ∨ ((mPut A c k v).2 = 8 ∧ (mPut A c k v).1 = A) := by
  unfold mPut
  rw [if_pos h]
  split
  · exact .inr ⟨rfl, rfl⟩
  · exact .inl rfl

theorem one_any11 (F : Face PM) {s : St7} {b e : Sl} {B E : Fo} (ho : one s B.len E.len K = true) (hv : SlOf w0 (slv b) B) (hv2 : SlOf w0 (slv e) E) (hB : AllDoes PM K w0 B) (hE : AllDoes PM K w0 E) (k0 : Keeps (fun _ => False) w0 w) (h : RunM PM w rb r n X) (hX : ∀ x, X x → w0.heap.size ≤ x) (hr : r.Fine K n) (hn : n ≤ 1000) :
    Calls Tryz.prog 51 #[.pointer (some ⟨rb, 0, none⟩), .agg (stAgg s b e)] w fun e' w' => Left11 PM w0 w rb X (stF s (evF B) (evF E) r n) e' w' := by
  have hf := facts_of ho
  have hT : r.T.length ≤ 400000 := by have := hr.told; omega
  have hR := hr.regs
  have hT5 : r.T.length ≤ 500000 := by omega
  have hk := hf.k
  have key : s.k = 1 ∨ s.k = 2 ∨ s.k = 3 ∨ s.k = 4 ∨ s.k = 5 ∨ s.k = 6 ∨ s.k = 7 ∨ s.k = 8 ∨ s.k = 9 ∨ s.k = 10 ∨ s.k = 11 ∨ s.k = 12 ∨ s.k = 13 ∨ s.k = 14 ∨ s.k = 15 ∨ s.k = 16 := by omega
  rcases key with k | k | k | k | k | k | k | k | k | k | k | k | k | k | k | k
  · have ht := there_of hf hr (by omega)
    exact (one_ask F s b e (.inl k) (hf.reg (by omega)) hR hT5 _ h fun V q => ans_get F (h.same F q) hR s b e k ht hf.ar).mono fun _ _ g => left_nil (st_ask (by omega) (ask_1 k)) g
  · have ht := there_of hf hr (by omega)
    refine (one_put F s b e k hR hf.ar hf.br h).mono ?_
    rintro e' w' ⟨ev, a, rfl, hE', hD⟩
    rcases put_same (k := argv r.R s.ar s.an % 64) (v := argv r.R s.br s.bn % 1000) ht with q | ⟨q, q2⟩
    · refine left_nil (r2 := { r with A := (mPut r.A s.c (argv r.R s.ar s.an % 64) (argv r.R s.br s.bn % 1000)).1 }) (st_ask (by omega) ((ask_2 k).trans (if_pos q))) ⟨?_, hD⟩
      rw [q] at hE'
      rw [hE'.nil]
    · rw [st_ask (b := evF B) (e := evF E) (n := n) (by omega) ((ask_2 (r := r) k).trans (if_neg (by rw [q]; decide)))]
      rw [q] at hE'
      rw [q2] at hD
      exact ⟨ev, rfl, .inr (.inr ⟨rfl, a, hE'.less k0.size⟩), hD⟩
  · have ht := there_of hf hr (by omega)
    exact (one_del F s b e k hR hf.ar ht h).mono fun _ _ g => left_nil (st_ask (by omega) (ask_3 k)) g
  · have ht := there_of hf hr (by omega)
    exact (one_ask F s b e (.inr (.inl k)) (hf.reg (by omega)) hR hT5 _ h fun V q => ans_has F (h.same F q) hR s b e k ht hf.ar).mono fun _ _ g => left_nil (st_ask (by omega) (ask_4 k)) g
  · have ht := there_of hf hr (by omega)
    exact (one_ask F s b e (.inr (.inr (.inl k))) (hf.reg (by omega)) hR hT5 _ h fun V q => ans_size F (h.same F q) s b e k ht).mono fun _ _ g => left_nil (st_ask (by omega) (ask_5 k)) g
  · have ht := there_of hf hr (by omega)
    exact (one_ask F s b e (.inr (.inr (.inr (.inl k)))) (hf.reg (by omega)) hR hT5 _ h fun V q => ans_ceil F (h.same F q) hR s b e k ht hf.ar (ord_of hf hr (.inl k))).mono fun _ _ g => left_nil (st_ask (by omega) (ask_6 k)) g
  · have ht := there_of hf hr (by omega)
    exact (one_ask F s b e (.inr (.inr (.inr (.inr k)))) (hf.reg (by omega)) hR hT5 _ h fun V q => ans_range F (h.same F q) hR s b e k ht hf.ar hf.br (ord_of hf hr (.inr k))).mono fun _ _ g => left_nil (st_ask (by omega) (ask_7 k)) g
  · have ht := there_of hf hr (by omega)
    exact (one_list F s b e k hR hT ht (col_few hr.ok _) h).mono fun _ _ g => left_nil (st_ask (by omega) (ask_8 k)) g
  · obtain ⟨q1, q2⟩ := hf.set_ k
    refine (one_set F s b e k hR hf.ar hf.br (hf.reg (by omega)) h).mono fun _ _ g => left_nil ?_ g
    rw [st_plain ⟨by omega, by omega, by omega, by omega⟩]
    unfold plainS
    rw [if_pos k, q1, q2]
    have e0 : argv r.R 0 0 = 0 := by simp [argv]
    rw [e0, Int.add_zero, argv_in hf.an]
  · refine (one_add F s b e k hR hf.ar hf.br (hf.reg (by omega)) h).mono fun _ _ g => left_nil ?_ g
    rw [st_plain ⟨by omega, by omega, by omega, by omega⟩]
    unfold plainS
    rw [if_neg (by omega), if_pos k, wrap64_is]
  · have e1 : stF s (evF B) (evF E) r n = if isLess s r = true then evF B r n else evF E r n := by
      unfold stF
      rw [if_pos k]
    rw [e1]
    exact one_if F s b e k hf.ar hf.br hB hE hv hv2 k0 hX hr hn h
  · have e1 : stF s (evF B) (evF E) r n = timesF (evF B) s.an.toNat r n := by
      unfold stF
      rw [if_neg (by omega), if_pos k]
    rw [e1]
    exact one_loop F s b e k (hf.loop k) hB hv k0 hX hr hn h
  · have e1 : stF s (evF B) (evF E) r n = if (evF B r n).2.1 = 2 then ({ (evF B r n).1 with A := r.A }, 0, (evF B r n).2.2) else evF B r n := by
      unfold stF
      rw [if_neg (by omega), if_neg (by omega), if_pos k]
    rw [e1]
    exact one_atomic F s b e k hB hv k0 hX hr hn h
  · have e1 : stF s (evF B) (evF E) r n = if (evF B r n).2.1 = 3 then evF E r (evF B r n).2.2 else evF B r n := by
      unfold stF
      rw [if_neg (by omega), if_neg (by omega), if_neg (by omega), if_pos k]
    rw [e1]
    exact one_or F s b e k hB hE hv hv2 k0 hX hr hn h
  · refine (one_retry F s b e k h).mono ?_
    rintro e' w' ⟨rfl, hD⟩
    rw [st_plain ⟨by omega, by omega, by omega, by omega⟩]
    unfold plainS
    rw [if_neg (by omega), if_neg (by omega), if_pos k]
    exact ⟨_, rfl, .inr (.inl ⟨(by decide : 2 ≤ 3), (by decide : 3 ≤ 4), rfl⟩), hD⟩
  · refine (one_abort F s b e k h).mono ?_
    rintro e' w' ⟨rfl, hD⟩
    rw [st_plain ⟨by omega, by omega, by omega, by omega⟩]
    unfold plainS
    rw [if_neg (by omega), if_neg (by omega), if_neg (by omega), if_pos k]
    exact ⟨_, rfl, .inr (.inl ⟨(by decide : 2 ≤ 2), (by decide : 2 ≤ 4), rfl⟩), hD⟩
end
end Go.Proofs.YthidipigpfcbbaaGreatDoor

namespace Go.Proofs.YthidipigpfcbbaaGreatDoor
open Go.RowKit Go.Maps Go.Extern.Stop Go.Stop Go.Extern

set_option maxRecDepth 100000 in
set_option maxHeartbeats 4000000 in
theorem all_any11 {PM : PMem} (F : Face PM) {w0 : World} {K : List Int} : ∀ (N : Nat) (G : Fo), G.size ≤ N → RightF K G → AllDoes PM K w0 G := by
  intro N
  induction N using Nat.strongRecOn with
  | _ N ih =>
    intro G hN hG w v rb n r X h hK0 hRM hX hr hn
    have it := Lib.hid (fun i (hi : i < G.len) => h.item hi)
    obtain ⟨a, c, rfl, hfit⟩ := h.fit
    have IH := Lib.hid (fun (B : Fo) (hB : B.size < G.size) (q : RightF K B) => ih B.size (by omega) B (Nat.le_refl _) q)
    have HG := Lib.hid hG
    obtain ⟨len, hl⟩ : ∃ len, G.len = len := ⟨_, rfl⟩
    rw [hl] at hfit it
    have hl' := Lib.hid hl
    obtain ⟨z, hz⟩ : ∃ z, evF G r n = z := ⟨_, rfl⟩
    rw [hz]
    have HZ := Lib.hid hz
    have H0 := Lib.hid (And.intro hK0 (And.intro hRM (And.intro hX (And.intro hr hn))))
    have hnI : (len : Int) ≤ 9223372036854775807 := by unfold maxLen at hfit; omega
    clear ih h hK0 hRM hX hr hn hz hG hN
    rw [hl]
    clear hl
    go_enter Tryz.func28, Tryz.ntmps28
    go_wp2_with fail
    go_loopw [10] (fun iv wr => ∃ (i ni : Nat) (ri : RS) (X' : Nat → Prop), iv = .int .i64 (i : Int) ∧ i ≤ len ∧ evF (G.from_ i) ri ni = z ∧ RunM PM wr rb ri ni X' ∧ Mvs w X X' ∧ Keeps X w wr ∧ ri.Fine K ni ∧ ni ≤ 1000) (fun iv _ => len - (intOf iv).toNat)
    case atStart => exact ⟨0, n, r, X, rfl, Nat.zero_le _, by rw [from_zero]; exact HZ.out, H0.out.2.1, fun x hx => .inl hx, Keeps.refl _ _, H0.out.2.2.2.1, H0.out.2.2.2.2⟩
    case round =>
      obtain ⟨i, ni, ri, X', rfl, hi, hzi, hR, hM, hK, hf, hn⟩ := hrel
      have I := Lib.hid (And.intro hM hK)
      by_cases hlt : i < len
      · have b1 : (i : Int) < (len : Int) := by omega
        obtain ⟨b', o, c', s, B, E, hv, hx, hat⟩ := it.out i hlt
        injection hv with hv _ hc
        subst hv
        subst hc
        obtain ⟨h7, ⟨vB, cB, oB⟩, ⟨vE, cE, oE⟩⟩ := hat
        have sz := Fo.item_size hx
        have k1 := keeps_w0 H0.out.2.2.1 H0.out.1 hK
        have hX' := mvs_ge H0.out.2.2.1 H0.out.1.size hM
        obtain ⟨xB, rfl, lB⟩ := oB.plain
        obtain ⟨xE, rfl, lE⟩ := oE.plain
        obtain ⟨g1, g2, g3⟩ := HG.out.item hx
        have f7 := (k1.cell (cell_lt cB) id).trans cB
        have f8 := (k1.cell (cell_lt cE) id).trans cE
        have q7 := h7.keeps k1 fun _ _ => id
        have f0 := q7.k
        have f1 := q7.c
        have f2 := q7.r
        have f3 := q7.ar
        have f4 := q7.an
        have f5 := q7.br
        have f6 := q7.bn
        rw [from_item hx, ev_cons] at hzi
        have HZI := Lib.hid hzi
        have AB := Lib.hid (IH.out B (by omega) g2)
        have AE := Lib.hid (IH.out E (by omega) g3)
        obtain ⟨sb, tv, Xs, hRt⟩ := hR
        have R1 := Lib.hid hRt
        have c10 : wr.cell? ⟨rb, 10, none⟩ = some (.int .i64 (ni : Int)) := hRt.cell10 hf.regs
        have fz10 : wr.frozen? ⟨rb, 10, none⟩ = false := hRt.box.free 10
        have HF := Lib.hid (And.intro hf hn)
        have K1 := Lib.hid k1
        have HX' := Lib.hid hX'
        have ONE := Lib.hid (And.intro g1 (And.intro oB oE))
        obtain ⟨W1, hW1⟩ : ∃ V, V = wr.alloc (.cells (stAgg s xB xE) 40) := ⟨_, rfl⟩
        have KA : Keeps (fun _ => False) wr W1 := by rw [hW1]; exact (Keeps.refl _ wr).alloc _
        have BA : Whole W1 wr.heap.size 40 (stAgg s xB xE) := by rw [hW1]; exact Whole.made _ _ _
        have rlt : rb < wr.heap.size := hRt.old rb hRt.inX.1
        obtain ⟨W2, hW2⟩ : ∃ V, V = W1.setCell ⟨rb, 10, none⟩ (.int .i64 ((ni : Int) + 1)) := ⟨_, rfl⟩
        have en : ((ni : Int) + 1) = ((ni + 1 : Nat) : Int) := by omega
        have BB : Whole W2 wr.heap.size 40 (stAgg s xB xE) := by rw [hW2]; exact BA.far (p := ⟨rb, 10, none⟩) (fun e => by simp only at e; omega) _
        have R2 : RunMt PM W2 rb sb tv ri (ni + 1) Xs X' := by
          rw [hW2, en]
          exact (hRt.same F KA).setCell F 10 _ (runCells_steps hf.regs (ni + 1))
        have KB : Keeps X' wr W2 := by
          rw [hW2]
          exact (KA.mono fun _ _ => False.elim : Keeps X' wr W1).setCell (p := ⟨rb, 10, none⟩) (fun _ => hRt.inX.1) _
        have KW : Keeps (fun _ => False) w0 W2 := keeps_w0 hX' k1 KB
        have C1 := fun (h1000 : ni + 1 ≤ 1000) => one_any11 (w := W2) F (b := xB) (e := xE) g1 oB oE AB.out AE.out KW ⟨sb, tv, Xs, R2⟩ hX' (hf.more (Nat.le_succ ni)) h1000
        have SF := st_fine (s := s) (ev_fine K B) (ev_fine K E) ri ni hf
        generalize stF s (evF B) (evF E) ri (ni + 1) = y at *
        have x0 : W2.cell? ⟨wr.heap.size, 0, none⟩ = _ := BB.at_ 0
        have x1 : W2.cell? ⟨wr.heap.size, 1, none⟩ = _ := BB.at_ 1
        have x2 : W2.cell? ⟨wr.heap.size, 2, none⟩ = _ := BB.at_ 2
        have x3 : W2.cell? ⟨wr.heap.size, 3, none⟩ = _ := BB.at_ 3
        have x4 : W2.cell? ⟨wr.heap.size, 4, none⟩ = _ := BB.at_ 4
        have x5 : W2.cell? ⟨wr.heap.size, 5, none⟩ = _ := BB.at_ 5
        have x6 : W2.cell? ⟨wr.heap.size, 6, none⟩ = _ := BB.at_ 6
        have x7 : W2.cell? ⟨wr.heap.size, 7, none⟩ = _ := BB.at_ 7
        have x8 : W2.cell? ⟨wr.heap.size, 8, none⟩ = _ := BB.at_ 8
        obtain ⟨xb1, xb2, xb3⟩ := xB
        obtain ⟨xe1, xe2, xe3⟩ := xE
        obtain ⟨sk, sc, sr, sar, san, sbr, sbn⟩ := s
        unfold stAgg slv at *
        simp only at *
        have HW1 := Lib.hid hW1
        have HW2 := Lib.hid hW2
        have y10 : W1.cell? ⟨rb, 10, none⟩ = some (.int .i64 (ni : Int)) := (KA.cell rlt id).trans c10
        have yf : W1.frozen? ⟨rb, 10, none⟩ = false := ((hRt.same F KA).box.free 10)
        have C1 := Lib.hid C1
        have SF := Lib.hid SF
        have KB' := Lib.hid KB
        have KA' := Lib.hid KA
        clear hRt R2 KB KW BA BB KA hW1 hW2 hf hn k1 hX' hzi hM hK oB oE g1 g2 g3 q7 h7 cB cE sz hx lB lE
        by_cases h1000 : ni = 1000
        · subst h1000
          have E1 := HZI.out
          rw [if_pos rfl] at E1
          have HZ2 := Lib.hid E1
          clear E1 x0 x1 x2 x3 x4 x5 x6 x7 x8
          go_upto_region 4 with fail
          rw [← HW1.out]
          go_wp2_with fail
          go_ret
          rw [← HZ2.out]
          exact ⟨_, rfl, .inr (.inl ⟨(by decide : 2 ≤ 4), (by decide : 4 ≤ 4), rfl⟩), X', ⟨sb, tv, Xs, R1.out.same F KA'.out⟩, I.out.1, I.out.2.trans (KA'.out.mono fun _ _ => False.elim : Keeps X wr W1) fun _ _ => id⟩
        · have hle : ni + 1 ≤ 1000 := by have := HF.out.2; omega
          have E1 := HZI.out
          rw [if_neg h1000] at E1
          have HZ2 := Lib.hid E1
          have C2 := Lib.hid (C1.out hle)
          have SF2 := Lib.hid (SF.out hle)
          have b2 : ¬ (ni : Int) = 1000 := by omega
          have bni : (ni : Int) ≤ 999 := by omega
          have bn0 : (0 : Int) ≤ (ni : Int) := by omega
          clear E1 C1 SF h1000 en hle b2 rlt
          have b2 : ((ni : Int) == 1000) = false := by simp; omega
          go_upto_region 4 with fail
          rw [← HW1.out]
          go_upto_region 7 with fail
          rw [← HW2.out]
          clear y10 yf
          go_wp2_with fail
          refine C2.out.mono ?_
          rintro e w3 ⟨ev, rfl, hE, hD⟩
          have HE := Lib.hid hE
          have HD := Lib.hid hD
          have hsh := hE.shape
          clear C2 hD hE x0 x1 x2 x3 x4 x5 x6 x7 x8
          have IM : Hid (∀ r2 n2, RDone PM W2 w3 rb r2 n2 X' → RDone PM w w3 rb r2 n2 X) := Lib.hid fun r2 n2 d => RDone.step (fun x hx => (I.out.1 x hx)) (I.out.2.trans KB'.out fun x hx q => by
            rcases I.out.1 x q with g | g
            · exact g
            · omega) d
          rcases hsh with ⟨h0, rfl⟩ | ⟨h0, t, x, rfl⟩
          · have hz' := HZ2.out
            rw [if_pos h0] at hz'
            have HZ' := Lib.hid hz'
            clear hz' h0
            go_wp2_with fail
            go_roundw
            case rel =>
              obtain ⟨X2, p1, p2, p3⟩ := IM.out _ _ HD.out
              exact ⟨i + 1, y.2.2, y.1, X2, by go_num, by omega, HZ'.out, p1, p2, p3, SF2.out.1, SF2.out.2.2⟩
            case measure => simp [intOf]; omega
          · have hz' := HZ2.out
            rw [if_neg h0] at hz'
            have HZ' := Lib.hid hz'
            clear hz' h0
            go_wp2_with fail
            go_ret
            rw [← HZ'.out]
            exact ⟨_, rfl, HE.out, IM.out _ _ HD.out⟩
      · obtain rfl : i = len := by omega
        have b1 : ¬ (i : Int) < (i : Int) := by omega
        rw [from_end (by rw [hl'.out]; exact Nat.le_refl _)] at hzi
        have HZ2 := Lib.hid hzi
        have HR := Lib.hid hR
        clear hzi hR hM hK hf hn
        go_wp2_with fail
        go_ret
        rw [← HZ2.out]
        exact ⟨_, rfl, .inl ⟨rfl, rfl⟩, X', HR.out, I.out.1, I.out.2⟩
end Go.Proofs.YthidipigpfcbbaaGreatDoor
