/-
  blocks.New and concordlaw02.On by contract, the arena under its name; a new arena's blocks as a plain state.
  meta.NewClock and NewCell by contract; concordlaw06.Scene's function is a body.
  concordlaw06.Scene by contract: blocks with a clock and a cell, all new.
-/
import Derived.Test.YtenhmficiegpiaaGreatDoorTgRun
import Derived.Test.YtenhmficiegpiaaGreatDoorMtCont
import Derived.BigQuiet
import Derived.Deep.Grids

namespace Go.Proofs.YtenhmficiegpiaaGreatDoor
open Go.RowKit Go.Extern.Stop Go.Stop Go.Extern

/-- What New leaves: blocks on the arena, none yet. -/
def OpenedAt (w : World) (a bw : Nat) (ws : List Int) (cnt from_ : Nat) (e : Ending) (w' : World) : Prop :=
  ∃ b X, e = .returned (.tuple #[.pointer (some ⟨b, 0, none⟩), .nilIface]) ∧ BkAt w' b a ws cnt (St.start from_) X ∧ (∀ x, X x → x = a ∨ x = bw ∨ w.heap.size ≤ x) ∧ Keeps (fun _ => False) w w'

theorem bnew_at (a bw : Nat) (ws : List Int) (cnt from_ : Nat) (hf : from_ ≤ ws.length) (w : World) (h : Arena w a bw ws cnt) :
    Calls Tryz.prog 22 #[.pointer (some ⟨a, 0, none⟩), .int .i64 from_] w fun e w' => OpenedAt w a bw ws cnt from_ e w' := by
  have hmm := @run_makeMap Tryz.prog
  have cl := alen_there a bw ws cnt
  have h3 := h.2.2.1
  have h4 := h.2.2.2
  have t0 : ((ws.length : Int) == 0) = false := by rw [beq_eq_false_iff_ne]; omega
  have t1 : ¬ (from_ : Int) < 0 := by omega
  have t2 : ¬ (ws.length : Int) < from_ := by omega
  have h' := Lib.hid h
  have hf' := Lib.hid hf
  generalize ws.length = L at cl t0 t2 h3 h4
  clear h hf
  go_enter Tryz.func22, Tryz.ntmps22
  go_wp2_with (first
    | (go_at_call 34; refine (cl _ h'.out).mono ?_; rintro e w' ⟨rfl, rfl⟩))
  go_ret2
  have m1 := HoldsM.made Tryz.prog 3 bvE w
  have m2 := holds_two Tryz.prog 3 rowE w (.map #[] 0)
  have kk := (((Keeps.refl (fun _ => False) w).alloc (.map #[] 0)).alloc (.map #[] 0)).alloc (.cells #[.pointer (some ⟨a, 0, none⟩), .map (some w.heap.size), .map (some (w.heap.size + 1)), .int .i64 from_] 90)
  have k2 := ((Keeps.refl (fun _ => False) (w.alloc (.map #[] 0))).alloc (.map #[] 0)).alloc (.cells #[.pointer (some ⟨a, 0, none⟩), .map (some w.heap.size), .map (some (w.heap.size + 1)), .int .i64 from_] 90)
  have k3 := (Keeps.refl (fun _ => False) ((w.alloc (.map #[] 0)).alloc (.map #[] 0))).alloc (.cells #[.pointer (some ⟨a, 0, none⟩), .map (some w.heap.size), .map (some (w.heap.size + 1)), .int .i64 from_] 90)
  have hR := raw_start h'.out from_ rfl kk (m1.keeps k2 id) (m2.keeps k3 id) (whole_three _ _ _ _ _)
  refine ⟨_, _, rfl, ⟨_, _, _, _, ⟨hR, ok_new hf'.out⟩⟩, fun x hx => ?_, kk⟩
  rcases hx with rfl | rfl | rfl | rfl | rfl
  · exact .inl rfl
  · exact .inr (.inl rfl)
  · exact .inr (.inr (Nat.le_refl _))
  · exact .inr (.inr (Nat.le_succ _))
  · exact .inr (.inr (by omega))

/-- What On leaves: blocks on an arena of n words 0, none yet; all of it new. -/
def OnA (w : World) (n from_ : Nat) (e : Ending) (w' : World) : Prop :=
  ∃ a b X, e = .returned (.tuple #[.pointer (some ⟨a, 0, none⟩), .pointer (some ⟨b, 0, none⟩)]) ∧ BkAt w' b a (List.replicate n 0) 0 (St.start from_) X ∧ (∀ x, X x → w.heap.size ≤ x) ∧ Keeps (fun _ => False) w w'

theorem on_at (n from_ : Nat) (h1 : 1 ≤ n) (h2 : n ≤ 16384) (hf : from_ ≤ n) (w : World) :
    Calls Tryz.prog 11 #[.int .i64 n, .int .i64 from_] w fun e w' => OnA w n from_ e w' := by
  have hf' := Lib.hid hf
  have cn := Lib.hid (new_in n h1 h2)
  clear hf
  go_enter Tryz.func11, Tryz.ntmps11
  go_wp2_with fail
  refine (cn.out _).mono ?_
  rintro e w1 ⟨a, bw, rfl, hA, ha, hb, hK⟩
  have A1 := Lib.hid hA
  have K1 := Lib.hid hK
  have la := Lib.hid ha
  have lb := Lib.hid hb
  clear hA hK ha hb
  go_wp2_with fail
  refine (no_nil _).mono ?_
  rintro e w' ⟨rfl, rfl⟩
  go_wp2_with fail
  refine (bnew_at a bw _ 0 from_ (by rw [List.length_replicate]; exact hf'.out) _ A1.out).mono ?_
  rintro e w2 ⟨b, X, rfl, hB, hX, hK⟩
  have B2 := Lib.hid hB
  have X2 := Lib.hid hX
  have K2 := Lib.hid hK
  clear hB hX hK
  go_wp2_with (go_at_call 16; refine (no_nil _).mono ?_; rintro e w' ⟨rfl, rfl⟩)
  go_ret2
  refine ⟨_, b, X, rfl, B2.out, fun x hx => ?_, K1.out.trans_ K2.out⟩
  rcases X2.out x hx with rfl | rfl | h
  · exact la.out
  · exact lb.out
  · exact Nat.le_trans K1.out.size h

/-- Blocks of n words, plainly. -/
def Mm.start (n : Nat) : Mm := ⟨St.start 1, fun _ => 0, n, 0⟩

theorem Mm.start_get (n : Nat) : (Mm.start n).st.get 0 = none := rfl

theorem mm_start {w : World} {b a n : Nat} {X : Nat → Prop} (h1 : 1 ≤ n) (h2 : n ≤ 16384) (h : BkAt w b a (List.replicate n 0) 0 (St.start 1) X) : MmM w b a (Mm.start n) X :=
  ⟨⟨ok_new h1, h2, fun _ => by simp [Mm.start], fun B hB => (by cases hB)⟩, _, 0, h, List.length_replicate, Nat.zero_le _, fun B hB => (by cases hB)⟩
end Go.Proofs.YtenhmficiegpiaaGreatDoor

namespace Go.Proofs.YtenhmficiegpiaaGreatDoor
open Go.RowKit Go.Extern.Stop Go.Stop Go.Extern

section
variable {α : Type} {w wr : World} {c t b a pl : Nat} {bv : Value} {rd st : Int} {ev : Value} {Z Z' : Nat → Prop} {R0 : Option α × Rn} {s : Rn}

theorem newclock_any {K : Ent → Pr α} (h : Cont w wr c t b a pl bv rd st ev Z R0 (.acc (.alloc 1) K) s Z') :
    Calls Tryz.prog 14 #[.pointer (some ⟨c, 0, none⟩)] wr fun e w' =>
      (∃ (x : Ent) (s' : Rn) (Z'' : Nat → Prop), e = .returned (.tuple #[.int .u64 (x.ref : Int), .nilIface]) ∧ Cont w w' c t b a pl bv rd st ev Z R0 (K x) s' Z'' ∧ Mv Z' Z'' wr w') ∨
      (∃ n : Int, e = .returned (.tuple #[.int .u64 n, .iface 71 (.int .i64 11)]) ∧ R0.1 = none ∧ ∃ Z'', RunM w' c t b a pl bv rd st ev R0.2 Z'' ∧ Mv Z Z'' w w') := by
  have C1 := Lib.hid h
  have cl := Lib.hid (ctx_alloc C1.out.run C1.out.cap.few.1 C1.out.cap.few.2 1)
  clear h
  go_enter Tryz.func14, Tryz.ntmps14
  go_wp2_with fail
  refine cl.out.mono ?_
  rintro e W2 ⟨v, rfl, hA⟩
  have hN := C1.out.next (Keeps.refl _ _) hA
  clear hA cl
  rcases hN with ⟨rfl, Z2, hC, hM⟩ | ⟨rfl, hr, ⟨⟨Z2, h1, h2⟩, _⟩⟩
  · have C2 := Lib.hid hC
    have M2 := Lib.hid hM
    clear hC hM C1
    go_wp2_with fail
    go_ret2
    exact .inl ⟨_, _, _, rfl, C2.out, M2.out⟩
  · have E2 := Lib.hid (And.intro h1 h2)
    clear h1 h2 C1
    go_wp2_with fail
    go_ret2
    exact .inr ⟨_, rfl, hr, _, E2.out.1, E2.out.2⟩

theorem newcell_any (value : Nat) {K : Ent → Ent → Pr α} (h : Cont w wr c t b a pl bv rd st ev Z R0 (.acc (.alloc 2) fun x => .acc (.store x.ref 1 value) (K x)) s Z') :
    Calls Tryz.prog 15 #[.pointer (some ⟨c, 0, none⟩), .int .u64 (value : Int)] wr fun e w' =>
      (∃ (x y : Ent) (s' : Rn) (Z'' : Nat → Prop), e = .returned (.tuple #[.int .u64 (x.ref : Int), .nilIface]) ∧ Cont w w' c t b a pl bv rd st ev Z R0 (K x y) s' Z'' ∧ Mv Z' Z'' wr w') ∨
      (∃ n : Int, e = .returned (.tuple #[.int .u64 n, .iface 71 (.int .i64 11)]) ∧ R0.1 = none ∧ ∃ Z'', RunM w' c t b a pl bv rd st ev R0.2 Z'' ∧ Mv Z Z'' w w') := by
  have C1 := Lib.hid h
  have cl := Lib.hid (ctx_alloc C1.out.run C1.out.cap.few.1 C1.out.cap.few.2 2)
  clear h
  go_enter Tryz.func15, Tryz.ntmps15
  go_wp2_with fail
  refine cl.out.mono ?_
  rintro e W2 ⟨v, rfl, hA⟩
  have hN := C1.out.next (Keeps.refl _ _) hA
  clear hA cl
  rcases hN with ⟨rfl, Z2, hC, hM⟩ | ⟨rfl, hr, ⟨⟨Z2, h1, h2⟩, _⟩⟩
  · have C2 := Lib.hid hC
    have M2 := Lib.hid hM
    clear hC hM C1
    generalize (ask s (.alloc 2)).1 = x at C2 ⊢
    generalize (ask s (.alloc 2)).2 = s2 at C2 ⊢
    have cl := Lib.hid (ctx_store C2.out.run C2.out.cap.few.1 C2.out.cap.few.2 x.ref 1 value C2.out.small)
    go_wp2_with fail
    refine cl.out.mono ?_
    rintro e W3 ⟨v, rfl, hA⟩
    have hN := C2.out.next (Keeps.refl _ _) hA
    clear hA cl
    rcases hN with ⟨rfl, Z3, hC, hM⟩ | ⟨rfl, hr, ⟨⟨Z3, h1, h2⟩, _⟩⟩
    · have C3 := Lib.hid hC
      have M3 := Lib.hid (M2.out.trans hM)
      clear hC hM C2
      go_wp2_with fail
      go_ret2
      exact .inl ⟨x, _, _, _, rfl, C3.out, M3.out⟩
    · have E2 := Lib.hid (And.intro h1 h2)
      clear h1 h2 C2
      go_wp2_with fail
      go_ret2
      exact .inr ⟨_, rfl, hr, _, E2.out.1, E2.out.2⟩
  · have E2 := Lib.hid (And.intro h1 h2)
    clear h1 h2 C1
    go_wp2_with fail
    go_ret2
    exact .inr ⟨_, rfl, hr, _, E2.out.1, E2.out.2⟩
end

/-- What Scene's function does. -/
def sceneT : Pr (Nat × Nat) := .acc (.alloc 1) fun x => .acc (.alloc 2) fun y => .acc (.store y.ref 1 10) fun _ => .ret (x.ref, y.ref)

/-- What Scene's function has of its own: the clock's variable, the cells' row. -/
structure SceneP (pk pc row : Nat) (w : World) (Y : Nat → Prop) (x : Option (Nat × Nat)) : Prop where
  ex : ∃ z u : Nat, Whole w pk 24 #[.int .u64 (z : Int)] ∧ Whole w row 24 #[.int .u64 (u : Int)] ∧ ∀ r, x = some r → r = (z, u)
  cells : w.cell? ⟨pc, 0, none⟩ = some (.slice (some ⟨row, 0, none⟩) 1 1)
  y : ∀ y, Y y ↔ y = pk ∨ y = row
  ne : pk ≠ row ∧ pc ≠ pk ∧ pc ≠ row

/-- The body of Scene is at its end. -/
theorem sceneTo {w W2 : World} {c t b a pl pk pc row : Nat} {bv : Value} {rd st : Int} {ev v : Value} {Z Y Z2 : Nat → Prop} {R0 : Option (Nat × Nat) × Rn}
    (hP : SceneP pk pc row w Y none) (hd : ∀ y, Y y ∨ y = pc → ¬ Z y) (z u : Nat) (hr : RunM W2 c t b a pl bv rd st ev R0.2 Z2) (hk : Keeps (fun x => Z x ∨ Y x) w W2) (hn : ∀ x, Z2 x → Z x ∨ w.heap.size ≤ x) (hz : Whole W2 pk 24 #[.int .u64 (z : Int)]) (hu : Whole W2 row 24 #[.int .u64 (u : Int)]) (hx : ∀ r, R0.1 = some r → r = (z, u)) (hv : ErrV W2 v (eaOf R0.1)) :
    BodyTo (SceneP pk pc row) w c t b a pl bv rd st ev Z Y (fun y => y = pc) R0 v W2 Y Z2 := by
  obtain ⟨⟨z0, u0, h1, h2, _⟩, h3, hY, hne⟩ := hP
  have hlt : ∀ y, Y y ∨ y = pc → y < w.heap.size := by
    rintro y (hy | rfl)
    · rcases (hY y).1 hy with rfl | rfl
      · exact h1.lt
      · exact h2.lt
    · exact cell_lt h3
  refine ⟨hv, hr, ⟨⟨z, u, hz, hu, hx⟩, ?_, hY, hne⟩, hk, hn, fun x hx => .inl hx, fun x hx hz2 => ?_⟩
  · refine (hk.cell (p := ⟨pc, 0, none⟩) (cell_lt h3) ?_).trans h3
    rintro (h | h)
    · exact hd pc (.inr rfl) h
    · rcases (hY pc).1 h with h | h
      · exact hne.2.1 h
      · exact hne.2.2 h
  · exact (hn x hz2).elim (hd x hx) fun h => absurd (hlt x hx) (Nat.not_lt.2 h)

set_option maxRecDepth 100000 in
set_option maxHeartbeats 2000000 in
theorem scene_does {w : World} {c t b a pl pk pc row : Nat} {bv : Value} {rd st : Int} {ev : Value} {s0 : Rn} {Z Y : Nat → Prop} (h : RunM w c t b a pl bv rd st ev s0 Z) (hP : SceneP pk pc row w Y none) (hd : ∀ y, Y y ∨ y = pc → ¬ Z y) (hcap : Cap s0) (hg : sceneT.Good s0) :
    Calls Tryz.prog 13 (#[.pointer (some ⟨c, 0, none⟩), .int .i64 rd] ++ #[.pointer (some ⟨pk, 0, none⟩), .pointer (some ⟨pc, 0, none⟩)]) w fun e w' => ∃ v Y' Z', e = .returned v ∧ BodyTo (SceneP pk pc row) w c t b a pl bv rd st ev Z Y (fun y => y = pc) (sceneT.run s0) v w' Y' Z' := by
  have C0 := Lib.hid (Cont.begin h hcap hg)
  generalize sceneT.run s0 = R0 at C0 ⊢
  have gl := Lib.hid h.gl
  have hP' := Lib.hid hP
  have hd' := Lib.hid hd
  obtain ⟨⟨z0, u0, h1, h2, _⟩, h3, hY, hne1, hne2, hne3⟩ := hP
  have npk : Hid (¬ Z pk) := Lib.hid (hd pk (.inl ((hY pk).2 (.inl rfl))))
  have nrow : Hid (¬ Z row) := Lib.hid (hd row (.inl ((hY row).2 (.inr rfl))))
  have npc : Hid (¬ Z pc) := Lib.hid (hd pc (.inr rfl))
  have ypk : Hid (Y pk) := Lib.hid ((hY pk).2 (.inl rfl))
  have yrow : Hid (Y row) := Lib.hid ((hY row).2 (.inr rfl))
  have H1 := Lib.hid h1
  have H2 := Lib.hid h2
  have H3 := Lib.hid h3
  have epk : Hid (etB ≠ pk) := Lib.hid fun e => by
    obtain ⟨_, _, hR⟩ := h
    have hg : w.cell? ⟨etB, 0, none⟩ = _ := hR.glob
    rw [e, h1.at_ 0] at hg; cases hg
  have erow : Hid (etB ≠ row) := Lib.hid fun e => by
    obtain ⟨_, _, hR⟩ := h
    have hg : w.cell? ⟨etB, 0, none⟩ = _ := hR.glob
    rw [e, h2.at_ 0] at hg; cases hg
  have cl := Lib.hid (newclock_any C0.out)
  clear h hd hcap hg h1 h2 h3 hY
  go_enter Tryz.func13, Tryz.ntmps13
  go_wp2_with fail
  refine cl.out.mono ?_
  rintro e W2 (⟨x, s2, Z2, rfl, hC, hM⟩ | ⟨n, rfl, hr, Z2, hr2, hm2⟩)
  · have m1 := H1.out.keeps hM.keeps npk.out
    have m2 := H2.out.keeps hM.keeps nrow.out
    have c3 : W2.cell? ⟨pc, 0, none⟩ = some (.slice (some ⟨row, 0, none⟩) 1 1) := (hM.keeps.cell (p := ⟨pc, 0, none⟩) (cell_lt H3.out) npc.out).trans H3.out
    have nz1 := hM.apart H1.out.lt npk.out
    have nz2 := hM.apart H2.out.lt nrow.out
    have nz3 := hM.apart (cell_lt H3.out) npc.out
    obtain ⟨W3, hW3⟩ : ∃ V, V = W2.setCell ⟨pk, 0, none⟩ (.int .u64 (x.ref : Int)) := ⟨_, rfl⟩
    have k3 : Keeps (fun y => y = pk) W2 W3 := by rw [hW3]; exact (Keeps.refl (fun y => y = pk) W2).setCell (p := ⟨pk, 0, none⟩) (fun _ => rfl) _
    have m1' := m1.set_ 0 (.int .u64 (x.ref : Int))
    rw [← hW3] at m1'
    have m2' := m2.keeps k3 fun e => hne1 e.symm
    have d3 : W3.cell? ⟨pc, 0, none⟩ = some (.slice (some ⟨row, 0, none⟩) 1 1) := (k3.cell (p := ⟨pc, 0, none⟩) (cell_lt c3) hne2).trans c3
    have C3 := Lib.hid (show Cont W3 W3 c t b a pl bv rd st ev Z2 R0 _ s2 Z2 from ⟨hC.run.far k3 (fun y hy e => nz1 (e ▸ hy)) epk.out, Mv.refl _ _, hC.same, hC.good, hC.cap⟩)
    have K3 := Lib.hid (show Keeps (fun x => Z x ∨ Y x) w W3 from (hM.keeps.mono fun _ _ => .inl).trans k3 fun y _ e => .inr (e ▸ ypk.out))
    have N3 := Lib.hid (show ∀ y, Z2 y → Z y ∨ w.heap.size ≤ y from hM.new)
    have A1 := Lib.hid m1'
    have A2 := Lib.hid m2'
    have nn := Lib.hid (And.intro nz1 nz2)
    have n3 := Lib.hid nz3
    have a0 : W2.cell? ⟨pk, 0, none⟩ = some (.int .u64 (z0 : Int)) := m1.at_ 0
    have f0 : W2.frozen? ⟨pk, 0, none⟩ = false := m1.free 0
    have cn := Lib.hid (newcell_any 10 C3.out)
    have hW3' := Lib.hid hW3
    clear hC hM m1 m2 nz1 nz2 nz3 hW3 k3 m1' m2' cl C0
    go_wp2_with fail
    rw [← hW3'.out]
    clear a0 f0 c3
    refine wp_loop_rounds 2 ?_
    rw [rounds_succ]
    go_wp2_with fail
    refine cn.out.mono ?_
    rintro e W4 (⟨y, y2, s4, Z4, rfl, hC, hM⟩ | ⟨n, rfl, hr, Z4, hr2, hm2⟩)
    · have m1 := A1.out.keeps hM.keeps nn.out.1
      have m2 := A2.out.keeps hM.keeps nn.out.2
      have c3 : W4.cell? ⟨pc, 0, none⟩ = some (.slice (some ⟨row, 0, none⟩) 1 1) := (hM.keeps.cell (p := ⟨pc, 0, none⟩) (cell_lt d3) n3.out).trans d3
      have nz2 := hM.apart A2.out.lt nn.out.2
      have nz1 := hM.apart A1.out.lt nn.out.1
      obtain ⟨W5, hW5⟩ : ∃ V, V = W4.setCell ⟨row, 0, none⟩ (.int .u64 (y.ref : Int)) := ⟨_, rfl⟩
      have k5 : Keeps (fun y => y = row) W4 W5 := by rw [hW5]; exact (Keeps.refl (fun y => y = row) W4).setCell (p := ⟨row, 0, none⟩) (fun _ => rfl) _
      have m2' := m2.set_ 0 (.int .u64 (y.ref : Int))
      rw [← hW5] at m2'
      have m1' := m1.keeps k5 hne1
      have d5 : W5.cell? ⟨pc, 0, none⟩ = some (.slice (some ⟨row, 0, none⟩) 1 1) := (k5.cell (p := ⟨pc, 0, none⟩) (cell_lt c3) hne3).trans c3
      obtain ⟨hr, hrun⟩ : R0.1 = some (x.ref, y.ref) ∧ RunM W4 c t b a pl bv rd st ev R0.2 Z4 := by
        have e := hC.same
        rw [show (Pr.ret (x.ref, y.ref)).run s4 = (some (x.ref, y.ref), s4) from rfl] at e
        subst e
        exact ⟨rfl, hC.run⟩
      have fin := Lib.hid (sceneTo (v := .nilIface) hP'.out hd'.out x.ref y.ref (hrun.far k5 (fun y hy e => nz2 (e ▸ hy)) erow.out) ((K3.out.trans hM.keeps fun y hy hz => (N3.out y hz).elim .inl fun h => absurd hy (Nat.not_lt.2 h)).trans k5 fun y _ e => .inr (e ▸ yrow.out)) (fun y hy => (hM.new y hy).elim (N3.out y) fun h => .inr (Nat.le_trans K3.out.size h)) m1' m2' (fun r h => by rw [hr] at h; exact (Option.some.inj h).symm) (by rw [hr]; rfl))
      have b0 : W4.cell? ⟨row, 0, none⟩ = some (.int .u64 (u0 : Int)) := m2.at_ 0
      have g0 : W4.frozen? ⟨row, 0, none⟩ = false := m2.free 0
      have hW5' := Lib.hid hW5
      clear hC hM m1 m2 nz1 nz2 hW5 k5 m1' m2' cn hrun
      go_wp2_with fail
      rw [← hW5'.out]
      clear b0 g0 c3
      rw [rounds_succ]
      go_wp2_with fail
      go_ret
      first | exact ⟨_, _, _, rfl, fin.out⟩ | exact ⟨_, rfl, _, _, fin.out⟩
    · have m1 := A1.out.keeps hm2.keeps nn.out.1
      have m2 := A2.out.keeps hm2.keeps nn.out.2
      have fin := Lib.hid (sceneTo (v := .iface 71 (.int .i64 11)) hP'.out hd'.out x.ref u0 hr2 (K3.out.trans hm2.keeps fun y hy hz => (N3.out y hz).elim .inl fun h => absurd hy (Nat.not_lt.2 h)) (fun y hy => (hm2.new y hy).elim (N3.out y) fun h => .inr (Nat.le_trans K3.out.size h)) m1 m2 (fun r h => by rw [hr] at h; cases h) (by rw [hr]; rfl))
      clear hr2 hm2 m1 m2 cn
      go_wp2_with fail
      go_ret
      first | exact ⟨_, _, _, rfl, fin.out⟩ | exact ⟨_, rfl, _, _, fin.out⟩
  · have m1 := H1.out.keeps hm2.keeps npk.out
    have m2 := H2.out.keeps hm2.keeps nrow.out
    have fin := Lib.hid (sceneTo (v := .iface 71 (.int .i64 11)) hP'.out hd'.out z0 u0 hr2 (hm2.keeps.mono fun _ _ => .inl) hm2.new m1 m2 (fun r h => by rw [hr] at h; cases h) (by rw [hr]; rfl))
    clear hr2 hm2 m1 m2 cl
    go_wp2_with fail
    go_ret
    first | exact ⟨_, _, _, rfl, fin.out⟩ | exact ⟨_, rfl, _, _, fin.out⟩
end Go.Proofs.YtenhmficiegpiaaGreatDoor

namespace Go.Proofs.YtenhmficiegpiaaGreatDoor
open Go.RowKit Go.Extern.Stop Go.Stop Go.Extern

theorem scene_isBody (pk pc row : Nat) : IsBody 13 #[.pointer (some ⟨pk, 0, none⟩), .pointer (some ⟨pc, 0, none⟩)] sceneT (fun y => y = pc) (SceneP pk pc row) where
  enters := Go.Proofs.enters_of Tryz.func13 (by kernel_rfl) rfl
  keeps := fun h k hS => by
    obtain ⟨⟨z, u, h1, h2, hx⟩, h3, hY, hne⟩ := h
    exact ⟨⟨z, u, h1.keeps k (hS _ (.inl ((hY _).2 (.inl rfl)))), h2.keeps k (hS _ (.inl ((hY _).2 (.inr rfl)))), hx⟩, (k.cell (p := ⟨pc, 0, none⟩) (cell_lt h3) (hS _ (.inr rfl))).trans h3, hY, hne⟩
  old := fun h y hy => by
    obtain ⟨⟨z, u, h1, h2, hx⟩, h3, hY, hne⟩ := h
    rcases hy with hy | rfl
    · rcases (hY y).1 hy with rfl | rfl
      · exact h1.lt
      · exact h2.lt
    · exact cell_lt h3
  does := fun h hP hd hcap hg => scene_does h hP hd hcap hg

/-- The blocks of a scene. -/
def scM : Mm := (Pr.runs 100 sceneT (Mm.start 300)).2.1
theorem scene_end : (Pr.runs 100 sceneT (Mm.start 300)).1 = .ret (1, 3) ∧ (Pr.runs 100 sceneT (Mm.start 300)).2.2 = true := ⟨rfl, rfl⟩
theorem scM_st : scM.st.bs = [⟨1, 1, 0, true⟩, ⟨3, 2, 0, true⟩] := rfl
theorem scM_mem : scM.mem 2 = 0 ∧ scM.mem 4 = 0 ∧ scM.mem 5 = 10 := ⟨rfl, rfl, rfl⟩
theorem scM_cnt : scM.cnt = 3 := rfl
theorem scM_get : scM.st.get 0 = none := rfl
theorem scene_cans : sceneT.Cans 100 (Mm.start 300) := by
  refine ⟨⟨trivial, rfl, trivial⟩, fun _ => ⟨⟨trivial, rfl, ?_⟩, fun _ => ⟨⟨?_, rfl, trivial⟩, fun h => ?_⟩⟩⟩
  · exact ⟨by decide, by decide⟩
  · exact ⟨by decide, by decide⟩
  · cases h

/-- What Scene leaves. -/
def SceneTo (w : World) (e : Ending) (w' : World) : Prop :=
  ∃ b a X row, e = .returned (.tuple #[.pointer (some ⟨b, 0, none⟩), .int .u64 1, .slice (some ⟨row, 0, none⟩) 1 1]) ∧ Sha w' b a scM X ∧ w'.cell? ⟨row, 0, none⟩ = some (.int .u64 3) ∧ Keeps (fun _ => False) w w' ∧ (∀ x, X x → w.heap.size ≤ x) ∧ w.heap.size ≤ row ∧ ¬ X row

theorem SceneTo.stay {w w1 w2 : World} {e : Ending} (h : SceneTo w e w1) (k : Keeps (fun _ => False) w1 w2) : SceneTo w e w2 := by
  obtain ⟨b, a, X, row, h1, h2, h3, h4, h5, h6, h7⟩ := h
  exact ⟨b, a, X, row, h1, h2.same k, (k.cell (p := ⟨row, 0, none⟩) (cell_lt h3) id).trans h3, h4.trans_ k, h5, h6, h7⟩

set_option maxRecDepth 100000 in
set_option maxHeartbeats 2000000 in
theorem scene_any (w : World) (hg : Glob w) :
    Calls Tryz.prog 7 #[.int .i64 1] w fun e w' => SceneTo w e w' := by
  have hmf := make_func
  have hg' := Lib.hid hg
  have gl := Lib.hid (show etB < w.heap.size from hg.lt)
  have hms : ∀ w, (Instr.makeSlice 25 (.int .i64 1) (.int .i64 1)).run Tryz.prog w = .ok (.slice (some ⟨w.heap.size, 0, none⟩) 1 1) (w.alloc (.cells #[.int .u64 0] 24)) := fun w => run_makeWords 1 (by decide) w
  clear hg
  go_enter Tryz.func7, Tryz.ntmps7
  go_wp2_with fail
  refine (on_at 300 1 (by decide) (by decide) (by decide) w).mono ?_
  rintro e W1 ⟨a, b, X, rfl, hB, hX, hK⟩
  obtain ⟨W2, hW2⟩ : ∃ V, V = ((W1.alloc (.cells #[.int .u64 0] 24)).alloc (.cells #[.int .u64 0] 24)).alloc (.cells #[.slice (some ⟨W1.heap.size + 1, 0, none⟩) 1 1] 25) := ⟨_, rfl⟩
  have k2 : Keeps (fun _ => False) W1 W2 := by rw [hW2]; exact (((Keeps.refl _ W1).alloc _).alloc _).alloc _
  have m0 : Whole W2 W1.heap.size 24 #[.int .u64 ((0 : Nat) : Int)] := by rw [hW2]; exact ((made_at _ rfl _ _).alloc _).alloc _
  have m1 : Whole W2 (W1.heap.size + 1) 24 #[.int .u64 ((0 : Nat) : Int)] := by rw [hW2]; exact (made_at _ (by simp) _ _).alloc _
  have m2 : Whole W2 (W1.heap.size + 1 + 1) 25 #[.slice (some ⟨W1.heap.size + 1, 0, none⟩) 1 1] := by rw [hW2]; exact made_at _ (by simp) _ _
  have hmm := mm_start (n := 300) (by decide) (by decide) hB
  have oldX : ∀ x, X x → x < W1.heap.size := fun x hx => hB.old x hx
  have S2 := Lib.hid (show Sha W2 b a (Mm.start 300) X from ⟨hmm.same k2, hg'.out.keeps (hK.trans_ k2) id, fun hx => by have := hX _ hx; have := gl.out; omega⟩)
  have cn := Lib.hid (tnew_any (F := 13) (caps := #[.pointer (some ⟨W1.heap.size, 0, none⟩), .pointer (some ⟨W1.heap.size + 1 + 1, 0, none⟩)]) S2.out (Mm.start_get 300))
  have hW2' := Lib.hid hW2
  have K2 := Lib.hid (hK.trans_ k2)
  have X2 := Lib.hid hX
  have oldX' := Lib.hid oldX
  have M0 := Lib.hid m0
  have M1 := Lib.hid m1
  have M2 := Lib.hid m2
  have lw := Lib.hid hK.size
  clear hB hX hK hW2 k2 m0 m1 m2 hmm oldX
  go_wp2_with fail

  rw [← hW2'.out]
  refine cn.out.mono ?_
  rintro e W3 ⟨t, pl, O, rfl, hO, hOn, hK3⟩
  have sp : SceneP W1.heap.size (W1.heap.size + 1 + 1) (W1.heap.size + 1) W3 (fun y => y = W1.heap.size ∨ y = W1.heap.size + 1) none :=
    ⟨⟨0, 0, M0.out.keeps hK3 id, M1.out.keeps hK3 id, fun r h => by cases h⟩, (M2.out.keeps hK3 id).at_ 0, fun _ => Iff.rfl, by omega, by omega, by omega⟩
  have lW2 : W1.heap.size + 1 + 1 < W2.heap.size := M2.out.lt
  have run := Lib.hid (tg_run (scene_isBody W1.heap.size (W1.heap.size + 1 + 1) (W1.heap.size + 1)) (Y := fun y => y = W1.heap.size ∨ y = W1.heap.size + 1) (p := sceneT) (st := 0) 100
    ⟨[], hO, sp, trivial, rfl, fun e he => (by cases he), Nat.le_refl _, fun h => by cases h⟩ (S2.out.same hK3) (fun x hx ho => by have := oldX'.out x hx; have := hOn x ho; omega)
    (fun x hx => ⟨fun h => by have := oldX'.out x h; rcases hx with (rfl | rfl) | rfl <;> omega, fun h => by have := hOn x h; rcases hx with (rfl | rfl) | rfl <;> omega⟩) scene_cans (by decide) (by decide))
  have K3 := Lib.hid (K2.out.trans_ hK3)
  have O3 := Lib.hid hOn
  have L3 := Lib.hid hK3.size
  clear hO hOn hK3 sp cn
  go_wp2_with fail
  refine run.out.mono ?_
  clear run
  rintro e W4 ⟨rfl, st', X', O', Y', _, _, hT, hS, hF⟩
  rw [scene_end.1, scene_end.2] at hT
  obtain ⟨log, hO, hP, _⟩ := hT
  obtain ⟨⟨z, u, h1, h2, hx⟩, h3, hY, _⟩ := hP
  have hzu := hx (1, 3) rfl
  injection hzu with hz hu
  subst hz hu
  obtain ⟨c1, c7, _⟩ := hO.look
  have cd := Lib.hid (done_any c1 c7)
  have ck : W4.cell? ⟨W1.heap.size, 0, none⟩ = some (.int .u64 1) := h1.at_ 0
  have fin := Lib.hid (show SceneTo w (.returned (.tuple #[.pointer (some ⟨b, 0, none⟩), .int .u64 1, .slice (some ⟨W1.heap.size + 1, 0, none⟩) 1 1])) W4 from
    ⟨b, a, X', W1.heap.size + 1, rfl, hS, h2.at_ 0, K3.out.trans hF.keeps fun x hx hz => by
      rcases hz with (hz | hz) | hz
      · have := X2.out x hz; omega
      · have := O3.out x hz; have := lw.out; omega
      · have := lw.out; rcases hz with rfl | rfl <;> omega, fun x hx => (hF.new x (.inl hx)).elim (fun h => h.elim (X2.out x) fun h => by have := O3.out x h; have := lw.out; omega) fun h => Nat.le_trans K3.out.size h, by have := lw.out; omega, (hF.apart _ (.inl ((hY _).2 (.inr rfl)))).1⟩)
  clear hO h1 h2 hx hY hS hF c1 c7
  go_wp2_with (first
    | (go_at_call 16; refine (no_nil _).mono ?_; rintro e w' ⟨rfl, rfl⟩)
    | (go_at_call 18; refine cd.out.mono ?_; rintro e w' ⟨rfl, rfl⟩))
  go_quiet (fail)
  go_wp2_with fail
  refine bodyPost_ret (v := .tuple #[.pointer (some ⟨b, 0, none⟩), .int .u64 1, .slice (some ⟨W1.heap.size + 1, 0, none⟩) 1 1]) (by simp [results, Tryz.results7, go_sem]) rfl ?_
  exact fin.out.stay ((Keeps.refl _ W4).drewN nq)
end Go.Proofs.YtenhmficiegpiaaGreatDoor
