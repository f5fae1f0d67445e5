/-
  meta.Tick and Now by contract.
  meta.Read by contract.
  meta: Peek, peekLocked, lay, Commit, Release and Now by contract.
  meta: turn, Lock, Await by contract.
  meta: Lock and Await by contract.
-/
import Derived.Test.YtenhmficiegpiaaGreatDoorMtCont
import Derived.Laws.StructEq

namespace Go.Proofs.YtenhmficiegpiaaGreatDoor
open Go.RowKit Go.Extern.Stop Go.Stop Go.Extern

/-- What holds at Tick's label. -/
def TickJ (w : World) (c t b a pl : Nat) (bv : Value) (rd st : Int) (ev : Value) (Z : Nat → Prop) (R0 : Option Ans × Rn) (k : Nat) (a' : Act) (w' : World) : Prop :=
  ∃ (j : Nat) (s : Rn) (Z' : Nat → Prop) (jv x7 x8 x9 x10 x11 x12 x13 x14 x15 x16 x17 x18 x19 x20 x21 x22 x23 x24 x25 x26 x27 x28 x29 x30 x31 x32 x33 x34 x35 x36 x37 x38 x39 x40 x41 x42 : Value), a' = { tmps := #[.pointer (some ⟨c, 0, none⟩), .int .u64 (k : Int), undef, undef, .int .i64 0, .nilIface, jv, x7, x8, x9, x10, x11, x12, x13, x14, x15, x16, x17, x18, x19, x20, x21, x22, x23, x24, x25, x26, x27, x28, x29, x30, x31, x32, x33, x34, x35, x36, x37, x38, x39, x40, x41, x42], defers := [] } ∧ jv = .int .i64 (j : Int) ∧ j ≤ 8 ∧ Cont w w' c t b a pl bv rd st ev Z R0 (tickT k (8 - j)) s Z'



set_option maxRecDepth 100000 in
set_option maxHeartbeats 1000000 in
theorem tick_any {w : World} {c t b a pl : Nat} {bv : Value} {rd st : Int} {ev : Value} {s : Rn} {Z : Nat → Prop} (k : Nat) (h : RunM w c t b a pl bv rd st ev s Z) (hc : Cap s) (hg : (tickT k 8).Good s) :
    Calls Tryz.prog 46 #[.pointer (some ⟨c, 0, none⟩), .int .u64 (k : Int)] w fun e w' => ∃ v, e = .returned (.tuple #[.int .i64 (ansOf ((tickT k 8).run s).1).n, v]) ∧ EV v (ansOf ((tickT k 8).run s).1).err ∧ Ended w c t b a pl bv rd st ev Z ((tickT k 8).run s) w' := by
  have C0 := Lib.hid (Cont.begin h hc hg)
  generalize (tickT k 8).run s = R0 at C0 ⊢
  clear h hc hg
  go_enter Tryz.func46, Tryz.ntmps46
  go_wp2
  refine wp_scope_label 0 (TickJ w c t b a pl bv rd st ev Z R0 k) (fun a' _ => 8 - (intOf (a'.tmps.getD 6 undef)).toNat) rfl ?pass ?first
  case first =>
    intro hj
    go_wp2
    go_step3
    rename_i hK
    refine hK _ _ (hj _ _ ?_)
    exact ⟨0, s, Z, _, _, _, _, _, _, _, _, _, _, _, _, _, _, _, _, _, _, _, _, _, _, _, _, _, _, _, _, _, _, _, _, _, _, _, _, _, rfl, rfl, by omega, C0.out⟩
  case pass =>
    rintro a' wr ⟨j, s', Z', _, x7, x8, x9, x10, x11, x12, x13, x14, x15, x16, x17, x18, x19, x20, x21, x22, x23, x24, x25, x26, x27, x28, x29, x30, x31, x32, x33, x34, x35, x36, x37, x38, x39, x40, x41, x42, rfl, rfl, hj, hC⟩
    clear C0
    have C1 := Lib.hid hC
    clear hC
    by_cases h8 : j = 8
    · subst h8
      go_wp2_with fail
      simp only [Exit.jump]
      have hE := C1.out.ended
      go_ret2
      rw [hE.1]
      exact ⟨_, rfl, .inr (.inr ⟨.inr rfl, _, rfl⟩), hE.2.stay (Keeps.refl _ _)⟩
    · obtain ⟨n, hn⟩ : ∃ n, 8 - j = n + 1 := ⟨7 - j, by omega⟩
      have hjb : ¬ ((j : Int) = 8) := by omega
      have hj8 : (j : Int) ≤ 8 := by omega
      rw [hn] at C1
      have hn' := Lib.hid hn
      clear hn
      have cl := Lib.hid (ctx_load C1.out.run C1.out.cap.few.1 C1.out.cap.few.2 k 0 C1.out.small)
      have hwd := Lib.hid (ask_word C1.out.run.ok C1.out.small)
      go_wp2_with fail
      refine cl.out.mono ?_
      rintro e W2 ⟨v, rfl, hA⟩
      have hN := C1.out.next (Keeps.refl _ _) hA
      clear hA cl
      rcases hN with ⟨rfl, Z2, hC, _⟩ | ⟨rfl, hr, hE⟩
      · have C2 := Lib.hid hC
        clear hC C1
        have hx := hwd.out
        clear hwd
        generalize (ask s' (.load k 0)).1 = e1 at C2 hx ⊢
        generalize (ask s' (.load k 0)).2 = s2 at C2 ⊢
        obtain ⟨x, hx'⟩ : ∃ x, e1.word = x := ⟨_, rfl⟩
        rw [hx'] at C2 hx ⊢
        have cl := Lib.hid (ctx_cas C2.out.run C2.out.cap.few.1 C2.out.cap.few.2 k 0 x ((x + 1) % 18446744073709551616) C2.out.small)
        have hup := wrap_up x
        have hx2 : (x + 1) % 18446744073709551616 < 18446744073709551616 := Nat.mod_lt _ (by decide)
        generalize (x + 1) % 18446744073709551616 = y at *
        have hi := wrap_i64' y hx2
        have hi' := Lib.hid hi
        clear hx2 hi
        go_wp2_with fail
        refine cl.out.mono ?_
        rintro e W3 ⟨v, rfl, hA⟩
        have hN := C2.out.next (Keeps.refl _ _) hA
        clear hA cl
        rcases hN with ⟨rfl, Z3, hC, _⟩ | ⟨rfl, hr, hE⟩
        · have C3 := Lib.hid hC
          clear hC C2
          generalize (ask s2 (.cas k 0 x y)).1 = f1 at C3 ⊢
          generalize (ask s2 (.cas k 0 x y)).2 = s3 at C3 ⊢
          cases hd : f1.done with
          | true =>
            rw [hd] at C3
            obtain ⟨hr, hE⟩ := C3.out.ended
            have e1 := Lib.hid (show (ansOf R0.1).n = wrap64 (y : Int) by rw [hr]; exact hi'.out.symm)
            have e2 := Lib.hid (show (ansOf R0.1).err = 0 by rw [hr]; rfl)
            have E3 := Lib.hid hE
            clear hE C3 hr
            go_wp2_with fail
            simp only [Exit.jump]
            go_ret2
            rw [e1.out, e2.out]
            exact ⟨_, rfl, .inl ⟨rfl, rfl⟩, E3.out⟩
          | false =>
            rw [hd] at C3
            go_wp2_with fail
            go_step3
            refine ⟨rfl, ⟨j + 1, s3, Z3, _, _, _, _, _, _, _, _, _, _, _, _, _, _, _, _, _, _, _, _, _, _, _, _, _, _, _, _, _, _, _, _, _, _, _, _, _, rfl, by go_num, by omega, ?_⟩, ?_⟩
            · rw [show 8 - (j + 1) = n by have := hn'.out; omega]
              exact C3.out
            · simp [intOf]; omega
        · have E3 := Lib.hid hE
          clear hE
          go_wp2_with fail
          simp only [Exit.jump]
          go_ret2
          rw [hr]
          exact ⟨_, rfl, .inr (.inl ⟨rfl, rfl⟩), E3.out⟩
      · have E2 := Lib.hid hE
        clear hE
        go_wp2_with fail
        simp only [Exit.jump]
        go_ret2
        rw [hr]
        exact ⟨_, rfl, .inr (.inl ⟨rfl, rfl⟩), E2.out⟩
end Go.Proofs.YtenhmficiegpiaaGreatDoor

namespace Go.Proofs.YtenhmficiegpiaaGreatDoor
open Go.RowKit Go.Extern.Stop Go.Stop Go.Extern

/-- What holds at Read's label. -/
def ReadJ (w : World) (c t b a pl : Nat) (bv : Value) (rd st : Int) (ev : Value) (Z : Nat → Prop) (R0 : Option Ans × Rn) (k : Nat) (a' : Act) (w' : World) : Prop :=
  ∃ (j W : Nat) (s : Rn) (Z' : Nat → Prop) (jv wv x8 x10 x11 x12 x13 x14 x15 x16 x17 x18 x19 x20 x21 x22 x23 x24 x25 x26 x27 x28 x29 x30 x31 x32 x33 x34 x35 x36 x37 x38 x39 x40 x41 x42 x43 x44 x45 x46 x47 x48 x49 x50 x51 x52 x53 x54 x55 x56 x57 x58 x59 : Value), a' = { tmps := #[.pointer (some ⟨c, 0, none⟩), .int .u64 (k : Int), undef, undef, .int .u64 0, .int .i64 0, .nilIface, wv, x8, jv, x10, x11, x12, x13, x14, x15, x16, x17, x18, x19, x20, x21, x22, x23, x24, x25, x26, x27, x28, x29, x30, x31, x32, x33, x34, x35, x36, x37, x38, x39, x40, x41, x42, x43, x44, x45, x46, x47, x48, x49, x50, x51, x52, x53, x54, x55, x56, x57, x58, x59], defers := [] } ∧ jv = .int .i64 (j : Int) ∧ wv = .int .u64 (W : Int) ∧ j ≤ 8 ∧ W < 18446744073709551616 ∧ Cont w w' c t b a pl bv rd st ev Z R0 (readL k (8 - j) W) s Z'

theorem readL_stop (c n W : Nat) (h : chg W = true ∨ n = 0) : readL c n W = .ret ⟨12, 0, 0⟩ := by
  cases n with
  | zero => rfl
  | succ n => rcases h with h | h
              · unfold readL; rw [if_pos h]
              · cases h
theorem readL_go (c n W : Nat) (h : chg W = false) : readL c (n + 1) W = .acc (.load c 1) fun e => .acc (.load c 0) fun f => if f.word = W then .ret ⟨0, e.word, verN W⟩ else readL c n f.word := by
  rw [readL, if_neg (by simp [h])]

set_option maxRecDepth 100000 in
set_option maxHeartbeats 2000000 in
theorem read_any {w : World} {c t b a pl : Nat} {bv : Value} {rd st : Int} {ev : Value} {s : Rn} {Z : Nat → Prop} (k : Nat) (h : RunM w c t b a pl bv rd st ev s Z) (hc : Cap s) (hg : (readT k).Good s) :
    Calls Tryz.prog 47 #[.pointer (some ⟨c, 0, none⟩), .int .u64 (k : Int)] w fun e w' => ∃ v, e = .returned (.tuple #[.int .u64 ((ansOf ((readT k).run s).1).value : Int), .int .i64 (ansOf ((readT k).run s).1).n, v]) ∧ EV v (ansOf ((readT k).run s).1).err ∧ Ended w c t b a pl bv rd st ev Z ((readT k).run s) w' := by
  have C0 := Lib.hid (Cont.begin h hc hg)
  generalize (readT k).run s = R0 at C0 ⊢
  have cl := Lib.hid (ctx_load C0.out.run C0.out.cap.few.1 C0.out.cap.few.2 k 0 C0.out.small)
  have hwd := Lib.hid (ask_word C0.out.run.ok C0.out.small)
  clear h hc hg
  go_enter Tryz.func47, Tryz.ntmps47
  go_wp2
  refine wp_scope_label 0 (ReadJ w c t b a pl bv rd st ev Z R0 k) (fun a' _ => 8 - (intOf (a'.tmps.getD 9 undef)).toNat) rfl ?pass ?first
  case first =>
    intro hj
    go_wp2_with fail
    refine cl.out.mono ?_
    rintro e W2 ⟨v, rfl, hA⟩
    have hN := C0.out.next (Keeps.refl _ _) hA
    clear hA cl
    rcases hN with ⟨rfl, Z2, hC, _⟩ | ⟨rfl, hr, hE⟩
    · have C2 := Lib.hid hC
      have hx := hwd.out
      clear hC C0 hwd
      generalize (ask s (.load k 0)).1 = e1 at C2 hx ⊢
      generalize (ask s (.load k 0)).2 = s2 at C2 ⊢
      obtain ⟨x, hx'⟩ : ∃ x, e1.word = x := ⟨_, rfl⟩
      rw [hx'] at C2 hx ⊢
      go_wp2_with fail
      go_step3
      rename_i hK
      refine hK _ _ (hj _ _ ?_)
      exact ⟨0, x, s2, Z2, _, _, _, _, _, _, _, _, _, _, _, _, _, _, _, _, _, _, _, _, _, _, _, _, _, _, _, _, _, _, _, _, _, _, _, _, _, _, _, _, _, _, _, _, _, _, _, _, _, _, _, _, _, rfl, rfl, rfl, by omega, hx, C2.out⟩
    · have E2 := Lib.hid hE
      clear hE C0
      go_wp2_with fail
      simp only [Exit.jump]
      refine bodyPost_ret (v := .tuple #[.int .u64 0, .int .i64 0, .iface 71 (.int .i64 11)]) (by simp [results, Tryz.results47, go_sem]) rfl ?_
      rw [hr]
      exact ⟨_, rfl, .inr (.inl ⟨rfl, rfl⟩), E2.out⟩
  case pass =>
    rintro a' wr ⟨j, W, s', Z', _, _, x8, x10, x11, x12, x13, x14, x15, x16, x17, x18, x19, x20, x21, x22, x23, x24, x25, x26, x27, x28, x29, x30, x31, x32, x33, x34, x35, x36, x37, x38, x39, x40, x41, x42, x43, x44, x45, x46, x47, x48, x49, x50, x51, x52, x53, x54, x55, x56, x57, x58, x59, rfl, rfl, rfl, hj, hW, hC⟩
    clear C0 cl hwd
    have C1 := Lib.hid hC
    have hm := meta_of hW
    have hjb : (j : Int) ≤ 8 := by omega
    clear hC
    by_cases hst : chg W = true ∨ 8 - j = 0
    · rw [readL_stop k _ W hst] at C1
      obtain ⟨hr, hE⟩ := C1.out.ended
      have E1 := Lib.hid hE
      clear hE C1
      have un := Lib.hid (bt_unpack W _ _ _ _ hm wr)
      clear hm
      generalize chg W = cw at un hst
      have hj8 : cw = false → (j : Int) = 8 := fun h => by rcases hst with h' | h'; · rw [h] at h'; cases h'
                                                           · omega
      clear hst
      cases cw
      · have hj8' := hj8 rfl
        clear hj8
        go_wp2_with fail
        refine un.out.mono ?_
        rintro e W1 ⟨rfl, hK⟩
        have K1 := Lib.hid hK
        clear hK
        go_wp2_with fail
        simp only [Exit.jump]
        refine bodyPost_ret (v := .tuple #[.int .u64 0, .int .i64 0, .iface 146 (.agg #[.string ⟨#[82, 101, 97, 100]⟩, .iface 71 (.int .i64 12)])]) (by simp [results, Tryz.results47, go_sem]) rfl ?_
        rw [hr]
        exact ⟨_, rfl, .inr (.inr ⟨.inr rfl, _, rfl⟩), E1.out.stay (K1.out.alloc _)⟩
      · clear hj8
        go_wp2_with fail
        refine un.out.mono ?_
        rintro e W1 ⟨rfl, hK⟩
        have K1 := Lib.hid hK
        clear hK
        go_wp2_with fail
        simp only [Exit.jump]
        refine bodyPost_ret (v := .tuple #[.int .u64 0, .int .i64 0, .iface 146 (.agg #[.string ⟨#[82, 101, 97, 100]⟩, .iface 71 (.int .i64 12)])]) (by simp [results, Tryz.results47, go_sem]) rfl ?_
        rw [hr]
        exact ⟨_, rfl, .inr (.inr ⟨.inr rfl, _, rfl⟩), E1.out.stay (K1.out.alloc _)⟩
    · obtain ⟨n, hn⟩ : ∃ n, 8 - j = n + 1 := ⟨7 - j, by omega⟩
      have hch : chg W = false := by
        cases h : chg W
        · rfl
        · exact absurd (.inl h) hst
      have hj8 : ¬ (j : Int) = 8 := by omega
      rw [hn, readL_go k n W hch] at C1
      rw [hch] at hm
      have hn' := Lib.hid hn
      clear hn hst hch
      have un := Lib.hid (bt_unpack W _ _ _ _ hm wr)
      have hvb : verN W ≤ 281474976710655 := verN_le hW
      clear hm
      obtain ⟨vv, hvv⟩ : ∃ v, verN W = v := ⟨_, rfl⟩
      rw [hvv] at C1 un hvb
      clear hvv
      go_wp2_with fail
      refine un.out.mono ?_
      rintro e W1 ⟨rfl, hK⟩
      obtain ⟨W2, hW2⟩ : ∃ V, V = W1.alloc (.cells #[.int .i64 (vv : Int), .int .i64 (ownN W : Int), .bool false, .bool (wai W)] 113) := ⟨_, rfl⟩
      have kk : Keeps (fun _ => False) wr W2 := by rw [hW2]; exact hK.alloc _
      have mB : Whole W2 W1.heap.size 113 #[.int .i64 (vv : Int), .int .i64 (ownN W : Int), .bool false, .bool (wai W)] := by rw [hW2]; exact Whole.made _ _ _
      have nB : ¬ Z' W1.heap.size := fun h => by have := C1.out.run.old _ h; have := hK.size; omega
      have C2 := Lib.hid (C1.out.stay kk)
      have cl := Lib.hid (ctx_load C2.out.run C2.out.cap.few.1 C2.out.cap.few.2 k 1 C2.out.small)
      have hwd := Lib.hid (ask_word C2.out.run.ok C2.out.small)
      have B2 := Lib.hid mB
      have N2 := Lib.hid nB
      have hW2' := Lib.hid hW2
      clear hK kk mB nB hW2 C1 un
      go_wp2_with fail
      rw [← hW2'.out]
      refine cl.out.mono ?_
      rintro e W3 ⟨v, rfl, hA⟩
      have hN := C2.out.next (Keeps.refl _ _) hA
      clear hA cl
      rcases hN with ⟨rfl, Z3, hC, hM⟩ | ⟨rfl, hr, hE⟩
      · have C3 := Lib.hid hC
        have B3 := Lib.hid (B2.out.keeps hM.keeps N2.out)
        have N3 := Lib.hid (hM.apart B2.out.lt N2.out)
        have hx := hwd.out
        clear hC C2 hwd hM B2 N2 hW2'
        generalize (ask s' (.load k 1)).1 = e1 at C3 hx ⊢
        generalize (ask s' (.load k 1)).2 = s3 at C3 ⊢
        obtain ⟨x, hx'⟩ : ∃ x, e1.word = x := ⟨_, rfl⟩
        rw [hx'] at C3 hx ⊢
        have cl := Lib.hid (ctx_load C3.out.run C3.out.cap.few.1 C3.out.cap.few.2 k 0 C3.out.small)
        have hwd := Lib.hid (ask_word C3.out.run.ok C3.out.small)
        go_wp2_with fail
        refine cl.out.mono ?_
        rintro e W4 ⟨v, rfl, hA⟩
        have hN := C3.out.next (Keeps.refl _ _) hA
        clear hA cl
        rcases hN with ⟨rfl, Z4, hC, hM⟩ | ⟨rfl, hr, hE⟩
        · have C4 := Lib.hid hC
          have B4 := Lib.hid (B3.out.keeps hM.keeps N3.out)
          have hy := hwd.out
          clear hC C3 hwd hM B3 N3
          generalize (ask s3 (.load k 0)).1 = f1 at C4 hy ⊢
          generalize (ask s3 (.load k 0)).2 = s4 at C4 ⊢
          obtain ⟨y, hy'⟩ : ∃ y, f1.word = y := ⟨_, rfl⟩
          rw [hy'] at C4 hy ⊢
          by_cases hyw : y = W
          · subst hyw
            rw [if_pos rfl] at C4
            obtain ⟨hr, hE⟩ := C4.out.ended
            have E4 := Lib.hid hE
            have c0 : W4.cell? ⟨W1.heap.size, 0, none⟩ = some (.int .i64 (vv : Int)) := B4.out.at_ 0
            clear hE C4
            go_wp2_with fail
            go_quiet (fail)
            go_wp2_with fail
            simp only [Exit.jump]
            refine bodyPost_ret (v := .tuple #[.int .u64 (x : Int), .int .i64 (vv : Int), .nilIface]) (by simp [results, Tryz.results47, go_sem]) rfl ?_
            rw [hr]
            exact ⟨_, rfl, .inl ⟨rfl, rfl⟩, E4.out.stay ((Keeps.refl _ _).drewN nq)⟩
          · rw [if_neg hyw] at C4
            have hne : ¬ ((y : Int) = (W : Int)) := by omega
            go_wp2_with fail
            go_step3
            refine ⟨rfl, ⟨j + 1, y, s4, Z4, _, _, _, _, _, _, _, _, _, _, _, _, _, _, _, _, _, _, _, _, _, _, _, _, _, _, _, _, _, _, _, _, _, _, _, _, _, _, _, _, _, _, _, _, _, _, _, _, _, _, _, _, _, rfl, by go_num, rfl, by omega, hy, ?_⟩, ?_⟩
            · rw [show 8 - (j + 1) = n by have := hn'.out; omega]
              exact C4.out
            · simp [intOf]; omega
        · have E3 := Lib.hid hE
          clear hE
          go_wp2_with fail
          simp only [Exit.jump]
          refine bodyPost_ret (v := .tuple #[.int .u64 0, .int .i64 0, .iface 71 (.int .i64 11)]) (by simp [results, Tryz.results47, go_sem]) rfl ?_
          rw [hr]
          exact ⟨_, rfl, .inr (.inl ⟨rfl, rfl⟩), E3.out⟩
      · have E3 := Lib.hid hE
        clear hE
        go_wp2_with fail
        simp only [Exit.jump]
        refine bodyPost_ret (v := .tuple #[.int .u64 0, .int .i64 0, .iface 71 (.int .i64 11)]) (by simp [results, Tryz.results47, go_sem]) rfl ?_
        rw [hr]
        exact ⟨_, rfl, .inr (.inl ⟨rfl, rfl⟩), E3.out⟩
end Go.Proofs.YtenhmficiegpiaaGreatDoor

namespace Go.Proofs.YtenhmficiegpiaaGreatDoor
open Go.RowKit Go.Extern.Stop Go.Stop Go.Extern

section
variable {α : Type} {w wr : World} {c t b a pl : Nat} {bv : Value} {rd st : Int} {ev : Value} {Z Z' : Nat → Prop} {R0 : Option α × Rn} {s : Rn}

/-- What a Meta that is looked at tells. -/
def Peeked (w wr : World) (c t b a pl : Nat) (bv : Value) (rd st : Int) (ev : Value) (Z Z' : Nat → Prop) (R0 : Option α × Rn) (K : Ent → Pr α) (o : Value → Value → Ending) (bad : Value → Prop) (w' : World) (e : Ending) : Prop :=
  (∃ (x : Ent) (s' : Rn) (Z'' : Nat → Prop), x.word < 18446744073709551616 ∧ chg x.word = true ∧ e = o (.agg #[.int .i64 (verN x.word : Int), .int .i64 (ownN x.word : Int), .bool true, .bool (wai x.word)]) .nilIface ∧ Cont w w' c t b a pl bv rd st ev Z R0 (K x) s' Z'' ∧ Mv Z' Z'' wr w') ∨
  (∃ (x : Ent) (s' : Rn) (Z'' : Nat → Prop) (v : Value), chg x.word = false ∧ e = o (.agg #[.int .i64 0, .int .i64 0, .bool false, .bool false]) v ∧ bad v ∧ Cont w w' c t b a pl bv rd st ev Z R0 (K x) s' Z'') ∨
  (e = o (.agg #[.int .i64 0, .int .i64 0, .bool false, .bool false]) (.iface 71 (.int .i64 11)) ∧ R0.1 = none ∧ Ended w c t b a pl bv rd st ev Z R0 w')

/-- A result's block is filled. -/
def put4 (W : World) (n : Nat) (x0 x1 x2 x3 : Value) : World := (((W.setCell ⟨n, 0, none⟩ x0).setCell ⟨n, 1, none⟩ x1).setCell ⟨n, 2, none⟩ x2).setCell ⟨n, 3, none⟩ x3
theorem put4_keeps (W : World) (n : Nat) (x0 x1 x2 x3 : Value) : Keeps (fun x => x = n) W (put4 W n x0 x1 x2 x3) :=
  ((((Keeps.refl (fun x => x = n) W).setCell (p := ⟨n, 0, none⟩) (fun _ => rfl) _).setCell (p := ⟨n, 1, none⟩) (fun _ => rfl) _).setCell (p := ⟨n, 2, none⟩) (fun _ => rfl) _).setCell (p := ⟨n, 3, none⟩) (fun _ => rfl) _

theorem Cont.put {T : Pr α} {W0 W1 : World} {n : Nat} {Z2 : Nat → Prop} (h : Cont w W1 c t b a pl bv rd st ev Z R0 T s Z2) (hm : Mv Z' Z2 W0 W1) (hn : ¬ Z2 n) (h0 : W0.heap.size ≤ n) (hw : w.heap.size ≤ n) (hg : etB ≠ n) (x0 x1 x2 x3 : Value) :
    Cont w (put4 W1 n x0 x1 x2 x3) c t b a pl bv rd st ev Z R0 T s Z2 ∧ Mv Z' Z2 W0 (put4 W1 n x0 x1 x2 x3) := by
  have k := put4_keeps W1 n x0 x1 x2 x3
  exact ⟨⟨h.run.far k (fun x hx e => hn (e ▸ hx)) hg, ⟨h.mv.keeps.trans k fun x hx e => absurd hx (by omega), h.mv.new⟩, h.same, h.good, h.cap⟩, ⟨hm.keeps.trans k fun x hx e => absurd hx (by omega), hm.new⟩⟩
/-- Behind an access that told that the step is over. -/
theorem Cont.halt {q : Req} {k : Ent → Pr α} {v : Value} {w1 w2 : World} (h : Cont w wr c t b a pl bv rd st ev Z R0 (.acc q k) s Z') (k1 : Keeps (fun _ => False) wr w1) (hA : Asked w1 c t b a pl bv rd st ev s Z' q v w2) (hv : v = .iface 71 (.int .i64 11)) :
    ∃ Z'', RunM w2 c t b a pl bv rd st ev R0.2 Z'' ∧ Mv Z Z'' w w2 ∧ Mv Z' Z'' w1 w2 ∧ Cap R0.2 := by
  obtain ⟨hv', _, Z2, hr, hm⟩ := hA
  have hm' := (h.mv.trans (Mv.stay k1)).trans hm
  have hc := h.cap.ask h.run.ok h.small
  have e := h.same
  rcases h.good.2 with ⟨h1, _⟩ | h1
  · rw [h1] at hv'
    rw [hv] at hv'
    cases hv'
  · rw [show (Pr.acc q k).run s = (none, (ask s q).2) by simp [Pr.run, h1]] at e
    subst e
    exact ⟨Z2, hr, hm', hm, hc⟩
theorem put_run {W0 W1 : World} {n : Nat} {Z2 : Nat → Prop} (h : RunM W1 c t b a pl bv rd st ev R0.2 Z2) (hm : Mv Z Z2 w W1) (hm0 : Mv Z' Z2 W0 W1) (hc : Cap R0.2) (hn : ¬ Z2 n) (h0 : W0.heap.size ≤ n) (hw : w.heap.size ≤ n) (hg : etB ≠ n) (x0 x1 x2 x3 : Value) :
    ∃ Z'', RunM (put4 W1 n x0 x1 x2 x3) c t b a pl bv rd st ev R0.2 Z'' ∧ Mv Z Z'' w (put4 W1 n x0 x1 x2 x3) ∧ Mv Z' Z'' W0 (put4 W1 n x0 x1 x2 x3) ∧ Cap R0.2 := by
  have k := put4_keeps W1 n x0 x1 x2 x3
  exact ⟨Z2, h.far k (fun x hx e => hn (e ▸ hx)) hg, ⟨hm.keeps.trans k fun x hx e => absurd hx (by omega), hm.new⟩, ⟨hm0.keeps.trans k fun x hx e => absurd hx (by omega), hm0.new⟩, hc⟩
theorem Ended.put {W1 : World} {n : Nat} {Z2 : Nat → Prop} (h : RunM W1 c t b a pl bv rd st ev R0.2 Z2) (hm : Mv Z Z2 w W1) (hc : Cap R0.2) (hn : ¬ Z2 n) (hw : w.heap.size ≤ n) (hg : etB ≠ n) (x0 x1 x2 x3 : Value) : Ended w c t b a pl bv rd st ev Z R0 (put4 W1 n x0 x1 x2 x3) := by
  have k := put4_keeps W1 n x0 x1 x2 x3
  exact ⟨⟨Z2, h.far k (fun x hx e => hn (e ▸ hx)) hg, ⟨hm.keeps.trans k fun x hx e => absurd hx (by omega), hm.new⟩⟩, hc⟩

set_option maxRecDepth 100000 in
set_option maxHeartbeats 1000000 in
theorem now_any (k : Nat) {R0 : Option Ans × Rn} (h : Cont w wr c t b a pl bv rd st ev Z R0 (nowT k) s Z') :
    Calls Tryz.prog 45 #[.pointer (some ⟨c, 0, none⟩), .int .u64 (k : Int)] wr fun e w' => ∃ v, e = .returned (.tuple #[.int .i64 (ansOf R0.1).n, v]) ∧ EV v (ansOf R0.1).err ∧ Ended w c t b a pl bv rd st ev Z R0 w' := by
  have C1 := Lib.hid h
  have cl := Lib.hid (ctx_load C1.out.run C1.out.cap.few.1 C1.out.cap.few.2 k 0 C1.out.small)
  have hwd := Lib.hid (ask_word C1.out.run.ok C1.out.small)
  have h0 := Lib.hid (show (ask s (.load k 0)).1.err ≠ .ok → (ask s (.load k 0)).1.word = 0 from fun hne => by
    unfold ask at hne ⊢
    split
    · rename_i hl
      rw [if_pos hl] at hne
      unfold Ent.ans at hne ⊢
      split
      · rename_i ho
        rw [if_pos ho] at hne
        exact absurd ho hne
      · rfl
    · rename_i hl
      rw [if_neg hl] at hne
      split
      · rfl
      · rename_i ho
        rw [if_neg ho] at hne
        unfold Ent.ans at hne ⊢
        split
        · rename_i hk
          rw [if_pos hk] at hne
          exact absurd hk hne
        · rfl)
  clear h
  go_enter Tryz.func45, Tryz.ntmps45
  go_wp2_with fail
  refine cl.out.mono ?_
  rintro e W2 ⟨v, rfl, hA⟩
  have hN := C1.out.next (Keeps.refl _ _) hA
  have hv := hA.1
  clear hA cl
  rcases hN with ⟨rfl, Z2, hC, _⟩ | ⟨rfl, hr, hE⟩
  · have hx := hwd.out
    obtain ⟨hr, hE⟩ := hC.ended
    have E2 := Lib.hid hE
    clear hC C1 hwd hE h0 hv
    generalize (ask s (.load k 0)).1 = e1 at hr hx ⊢
    have hi := wrap_i64' e1.word hx
    have hi' := Lib.hid hi
    clear hi
    have e1' := Lib.hid (show (ansOf R0.1).n = wrap64 (e1.word : Int) by rw [hr]; exact hi'.out.symm)
    have e2' := Lib.hid (show (ansOf R0.1).err = 0 by rw [hr]; rfl)
    clear hr
    go_wp2_with fail
    go_ret2
    rw [e1'.out, e2'.out]
    exact ⟨_, rfl, .inl ⟨rfl, rfl⟩, E2.out⟩
  · have E2 := Lib.hid hE
    have hz : (ask s (.load k 0)).1.word = 0 := h0.out (fun e => by rw [e] at hv; cases hv)
    rw [hz]
    clear hE C1 hwd h0 hv
    go_wp2_with fail
    go_ret2
    rw [hr]
    exact ⟨_, rfl, .inr (.inl ⟨rfl, rfl⟩), E2.out⟩

set_option maxRecDepth 100000 in
set_option maxHeartbeats 1000000 in
theorem peek_any (k : Nat) {K : Ent → Pr α} (h : Cont w wr c t b a pl bv rd st ev Z R0 (.acc (.load k 0) K) s Z') :
    Calls Tryz.prog 48 #[.pointer (some ⟨c, 0, none⟩), .int .u64 (k : Int)] wr fun e w' =>
      (∃ (x : Ent) (s' : Rn) (Z'' : Nat → Prop), x.word < 18446744073709551616 ∧ e = .returned (.tuple #[.agg #[.int .i64 (verN x.word : Int), .int .i64 (ownN x.word : Int), .bool (chg x.word), .bool (wai x.word)], .nilIface]) ∧ Cont w w' c t b a pl bv rd st ev Z R0 (K x) s' Z'' ∧ Mv Z' Z'' wr w') ∨
      (e = .returned (.tuple #[.agg #[.int .i64 0, .int .i64 0, .bool false, .bool false], .iface 71 (.int .i64 11)]) ∧ R0.1 = none ∧ ∃ Z'', RunM w' c t b a pl bv rd st ev R0.2 Z'' ∧ Mv Z Z'' w w' ∧ Mv Z' Z'' wr w' ∧ Cap R0.2) := by
  obtain ⟨W1, hW1⟩ : ∃ W, W = wr.alloc (.cells #[.int .i64 0, .int .i64 0, .bool false, .bool false] 113) := ⟨_, rfl⟩
  have k1 : Keeps (fun _ => False) wr W1 := by rw [hW1]; exact (Keeps.refl _ wr).alloc _
  have mB : Whole W1 wr.heap.size 113 #[.int .i64 0, .int .i64 0, .bool false, .bool false] := by rw [hW1]; exact Whole.made _ _ _
  have nB : ¬ Z' wr.heap.size := fun hz => Nat.lt_irrefl _ (h.run.old _ hz)
  have C1 := Lib.hid (h.stay k1)
  have cl := Lib.hid (ctx_load C1.out.run C1.out.cap.few.1 C1.out.cap.few.2 k 0 C1.out.small)
  have hwd := Lib.hid (ask_word C1.out.run.ok C1.out.small)
  have B1 := Lib.hid mB
  have N1 := Lib.hid nB
  have K1 := Lib.hid k1
  have hW1' := Lib.hid hW1
  have sg := Lib.hid h.run.gl
  have sw := Lib.hid h.mv.keeps.size
  clear h k1 mB nB hW1
  go_enter Tryz.func48, Tryz.ntmps48
  go_wp2_with fail
  rw [← hW1'.out]
  refine cl.out.mono ?_
  rintro e W2 ⟨v, rfl, hA⟩
  have hN := C1.out.next (Keeps.refl _ _) hA
  have hH := C1.out.halt (Keeps.refl _ _) hA
  clear hA cl
  rcases hN with ⟨rfl, Z2, hC, hM⟩ | ⟨rfl, hr, hE⟩
  · have hx := hwd.out
    have C2 := Lib.hid hC
    have B2 := Lib.hid (B1.out.keeps hM.keeps N1.out)
    have M2 := Lib.hid ((Mv.stay (X := Z') K1.out).trans hM)
    have N2 := Lib.hid (hM.apart B1.out.lt N1.out)
    clear hC C1 hwd hM B1 N1 hH
    generalize (ask s (.load k 0)).1 = e1 at C2 hx ⊢
    generalize (ask s (.load k 0)).2 = s2 at C2 ⊢
    have un := Lib.hid (bt_unpack e1.word _ _ _ _ (meta_of hx) W2)
    go_wp2_with fail
    refine un.out.mono ?_
    rintro e W3 ⟨rfl, hK⟩
    have C3 := Lib.hid (C2.out.stay hK)
    have M3 := Lib.hid (M2.out.trans (Mv.stay hK))
    have B3 := B2.out.keeps hK id
    obtain ⟨c0, c1, c2, c3⟩ := four_cells B3
    have z0 : W3.frozen? ⟨wr.heap.size, 0, none⟩ = false := B3.free 0
    have z1 : W3.frozen? ⟨wr.heap.size, 1, none⟩ = false := B3.free 1
    have z2 : W3.frozen? ⟨wr.heap.size, 2, none⟩ = false := B3.free 2
    have z3 : W3.frozen? ⟨wr.heap.size, 3, none⟩ = false := B3.free 3
    have nZ : Hid (¬ Z2 wr.heap.size) := Lib.hid N2.out
    have gl := Lib.hid C2.out.run.gl
    clear hK C2 M2 B2 un B3
    go_wp2_with fail
    refine bodyPost_ret (v := .tuple #[.agg #[.int .i64 (verN e1.word : Int), .int .i64 (ownN e1.word : Int), .bool (chg e1.word), .bool (wai e1.word)], .nilIface]) (by simp [results, Tryz.results48, go_sem, c0, c1, c2, c3]) rfl ?_
    obtain ⟨h1, h2⟩ := C3.out.put M3.out nZ.out (Nat.le_refl _) sw.out (fun e => by have := sg.out; omega) (.int .i64 (verN e1.word : Int)) (.int .i64 (ownN e1.word : Int)) (.bool (chg e1.word)) (.bool (wai e1.word))
    exact .inl ⟨e1, s2, Z2, hx, rfl, h1, h2⟩
  · obtain ⟨Z2, hr2, hm2, hM, hc2⟩ := hH rfl
    have B2 := B1.out.keeps hM.keeps N1.out
    have N2 := hM.apart B1.out.lt N1.out
    obtain ⟨c0, c1, c2, c3⟩ := four_cells B2
    have z0 : W2.frozen? ⟨wr.heap.size, 0, none⟩ = false := B2.free 0
    have z1 : W2.frozen? ⟨wr.heap.size, 1, none⟩ = false := B2.free 1
    have z2 : W2.frozen? ⟨wr.heap.size, 2, none⟩ = false := B2.free 2
    have z3 : W2.frozen? ⟨wr.heap.size, 3, none⟩ = false := B2.free 3
    have fin := Lib.hid (put_run hr2 hm2 ((Mv.stay (X := Z') K1.out).trans hM) hc2 N2 (Nat.le_refl _) sw.out (fun e => by have := sg.out; omega) (.int .i64 0) (.int .i64 0) (.bool false) (.bool false))
    clear hE hr2 hm2 hM hc2 B2 N2 C1 hwd B1 N1 hH
    go_wp2_with fail
    refine bodyPost_ret (v := .tuple #[.agg #[.int .i64 0, .int .i64 0, .bool false, .bool false], .iface 71 (.int .i64 11)]) (by simp [results, Tryz.results48, go_sem, c0, c1, c2, c3]) rfl ?_
    exact .inr ⟨rfl, hr, fin.out⟩

set_option maxRecDepth 100000 in
set_option maxHeartbeats 1000000 in
theorem peekLocked_any (k : Nat) (cs : ByteArray) {K : Ent → Pr α} (h : Cont w wr c t b a pl bv rd st ev Z R0 (.acc (.load k 0) K) s Z') :
    Calls Tryz.prog 72 #[.pointer (some ⟨c, 0, none⟩), .string cs, .int .u64 (k : Int)] wr fun e w' =>
      Peeked w wr c t b a pl bv rd st ev Z Z' R0 K (fun m v => .returned (.tuple #[m, v])) (fun v => v = .iface 146 (.agg #[.string cs, .iface 71 (.int .i64 2)])) w' e := by
  obtain ⟨W1, hW1⟩ : ∃ W, W = wr.alloc (.cells #[.int .i64 0, .int .i64 0, .bool false, .bool false] 113) := ⟨_, rfl⟩
  have k1 : Keeps (fun _ => False) wr W1 := by rw [hW1]; exact (Keeps.refl _ wr).alloc _
  have mB : Whole W1 wr.heap.size 113 #[.int .i64 0, .int .i64 0, .bool false, .bool false] := by rw [hW1]; exact Whole.made _ _ _
  have nB : ¬ Z' wr.heap.size := fun hz => Nat.lt_irrefl _ (h.run.old _ hz)
  have cp := Lib.hid (peek_any k (h.stay k1))
  have B1 := Lib.hid mB
  have N1 := Lib.hid nB
  have K1 := Lib.hid k1
  have hW1' := Lib.hid hW1
  have sg := Lib.hid h.run.gl
  have sw := Lib.hid h.mv.keeps.size
  have oldZ := Lib.hid h.run.old
  clear h k1 mB nB hW1
  go_enter Tryz.func72, Tryz.ntmps72
  go_wp2_with fail
  rw [← hW1'.out]
  refine cp.out.mono ?_
  clear cp
  rintro e W2 (⟨x, s', Z2, hx, rfl, hC, hM⟩ | ⟨rfl, hr, Z2, hr2, hm2, hm3, hc2⟩)
  · have B2 := B1.out.keeps hM.keeps N1.out
    have nZ := Lib.hid (hM.apart B1.out.lt N1.out)
    obtain ⟨b0, b1, b2, b3⟩ := four_cells B2
    have lt2 : wr.heap.size < W2.heap.size := B2.lt
    have y0 : W2.frozen? ⟨wr.heap.size, 0, none⟩ = false := B2.free 0
    have y1 : W2.frozen? ⟨wr.heap.size, 1, none⟩ = false := B2.free 1
    have y2 : W2.frozen? ⟨wr.heap.size, 2, none⟩ = false := B2.free 2
    have y3 : W2.frozen? ⟨wr.heap.size, 3, none⟩ = false := B2.free 3
    have C2 := Lib.hid hC
    have M2 := Lib.hid ((Mv.stay (X := Z') K1.out).trans hM)
    have hx' := Lib.hid hx
    clear hC hM B1 N1 B2 K1 hx
    cases hch : chg x.word with
    | true =>
      have hch' := Lib.hid hch
      clear hch
      go_wp2_with fail
      refine bodyPost_ret (v := .tuple #[.agg #[.int .i64 (verN x.word : Int), .int .i64 (ownN x.word : Int), .bool true, .bool (wai x.word)], .nilIface]) (by simp [results, Tryz.results72, go_sem, b0, b1, b2, b3, lt2]) rfl ?_
      obtain ⟨h1, h2⟩ := C2.out.put M2.out nZ.out (Nat.le_refl _) sw.out (fun e => by have := sg.out; omega) (.int .i64 (verN x.word : Int)) (.int .i64 (ownN x.word : Int)) (.bool true) (.bool (wai x.word))
      exact .inl ⟨x, s', Z2, hx'.out, hch'.out, rfl, h1.stay ((Keeps.refl _ _).alloc _), h2.trans (Mv.stay ((Keeps.refl _ _).alloc _))⟩
    | false =>
      have hch' := Lib.hid hch
      clear hch
      go_wp2_with fail
      refine bodyPost_ret (v := .tuple #[.agg #[.int .i64 0, .int .i64 0, .bool false, .bool false], .iface 146 (.agg #[.string cs, .iface 71 (.int .i64 2)])]) (by simp [results, Tryz.results72, go_sem, b0, b1, b2, b3, lt2]) rfl ?_
      obtain ⟨h1, h2⟩ := C2.out.put M2.out nZ.out (Nat.le_refl _) sw.out (fun e => by have := sg.out; omega) (.int .i64 0) (.int .i64 0) (.bool false) (.bool false)
      exact .inr (.inl ⟨x, s', Z2, _, hch'.out, rfl, rfl, h1.stay ((Keeps.refl _ _).alloc _)⟩)
  · have B2 := B1.out.keeps hm3.keeps N1.out
    have N2 := hm3.apart B1.out.lt N1.out
    obtain ⟨b0, b1, b2, b3⟩ := four_cells B2
    have lt2 : wr.heap.size < W2.heap.size := B2.lt
    have y0 : W2.frozen? ⟨wr.heap.size, 0, none⟩ = false := B2.free 0
    have y1 : W2.frozen? ⟨wr.heap.size, 1, none⟩ = false := B2.free 1
    have y2 : W2.frozen? ⟨wr.heap.size, 2, none⟩ = false := B2.free 2
    have y3 : W2.frozen? ⟨wr.heap.size, 3, none⟩ = false := B2.free 3
    have fin := Lib.hid (Ended.put hr2 hm2 hc2 N2 sw.out (fun e => by have := sg.out; omega) (.int .i64 0) (.int .i64 0) (.bool false) (.bool false))
    clear hr2 hm2 hm3 hc2 B2 N2 B1 N1 K1
    go_wp2_with fail
    refine bodyPost_ret (v := .tuple #[.agg #[.int .i64 0, .int .i64 0, .bool false, .bool false], .iface 71 (.int .i64 11)]) (by simp [results, Tryz.results72, go_sem, b0, b1, b2, b3, lt2]) rfl ?_
    exact .inr (.inr ⟨rfl, hr, fin.out.stay ((Keeps.refl _ _).alloc _)⟩)

set_option maxRecDepth 100000 in
set_option maxHeartbeats 1000000 in
theorem lay_any (k : Nat) (cs : ByteArray) (v o : Nat) (cb tb : Bool) (hv : v ≤ 281474976710655) (ho : o ≤ 255) {K : Ent → Pr α} (h : Cont w wr c t b a pl bv rd st ev Z R0 (.acc (.store k 0 (packN v o cb tb)) K) s Z') :
    Calls Tryz.prog 73 #[.pointer (some ⟨c, 0, none⟩), .string cs, .int .u64 (k : Int), .agg #[.int .i64 (v : Int), .int .i64 (o : Int), .bool cb, .bool tb]] wr fun e w' =>
      (∃ (x : Ent) (s' : Rn) (Z'' : Nat → Prop), e = .returned .nilIface ∧ Cont w w' c t b a pl bv rd st ev Z R0 (K x) s' Z'' ∧ Mv Z' Z'' wr w') ∨
      (e = .returned (.iface 71 (.int .i64 11)) ∧ R0.1 = none ∧ Ended w c t b a pl bv rd st ev Z R0 w') := by
  obtain ⟨W1, hW1⟩ : ∃ W, W = wr.alloc (.cells #[.int .i64 (v : Int), .int .i64 (o : Int), .bool cb, .bool tb] 113) := ⟨_, rfl⟩
  have k1 : Keeps (fun _ => False) wr W1 := by rw [hW1]; exact (Keeps.refl _ wr).alloc _
  have mB : Whole W1 wr.heap.size 113 #[.int .i64 (v : Int), .int .i64 (o : Int), .bool cb, .bool tb] := by rw [hW1]; exact Whole.made _ _ _
  have C1 := Lib.hid (h.stay k1)
  have cp := Lib.hid (pack_ok v o cb tb hv ho W1)
  have K1 := Lib.hid k1
  have hW1' := Lib.hid hW1
  obtain ⟨b0, b1, b2, b3⟩ := four_cells mB
  clear h k1 mB hW1
  go_enter Tryz.func73, Tryz.ntmps73
  go_wp2_with fail
  rw [← hW1'.out]
  refine cp.out.mono ?_
  rintro e W2 ⟨rfl, hK⟩
  have C2 := Lib.hid (C1.out.stay hK)
  have K2 := Lib.hid (K1.out.trans_ hK)
  have cl := Lib.hid (ctx_store C2.out.run C2.out.cap.few.1 C2.out.cap.few.2 k 0 (packN v o cb tb) C2.out.small)
  clear cp hK C1
  go_wp2_with fail
  refine cl.out.mono ?_
  rintro e W3 ⟨x, rfl, hA⟩
  have hN := C2.out.next (Keeps.refl _ _) hA
  clear hA cl
  rcases hN with ⟨rfl, Z3, hC, hM⟩ | ⟨rfl, hr, hE⟩
  · have C3 := Lib.hid hC
    have M3 := Lib.hid ((Mv.stay (X := Z') K2.out).trans hM)
    clear hC hM C2
    go_wp2_with fail
    go_ret
    exact .inl ⟨_, _, _, rfl, C3.out, M3.out⟩
  · have E3 := Lib.hid hE
    clear hE C2
    go_wp2_with fail
    go_ret
    exact .inr ⟨rfl, hr, E3.out⟩

set_option maxRecDepth 100000 in
set_option maxHeartbeats 2000000 in
theorem release_any (k : Nat) {R0 : Option Ans × Rn} (h : Cont w wr c t b a pl bv rd st ev Z R0 (releaseT k) s Z') :
    Calls Tryz.prog 52 #[.pointer (some ⟨c, 0, none⟩), .int .u64 (k : Int)] wr fun e w' => ∃ v, e = .returned v ∧ EV v (ansOf R0.1).err ∧ Ended w c t b a pl bv rd st ev Z R0 w' := by
  have cp := Lib.hid (peekLocked_any k ⟨#[82, 101, 108, 101, 97, 115, 101]⟩ h)
  clear h
  go_enter Tryz.func52, Tryz.ntmps52
  go_wp2_with fail
  refine cp.out.mono ?_
  clear cp
  rintro e W2 (⟨x, s', Z2, hx, hch, rfl, hC, hM⟩ | ⟨x, s', Z2, v, hch, rfl, rfl, hC⟩ | ⟨rfl, hr, hE⟩)
  · dsimp only at hC
    rw [if_pos hch] at hC
    obtain ⟨W3, hW3⟩ : ∃ V, V = W2.alloc (.cells #[.int .i64 (verN x.word : Int), .int .i64 (ownN x.word : Int), .bool true, .bool (wai x.word)] 113) := ⟨_, rfl⟩
    have kk : Keeps (fun _ => False) W2 W3 := by rw [hW3]; exact (Keeps.refl _ W2).alloc _
    have cl := Lib.hid (lay_any k ⟨#[82, 101, 108, 101, 97, 115, 101]⟩ (verN x.word) 0 false (wai x.word) (verN_le hx) (by omega) (hC.stay kk))
    have hW3' := Lib.hid hW3
    clear hC hM kk hW3 hch
    dsimp only
    go_wp2_with fail
    rw [← hW3'.out]
    refine cl.out.mono ?_
    rintro e W4 (⟨x2, s2, Z4, rfl, hC, _⟩ | ⟨rfl, hr, hE⟩)
    · obtain ⟨hr, hE⟩ := hC.ended
      have E2 := Lib.hid hE
      clear hC hE cl
      go_wp2_with fail
      go_ret
      rw [hr]
      exact ⟨_, rfl, .inl ⟨rfl, rfl⟩, E2.out⟩
    · have E2 := Lib.hid hE
      clear hE cl
      go_wp2_with fail
      go_ret
      rw [hr]
      exact ⟨_, rfl, .inr (.inl ⟨rfl, rfl⟩), E2.out⟩
  · dsimp only at hC
    rw [if_neg (by simp [hch])] at hC
    obtain ⟨hr, hE⟩ := hC.ended
    have E2 := Lib.hid hE
    clear hC hE
    dsimp only
    go_wp2_with fail
    go_ret
    rw [hr]
    exact ⟨_, rfl, .inr (.inr ⟨.inl rfl, _, rfl⟩), E2.out.stay ((Keeps.refl _ _).alloc _)⟩
  · have E2 := Lib.hid hE
    clear hE
    dsimp only
    go_wp2_with fail
    go_ret
    rw [hr]
    exact ⟨_, rfl, .inr (.inl ⟨rfl, rfl⟩), E2.out.stay ((Keeps.refl _ _).alloc _)⟩

set_option maxRecDepth 100000 in
set_option maxHeartbeats 2000000 in
theorem commit_any (k value ver : Nat) (hver : ver ≤ 281474976710655) {R0 : Option Ans × Rn} (h : Cont w wr c t b a pl bv rd st ev Z R0 (commitT k value ver) s Z') :
    Calls Tryz.prog 51 #[.pointer (some ⟨c, 0, none⟩), .int .u64 (k : Int), .int .u64 (value : Int), .int .i64 (ver : Int)] wr fun e w' => ∃ v d, e = .returned (.tuple #[.bool d, v]) ∧ (ansOf R0.1).n = (if d then 1 else 0) ∧ (ansOf R0.1).value = 0 ∧ EV v (ansOf R0.1).err ∧ Ended w c t b a pl bv rd st ev Z R0 w' := by
  have cp := Lib.hid (peekLocked_any k ⟨#[67, 111, 109, 109, 105, 116]⟩ h)
  clear h
  go_enter Tryz.func51, Tryz.ntmps51
  go_wp2_with fail
  refine cp.out.mono ?_
  clear cp
  rintro e W2 (⟨x, s', Z2, hx, hch, rfl, hC, hM⟩ | ⟨x, s', Z2, v, hch, rfl, rfl, hC⟩ | ⟨rfl, hr, hE⟩)
  · dsimp only at hC
    rw [if_pos hch] at hC
    obtain ⟨W3, hW3⟩ : ∃ V, V = W2.alloc (.cells #[.int .i64 (verN x.word : Int), .int .i64 (ownN x.word : Int), .bool true, .bool (wai x.word)] 113) := ⟨_, rfl⟩
    have kk : Keeps (fun _ => False) W2 W3 := by rw [hW3]; exact (Keeps.refl _ W2).alloc _
    have mB : Whole W3 W2.heap.size 113 #[.int .i64 (verN x.word : Int), .int .i64 (ownN x.word : Int), .bool true, .bool (wai x.word)] := by rw [hW3]; exact Whole.made _ _ _
    have C3 := Lib.hid (hC.stay kk)
    have B3 := Lib.hid mB
    have N3 : Hid (¬ Z2 W2.heap.size) := Lib.hid fun hz => Nat.lt_irrefl _ (hC.run.old _ hz)
    have cl := Lib.hid (ctx_store C3.out.run C3.out.cap.few.1 C3.out.cap.few.2 k 1 value C3.out.small)
    have hW3' := Lib.hid hW3
    clear hC hM kk hW3 hch mB hx
    generalize wai x.word = tb at C3 B3 hW3' ⊢
    dsimp only
    go_wp2_with fail
    rw [← hW3'.out]
    refine cl.out.mono ?_
    rintro e W4 ⟨v, rfl, hA⟩
    have hN := C3.out.next (Keeps.refl _ _) hA
    clear hA cl
    rcases hN with ⟨rfl, Z4, hC, hM⟩ | ⟨rfl, hr, hE⟩
    · have B4 := Lib.hid (B3.out.keeps hM.keeps N3.out)
      have N4 := Lib.hid (hM.apart B3.out.lt N3.out)
      have cl := Lib.hid (lay_any k ⟨#[67, 111, 109, 109, 105, 116]⟩ ver 0 false false hver (by omega) hC)
      clear hC hM C3 B3 N3 hW3'
      go_wp2_with fail
      refine cl.out.mono ?_
      rintro e W5 (⟨x2, s2, Z5, rfl, hC, hM⟩ | ⟨rfl, hr, hE⟩)
      · obtain ⟨hr, hE⟩ := hC.ended
        have E2 := Lib.hid hE
        have d3 : W5.cell? ⟨W2.heap.size, 3, none⟩ = some (.bool tb) := (B4.out.keeps hM.keeps N4.out).at_ 3
        clear hC hE cl hM B4 N4
        go_wp2_with fail
        go_ret2
        rw [hr]
        exact ⟨_, tb, rfl, rfl, rfl, .inl ⟨rfl, rfl⟩, E2.out⟩
      · have E2 := Lib.hid hE
        clear hE cl B4 N4
        go_wp2_with fail
        go_ret2
        rw [hr]
        exact ⟨_, false, rfl, rfl, rfl, .inr (.inl ⟨rfl, rfl⟩), E2.out⟩
    · have E2 := Lib.hid hE
      clear hE C3 B3 N3 hW3'
      go_wp2_with fail
      go_ret2
      rw [hr]
      exact ⟨_, false, rfl, rfl, rfl, .inr (.inl ⟨rfl, rfl⟩), E2.out⟩
  · dsimp only at hC
    rw [if_neg (by simp [hch])] at hC
    obtain ⟨hr, hE⟩ := hC.ended
    have E2 := Lib.hid hE
    clear hC hE
    dsimp only
    go_wp2_with fail
    go_ret2
    rw [hr]
    exact ⟨_, false, rfl, rfl, rfl, .inr (.inr ⟨.inl rfl, _, rfl⟩), E2.out.stay ((Keeps.refl _ _).alloc _)⟩
  · have E2 := Lib.hid hE
    clear hE
    dsimp only
    go_wp2_with fail
    go_ret2
    rw [hr]
    exact ⟨_, false, rfl, rfl, rfl, .inr (.inl ⟨rfl, rfl⟩), E2.out.stay ((Keeps.refl _ _).alloc _)⟩
end
end Go.Proofs.YtenhmficiegpiaaGreatDoor

namespace Go.Proofs.YtenhmficiegpiaaGreatDoor
open Go.RowKit Go.Extern.Stop Go.Stop Go.Extern

/-! ### Metas are compared -/
theorem meta_fields : Tryz.prog.underlying 113 = some (.struct (Tryz.prog.fieldsOf 113)) := by kernel_rfl
theorem meta_held : Tryz.prog.stoodInHeld 113 = false := by kernel_rfl
theorem meta_guard : Tryz.prog.eqGuardType Tryz.prog.depth 113 = false := by kernel_rfl
theorem meta_list : ((Tryz.prog.fieldsOf 113).toList.map fun f => (f.type, f.offset, f.name == "_")) = [(3, 0, false), (3, 1, false), (4, 2, false), (4, 3, false)] := by kernel_rfl

theorem eqIn_meta (w : World) (v o v' o' : Int) (c t c' t' : Bool) (d : Bool) (hd : (v == v' && (o == o' && (c == c' && t == t'))) = d) : (Op.equalIn 10000 113 (.agg #[.int .i64 v, .int .i64 o, .bool c, .bool t]) (.agg #[.int .i64 v', .int .i64 o', .bool c', .bool t'])).run Tryz.prog w = .ok d w := by
  rw [run_equalIn_agg w 9999 _ _ _ meta_fields meta_held]
  have h := meta_list
  generalize (Tryz.prog.fieldsOf 113).toList = fs at h ⊢
  obtain ⟨f0, f1, f2, f3, rfl⟩ : ∃ a b c d, fs = [a, b, c, d] := by
    have hl := congrArg List.length h
    rw [List.length_map] at hl
    match fs, hl with
    | [a, b, c, d], _ => exact ⟨a, b, c, d, rfl⟩
    | [], hl => simp at hl
    | [_], hl => simp at hl
    | [_, _], hl => simp at hl
    | [_, _, _], hl => simp at hl
    | _ :: _ :: _ :: _ :: _ :: _, hl => simp at hl
  simp only [List.map_cons, List.map_nil, List.cons.injEq, Prod.mk.injEq, and_true] at h
  obtain ⟨⟨a1, a2, a3⟩, ⟨b1, b2, b3⟩, ⟨c1, c2, c3⟩, d1, d2, d3⟩ := h
  have uI := Tryz.underlying3
  have uB := Tryz.underlying4
  subst hd
  by_cases e1 : v = v'
  · by_cases e2 : o = o'
    · cases c <;> cases c' <;> cases t <;> cases t' <;> simp [Op.eqFields, a1, a2, b1, b2, c1, c2, d1, d2, beq_eq_false_iff_ne.1 a3, beq_eq_false_iff_ne.1 b3, beq_eq_false_iff_ne.1 c3, beq_eq_false_iff_ne.1 d3, part, go_sem, e1, e2]
    · cases c <;> cases c' <;> cases t <;> cases t' <;> simp [Op.eqFields, a1, a2, b1, b2, c1, c2, d1, d2, beq_eq_false_iff_ne.1 a3, beq_eq_false_iff_ne.1 b3, beq_eq_false_iff_ne.1 c3, beq_eq_false_iff_ne.1 d3, part, go_sem, e1, e2]
  · cases c <;> cases c' <;> cases t <;> cases t' <;> simp [Op.eqFields, a1, a2, b1, b2, c1, c2, d1, d2, beq_eq_false_iff_ne.1 a3, beq_eq_false_iff_ne.1 b3, beq_eq_false_iff_ne.1 c3, beq_eq_false_iff_ne.1 d3, part, go_sem, e1]

/-- A function that turns Metas, as g says; it reads the block p alone. -/
structure Turns (F : Nat) (caps : Array Value) (ver : Nat) (g : Nat → Option Nat) (D : World → Prop) (p : Nat) : Prop where
  enters : ∀ (args : Array Value) (w : World), (callFunc F args).run Tryz.prog w = .ok (.enter F args) w
  keeps : ∀ {w w' : World} {S : Nat → Prop}, D w → p < w.heap.size → Keeps S w w' → ¬ S p → D w'
  does : ∀ (W : Nat) (w : World), W < 18446744073709551616 → chg W = false → verN W = ver → D w → ∃ (o' : Nat) (c' t' : Bool), o' ≤ 255 ∧
    (Calls Tryz.prog F (#[.agg #[.int .i64 (ver : Int), .int .i64 (ownN W : Int), .bool false, .bool (wai W)]] ++ caps) w fun e w' => e = .returned (.agg #[.int .i64 (ver : Int), .int .i64 (o' : Int), .bool c', .bool t']) ∧ Keeps (fun _ => False) w w') ∧
    ((o' = ownN W ∧ c' = false ∧ t' = wai W ∧ g W = none) ∨ ((c' = true ∨ t' = !wai W) ∧ g W = some (packN ver o' c' t')))

/-- What holds at turn's label. -/
def TurnJ (w : World) (c t b a pl : Nat) (bv : Value) (rd st : Int) (ev : Value) (Z : Nat → Prop) (R0 : Option Ans × Rn) (cs : ByteArray) (k ver F : Nat) (caps : Array Value) (g : Nat → Option Nat) (D : World → Prop) (p : Nat) (a' : Act) (w' : World) : Prop :=
  ∃ (j : Nat) (s : Rn) (Z' : Nat → Prop) (jv x12 x13 x14 x15 x16 x17 x18 x19 x20 x21 x22 x23 x24 x25 x26 x27 x28 x29 x30 x31 x32 x33 x34 x35 x36 x37 x38 x39 x40 x41 x42 x43 x44 x45 x46 x47 x48 x49 x50 x51 x52 x53 x54 x55 x56 x57 x58 x59 x60 x61 x62 x63 x64 x65 x66 x67 x68 x69 x70 x71 x72 x73 x74 x75 x76 x77 x78 : Value), a' = { tmps := #[.pointer (some ⟨c, 0, none⟩), .string cs, .int .u64 (k : Int), .int .i64 (ver : Int), .func (.func F) #[] caps, undef, undef, undef, undef, undef, .nilIface, jv, x12, x13, x14, x15, x16, x17, x18, x19, x20, x21, x22, x23, x24, x25, x26, x27, x28, x29, x30, x31, x32, x33, x34, x35, x36, x37, x38, x39, x40, x41, x42, x43, x44, x45, x46, x47, x48, x49, x50, x51, x52, x53, x54, x55, x56, x57, x58, x59, x60, x61, x62, x63, x64, x65, x66, x67, x68, x69, x70, x71, x72, x73, x74, x75, x76, x77, x78], defers := [] } ∧ jv = .int .i64 (j : Int) ∧ j ≤ 8 ∧ Cont w w' c t b a pl bv rd st ev Z R0 (turnT k ver g (8 - j)) s Z' ∧ D w' ∧ ¬ Z' p ∧ p < w'.heap.size

set_option maxRecDepth 100000 in
set_option maxHeartbeats 4000000 in
theorem turn_any {w : World} {c t b a pl : Nat} {bv : Value} {rd st : Int} {ev : Value} {s : Rn} {Z Z0 : Nat → Prop} {R0 : Option Ans × Rn} {wr : World} (cs : ByteArray) (k ver F : Nat) (caps : Array Value) (g : Nat → Option Nat) (D : World → Prop) (p : Nat) (hT : Turns F caps ver g D p) (hver : ver ≤ 281474976710655) (h : Cont w wr c t b a pl bv rd st ev Z R0 (turnT k ver g 8) s Z0) (hD : D wr) (hp : ¬ Z0 p) (hpl : p < wr.heap.size) :
    Calls Tryz.prog 70 #[.pointer (some ⟨c, 0, none⟩), .string cs, .int .u64 (k : Int), .int .i64 (ver : Int), .func (.func F) #[] caps] wr fun e w' => ∃ v, e = .returned v ∧ EV v (ansOf R0.1).err ∧ Ended w c t b a pl bv rd st ev Z R0 w' := by
  have C0 := Lib.hid h
  have D0 := Lib.hid hD
  have P0 := Lib.hid hp
  have L0 := Lib.hid hpl
  have hent := hT.enters
  have hguard := meta_guard
  clear h hD hp hpl
  go_enter Tryz.func70, Tryz.ntmps70
  go_wp2
  refine wp_scope_label 0 (TurnJ w c t b a pl bv rd st ev Z R0 cs k ver F caps g D p) (fun a' _ => 8 - (intOf (a'.tmps.getD 11 undef)).toNat) rfl ?pass ?first
  case first =>
    intro hj
    go_wp2
    go_step3
    rename_i hK
    refine hK _ _ (hj _ _ ?_)
    exact ⟨0, s, Z0, _, _, _, _, _, _, _, _, _, _, _, _, _, _, _, _, _, _, _, _, _, _, _, _, _, _, _, _, _, _, _, _, _, _, _, _, _, _, _, _, _, _, _, _, _, _, _, _, _, _, _, _, _, _, _, _, _, _, _, _, _, _, _, _, _, _, _, _, rfl, rfl, by omega, C0.out, D0.out, P0.out, L0.out⟩
  case pass =>
    rintro a' wr ⟨j, s', Z', _, x12, x13, x14, x15, x16, x17, x18, x19, x20, x21, x22, x23, x24, x25, x26, x27, x28, x29, x30, x31, x32, x33, x34, x35, x36, x37, x38, x39, x40, x41, x42, x43, x44, x45, x46, x47, x48, x49, x50, x51, x52, x53, x54, x55, x56, x57, x58, x59, x60, x61, x62, x63, x64, x65, x66, x67, x68, x69, x70, x71, x72, x73, x74, x75, x76, x77, x78, rfl, rfl, hj, hC, hD, hp, hpl⟩
    clear C0 D0 P0 L0
    have C1 := Lib.hid hC
    have D1 := Lib.hid hD
    have P1 := Lib.hid hp
    have L1 := Lib.hid hpl
    clear hC hD hp hpl
    by_cases h8 : j = 8
    · subst h8
      go_wp2_with fail
      simp only [Exit.jump]
      have hE := C1.out.ended
      go_ret
      rw [hE.1]
      exact ⟨_, rfl, .inr (.inr ⟨.inr rfl, _, rfl⟩), hE.2.stay (Keeps.refl _ _)⟩
    · obtain ⟨n, hn⟩ : ∃ n, 8 - j = n + 1 := ⟨7 - j, by omega⟩
      have hjb : ¬ ((j : Int) = 8) := by omega
      have hj8 : (j : Int) ≤ 8 := by omega
      rw [hn] at C1
      have hn' := Lib.hid hn
      clear hn
      have cl := Lib.hid (ctx_load C1.out.run C1.out.cap.few.1 C1.out.cap.few.2 k 0 C1.out.small)
      have hwd := Lib.hid (ask_word C1.out.run.ok C1.out.small)
      go_wp2_with fail
      refine cl.out.mono ?_
      rintro e W2 ⟨v, rfl, hA⟩
      have hN := C1.out.next (Keeps.refl _ _) hA
      clear hA cl
      rcases hN with ⟨rfl, Z2, hC, hM⟩ | ⟨rfl, hr, hE⟩
      · have C2 := Lib.hid hC
        have D2 := Lib.hid (hT.keeps D1.out L1.out hM.keeps P1.out)
        have P2 := Lib.hid (hM.apart L1.out P1.out)
        have L2 := Lib.hid (Nat.lt_of_lt_of_le L1.out hM.keeps.size)
        have hx := hwd.out
        clear hC C1 hwd hM D1 P1 L1
        generalize (ask s' (.load k 0)).1 = e1 at C2 hx ⊢
        generalize (ask s' (.load k 0)).2 = s2 at C2 ⊢
        obtain ⟨x, hx'⟩ : ∃ x, e1.word = x := ⟨_, rfl⟩
        rw [hx'] at C2 hx ⊢
        clear hx'
        have un := Lib.hid (bt_unpack x _ _ _ _ (meta_of hx) W2)
        have hvx := verN_le hx
        by_cases hst : chg x = true ∨ verN x ≠ ver
        · rw [if_pos hst] at C2
          obtain ⟨hr, hE⟩ := C2.out.ended
          have E2 := Lib.hid hE
          clear C2 hE
          generalize hvv : verN x = vv at un hst hvx
          generalize chg x = cw at un hst
          clear hvv
          have hne : cw = false → ¬ (vv : Int) = (ver : Int) := by
            intro h
            rcases hst with h' | h'
            · rw [h] at h'
              cases h'
            · omega
          clear hst
          cases cw
          · have hne' := hne rfl
            clear hne
            go_wp2_with fail
            refine un.out.mono ?_
            rintro e W3 ⟨rfl, hK⟩
            have K3 := Lib.hid hK
            clear hK un
            go_wp2_with fail
            simp only [Exit.jump]
            go_ret
            rw [hr]
            exact ⟨_, rfl, .inr (.inr ⟨.inr rfl, _, rfl⟩), E2.out.stay (K3.out.alloc _)⟩
          · clear hne
            go_wp2_with fail
            refine un.out.mono ?_
            rintro e W3 ⟨rfl, hK⟩
            have K3 := Lib.hid hK
            clear hK un
            go_wp2_with fail
            simp only [Exit.jump]
            go_ret
            rw [hr]
            exact ⟨_, rfl, .inr (.inr ⟨.inr rfl, _, rfl⟩), E2.out.stay (K3.out.alloc _)⟩
        · rw [if_neg hst] at C2
          have hch : chg x = false := by
            cases h : chg x
            · rfl
            · exact absurd (.inl h) hst
          have hve : verN x = ver := by
            by_cases h : verN x = ver
            · exact h
            · exact absurd (.inr h) hst
          rw [hch, hve] at un
          clear hst hvx
          go_wp2_with fail
          refine un.out.mono ?_
          rintro e W3 ⟨rfl, hK⟩
          clear un
          obtain ⟨W4, hW4⟩ : ∃ V, V = W3.alloc (.cells #[.int .i64 (ver : Int), .int .i64 (ownN x : Int), .bool false, .bool (wai x)] 113) := ⟨_, rfl⟩
          have kk : Keeps (fun _ => False) W2 W4 := by rw [hW4]; exact hK.alloc _
          have mB : Whole W4 W3.heap.size 113 #[.int .i64 (ver : Int), .int .i64 (ownN x : Int), .bool false, .bool (wai x)] := by rw [hW4]; exact Whole.made _ _ _
          obtain ⟨o', c', t', ho', cf, hcase⟩ := hT.does x W4 hx hch hve (hT.keeps D2.out L2.out kk id)
          have C4 := Lib.hid (C2.out.stay kk)
          have D4 := Lib.hid (hT.keeps D2.out L2.out kk id)
          have L4 := Lib.hid (Nat.lt_of_lt_of_le L2.out kk.size)
          have B4 := Lib.hid mB
          have hW4' := Lib.hid hW4
          have cf' := Lib.hid cf
          clear hK kk mB hW4 cf C2 D2 L2 hch hve
          go_wp2_with fail
          rw [← hW4'.out]
          refine cf'.out.mono ?_
          rintro e W5 ⟨rfl, hK⟩
          obtain ⟨W6, hW6⟩ : ∃ V, V = W5.alloc (.cells #[.int .i64 (ver : Int), .int .i64 (o' : Int), .bool c', .bool t'] 113) := ⟨_, rfl⟩
          have kk : Keeps (fun _ => False) W4 W6 := by rw [hW6]; exact hK.alloc _
          have mD : Whole W6 W5.heap.size 113 #[.int .i64 (ver : Int), .int .i64 (o' : Int), .bool c', .bool t'] := by rw [hW6]; exact Whole.made _ _ _
          have B5 := B4.out.keeps hK id
          have B6 := B4.out.keeps kk id
          have lt5 : W3.heap.size < W5.heap.size := B5.lt
          obtain ⟨b0, b1, b2, b3⟩ := four_cells B5
          have C6 := Lib.hid (C4.out.stay kk)
          have D6 := Lib.hid (hT.keeps D4.out L4.out kk id)
          have L6 := Lib.hid (Nat.lt_of_lt_of_le L4.out kk.size)
          have hW6' := Lib.hid hW6
          clear hK kk hW6 cf' C4 D4 L4 B4 mD B5 B6
          rcases hcase with ⟨rfl, rfl, rfl, hg⟩ | ⟨hne, hg⟩
          · rw [hg] at C6
            obtain ⟨hr, hE⟩ := C6.out.ended
            have E6 := Lib.hid hE
            have heq := fun w => eqIn_meta w (ver : Int) (ownN x : Int) (ver : Int) (ownN x : Int) false (wai x) false (wai x) true (by simp)
            clear C6 hE
            go_wp2_with fail
            simp only [Exit.jump]
            go_ret
            rw [hr, ← hW6'.out]
            exact ⟨_, rfl, .inl ⟨rfl, rfl⟩, E6.out⟩
          · rw [hg] at C6
            have heq := fun w => eqIn_meta w (ver : Int) (o' : Int) (ver : Int) (ownN x : Int) c' t' false (wai x) false (by rcases hne with rfl | rfl <;> simp)
            have cp := Lib.hid (pack_ok ver o' c' t' hver ho' W6)
            clear hne
            go_wp2_with fail
            rw [← hW6'.out]
            refine cp.out.mono ?_
            rintro e W7 ⟨rfl, hK⟩
            have C7 := Lib.hid (C6.out.stay hK)
            have D7 := Lib.hid (hT.keeps D6.out L6.out hK id)
            have L7 := Lib.hid (Nat.lt_of_lt_of_le L6.out hK.size)
            clear hK cp C6 D6 L6 heq b0 b1 b2 b3
            have cl := Lib.hid (ctx_cas C7.out.run C7.out.cap.few.1 C7.out.cap.few.2 k 0 x (packN ver o' c' t') C7.out.small)
            go_wp2_with fail
            refine cl.out.mono ?_
            rintro e W8 ⟨v, rfl, hA⟩
            have hN := C7.out.next (Keeps.refl _ _) hA
            clear hA cl
            rcases hN with ⟨rfl, Z3, hC, hM⟩ | ⟨rfl, hr, hE⟩
            · have C8 := Lib.hid hC
              have D8 := Lib.hid (hT.keeps D7.out L7.out hM.keeps P2.out)
              have P8 := Lib.hid (hM.apart L7.out P2.out)
              have L8 := Lib.hid (Nat.lt_of_lt_of_le L7.out hM.keeps.size)
              clear hC C7 hM D7 L7
              generalize (ask s2 (.cas k 0 x (packN ver o' c' t'))).1 = f1 at C8 ⊢
              generalize (ask s2 (.cas k 0 x (packN ver o' c' t'))).2 = s3 at C8 ⊢
              cases hd : f1.done with
              | true =>
                rw [hd] at C8
                obtain ⟨hr, hE⟩ := C8.out.ended
                have E3 := Lib.hid hE
                clear hE C8
                go_wp2_with fail
                simp only [Exit.jump]
                go_ret
                rw [hr]
                exact ⟨_, rfl, .inl ⟨rfl, rfl⟩, E3.out⟩
              | false =>
                rw [hd] at C8
                go_wp2_with fail
                go_step3
                refine ⟨rfl, ⟨j + 1, s3, Z3, _, _, _, _, _, _, _, _, _, _, _, _, _, _, _, _, _, _, _, _, _, _, _, _, _, _, _, _, _, _, _, _, _, _, _, _, _, _, _, _, _, _, _, _, _, _, _, _, _, _, _, _, _, _, _, _, _, _, _, _, _, _, _, _, _, _, _, _, rfl, by go_num, by omega, ?_, D8.out, P8.out, L8.out⟩, ?_⟩
                · rw [show 8 - (j + 1) = n by have := hn'.out; omega]
                  exact C8.out
                · simp [intOf]; omega
            · have E3 := Lib.hid hE
              clear hE
              go_wp2_with fail
              simp only [Exit.jump]
              go_ret
              rw [hr]
              exact ⟨_, rfl, .inr (.inl ⟨rfl, rfl⟩), E3.out⟩
      · have E2 := Lib.hid hE
        clear hE
        go_wp2_with fail
        simp only [Exit.jump]
        go_ret
        rw [hr]
        exact ⟨_, rfl, .inr (.inl ⟨rfl, rfl⟩), E2.out⟩
end Go.Proofs.YtenhmficiegpiaaGreatDoor

namespace Go.Proofs.YtenhmficiegpiaaGreatDoor
open Go.RowKit Go.Extern.Stop Go.Stop Go.Extern

theorem makes_func1 (fn : Fn) (first cap : Array Value) (w : World) : (Instr.makeFunc fn first cap).run Tryz.prog w = .ok (.func fn first cap) w := rfl

set_option maxRecDepth 100000 in
set_option maxHeartbeats 1000000 in
theorem lock1_any (p : Nat) (ver o own : Int) (t : Bool) (w : World) (h : w.cell? ⟨p, 0, none⟩ = some (.int .i64 own)) :
    Calls Tryz.prog 71 (#[.agg #[.int .i64 ver, .int .i64 o, .bool false, .bool t]] ++ #[.pointer (some ⟨p, 0, none⟩)]) w fun e w' => e = .returned (.agg #[.int .i64 ver, .int .i64 own, .bool true, .bool t]) ∧ Keeps (fun _ => False) w w' := by
  have hp := cell_lt h
  go_enter Tryz.func71, Tryz.ntmps71
  go_wp2
  refine bodyPost_ret (v := .agg #[.int .i64 ver, .int .i64 own, .bool true, .bool t]) (by simp [results, Tryz.results71, go_sem]) rfl ?_
  exact ⟨rfl, ((Keeps.refl _ w).alloc _).alloc _⟩

set_option maxRecDepth 100000 in
set_option maxHeartbeats 1000000 in
theorem await1_any (ver o : Int) (t : Bool) (w : World) :
    Calls Tryz.prog 74 (#[.agg #[.int .i64 ver, .int .i64 o, .bool false, .bool t]] ++ #[]) w fun e w' => e = .returned (.agg #[.int .i64 ver, .int .i64 o, .bool false, .bool true]) ∧ Keeps (fun _ => False) w w' := by
  go_enter Tryz.func74, Tryz.ntmps74
  go_wp2
  refine bodyPost_ret (v := .agg #[.int .i64 ver, .int .i64 o, .bool false, .bool true]) (by simp [results, Tryz.results74, go_sem]) rfl ?_
  exact ⟨rfl, ((Keeps.refl _ w).alloc _).alloc _⟩

theorem lock_turns (p ver own : Nat) (hown : own ≤ 255) : Turns 71 #[.pointer (some ⟨p, 0, none⟩)] ver (lockG own) (fun w => w.cell? ⟨p, 0, none⟩ = some (.int .i64 (own : Int))) p where
  enters := Go.Proofs.enters_of Tryz.func71 (by kernel_rfl) rfl
  keeps := fun h hl k hS => (k.cell (p := ⟨p, 0, none⟩) hl hS).trans h
  does := fun W w hW hc hv hD => ⟨own, true, wai W, hown, lock1_any p ver (ownN W) own (wai W) w hD, .inr ⟨.inl rfl, by unfold lockG; rw [hv]⟩⟩

theorem await_turns (p ver : Nat) : Turns 74 #[] ver awaitG (fun _ => True) p where
  enters := Go.Proofs.enters_of Tryz.func74 (by kernel_rfl) rfl
  keeps := fun _ _ _ _ => trivial
  does := fun W w hW hc hv _ => ⟨ownN W, false, true, ownN_le W, await1_any ver (ownN W) (wai W) w, by
    cases ht : wai W with
    | true => exact .inl ⟨rfl, rfl, rfl, by unfold awaitG; rw [ht]; rfl⟩
    | false => exact .inr ⟨.inr rfl, by unfold awaitG; rw [ht, hv]; rfl⟩⟩

section
variable {w wr : World} {c t b a pl : Nat} {bv : Value} {rd st : Int} {ev : Value} {Z Z' : Nat → Prop} {R0 : Option Ans × Rn} {s : Rn}

theorem lock_any (k ver own : Nat) (hver : ver ≤ 281474976710655) (hown : own ≤ 255) (h : Cont w wr c t b a pl bv rd st ev Z R0 (lockT k ver own) s Z') :
    Calls Tryz.prog 50 #[.pointer (some ⟨c, 0, none⟩), .int .u64 (k : Int), .int .i64 (ver : Int), .int .i64 (own : Int)] wr fun e w' => ∃ v, e = .returned v ∧ EV v (ansOf R0.1).err ∧ Ended w c t b a pl bv rd st ev Z R0 w' := by
  have hmf := makes_func1
  obtain ⟨W1, hW1⟩ : ∃ W, W = wr.alloc (.cells #[.int .i64 (own : Int)] 3) := ⟨_, rfl⟩
  have k1 : Keeps (fun _ => False) wr W1 := by rw [hW1]; exact (Keeps.refl _ wr).alloc _
  have mB : Whole W1 wr.heap.size 3 #[.int .i64 (own : Int)] := by rw [hW1]; exact Whole.made _ _ _
  have cl := Lib.hid (turn_any ⟨#[76, 111, 99, 107]⟩ k ver _ _ _ _ wr.heap.size (lock_turns wr.heap.size ver own hown) hver (h.stay k1) (mB.at_ 0) (fun hz => Nat.lt_irrefl _ (h.run.old _ hz)) mB.lt)
  have hW1' := Lib.hid hW1
  clear h k1 mB hW1
  go_enter Tryz.func50, Tryz.ntmps50
  go_wp2_with fail
  rw [← hW1'.out]
  refine cl.out.mono ?_
  rintro e W2 ⟨v, rfl, hv, hE⟩
  have E2 := Lib.hid hE
  have hvf : v = .nilIface ∨ ∃ ty x, v = .iface ty x := by
    rcases hv with ⟨_, rfl⟩ | ⟨_, rfl⟩ | ⟨_, s, rfl⟩
    · exact .inl rfl
    · exact .inr ⟨_, _, rfl⟩
    · exact .inr ⟨_, _, rfl⟩
  have V2 := Lib.hid hv
  clear hE hv cl
  rcases hvf with rfl | ⟨ty, x, rfl⟩
  all_goals
    go_wp2_with fail
    go_ret
    exact ⟨_, rfl, V2.out, E2.out⟩

theorem await_any (k ver : Nat) (hver : ver ≤ 281474976710655) (h : Cont w wr c t b a pl bv rd st ev Z R0 (awaitT k ver) s Z') :
    Calls Tryz.prog 53 #[.pointer (some ⟨c, 0, none⟩), .int .u64 (k : Int), .int .i64 (ver : Int)] wr fun e w' => ∃ v, e = .returned v ∧ EV v (ansOf R0.1).err ∧ Ended w c t b a pl bv rd st ev Z R0 w' := by
  have gz : ¬ Z' etB := by obtain ⟨_, _, hr⟩ := h.run; exact hr.gz
  have cl := Lib.hid (turn_any ⟨#[65, 119, 97, 105, 116]⟩ k ver _ _ _ _ etB (await_turns etB ver) hver h trivial gz h.run.gl)
  clear h gz
  go_enter Tryz.func53, Tryz.ntmps53
  go_wp2_with fail
  refine cl.out.mono ?_
  rintro e W2 ⟨v, rfl, hv, hE⟩
  have E2 := Lib.hid hE
  have hvf : v = .nilIface ∨ ∃ ty x, v = .iface ty x := by
    rcases hv with ⟨_, rfl⟩ | ⟨_, rfl⟩ | ⟨_, s, rfl⟩
    · exact .inl rfl
    · exact .inr ⟨_, _, rfl⟩
    · exact .inr ⟨_, _, rfl⟩
  have V2 := Lib.hid hv
  clear hE hv cl
  rcases hvf with rfl | ⟨ty, x, rfl⟩
  all_goals
    go_wp2_with fail
    go_ret
    exact ⟨_, rfl, V2.out, E2.out⟩
end
end Go.Proofs.YtenhmficiegpiaaGreatDoor
