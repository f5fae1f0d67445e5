/-
  concordlaw08.Play by contract, with what its state's sets hold (a copy of MoPlay's play_yes8 with that besides; printed from it).
  concordlaw11.Both by contract, for any program's states that keep 'Face'.
-/
import Derived.Test.YthidipigpfcbbaaGreatDoorMoPlay
import Derived.Test.YthidipigpfcbbaaGreatDoorEvRight

namespace Go.Proofs.YthidipigpfcbbaaGreatDoor
open Go.RowKit Go.Maps Go.Extern.Stop Go.Stop Go.Extern

theorem mDo_ones {A : M8} (h : Ones A) (a : Act8) : Ones (mDo A a) := by
  unfold mDo
  split
  · exact mPut_ones h _ _ _
  · split
    · exact mDel_ones h _ _
    · exact h
/-- What Play answers. -/
def PlayTo11 (PM : PMem) (w : World) (K : List Int) (e : Ending) (w' : World) : Prop := ∃ s A, e = .returned (.pointer (some ⟨s, 0, none⟩)) ∧ On8 PM w w' s A ∧ A.K = K ∧ A.L.length = K.length ∧ Keyed A ∧ Ones A

set_option maxRecDepth 100000 in
set_option maxHeartbeats 2000000 in
theorem play_yes11 {PM : PMem} (F : Face PM) {w : World} {a0 : Option Addr} {len0 cap0 : Nat} {K : List Int} {a1 : Option Addr} {len1 cap1 : Nat} {L : List Act8} (hK : IntL w a0 len0 K) (hL : Act8L w a1 len1 cap1 L) (h0 : len0 ≤ 20) (h1 : len1 ≤ 60) (hm : (mNew K).1 = true) (hg : Glob w) :
    Calls Tryz.prog 17 #[.slice a0 len0 cap0, .slice a1 len1 cap1] w fun e w' => PlayTo11 PM w K e w' := by
  have b0 : ¬ (20 : Int) < (len0 : Int) := by omega
  have b1 : ¬ (60 : Int) < (len1 : Int) := by omega
  have CN := Lib.hid (new_on8 (cap := cap0) F hK hm (Keeps.refl _ w))
  have CR := Lib.hid (fun V (k : Keeps (fun _ => False) w V) => rnew8 (cap := cap0) (hK.same k))
  have HM := Lib.hid hm
  have LL := Lib.hid hL
  have HG := Lib.hid hg
  clear hK hm hL hg h0
  go_enter Tryz.func17, Tryz.ntmps17
  go_wp2_with fail
  refine CN.out.mono ?_
  rintro e w1 ⟨s, rfl, hO⟩
  have O1 := Lib.hid hO
  clear hO
  go_wp2_with fail
  refine (CR.out _ O1.out.keeps).mono ?_
  rintro e w2 hR
  obtain ⟨r, rfl, hB⟩ := O1.out.both8 F HM.out hR
  have B1 := Lib.hid hB
  clear hB hR
  go_wp2_with (first
    | (go_at_call 11; refine (no_nil _).mono ?_; rintro e w' ⟨rfl, rfl⟩))
  go_loopw [40] (fun iv wr => ∃ (i : Nat) (A : M8), iv = .int .i64 i ∧ i ≤ len1 ∧ Both8 PM w wr s r A ∧ A.K = K ∧ A.L.length = K.length ∧ Keyed A ∧ Ones A) (fun iv _ => len1 - (intOf iv).toNat)
  case atStart => exact ⟨0, _, rfl, Nat.zero_le _, B1.out, rfl, by simp [M8.made], made_keyed K, made_ones K⟩
  case round =>
    obtain ⟨i, A, rfl, hi, hB, hAK, hAL, hAW⟩ := hrel
    have AK := Lib.hid (And.intro hAK (And.intro hAL hAW))
    clear hAK hAL hAW
    by_cases hlt : i < len1
    · have b2 : (i : Int) < (len1 : Int) := by omega
      obtain ⟨b, o, rfl, hc⟩ := LL.out.at_ (by omega)
      obtain ⟨x, hx⟩ : ∃ x, L[i]? = some x := ⟨_, List.getElem?_eq_getElem (by rw [LL.out.len]; exact hlt)⟩
      obtain ⟨q0, q1, q2, q3⟩ := hc i x hx
      have K := hB.keeps
      have d0 := (K.cell (cell_lt q0) id).trans q0
      have d1 := (K.cell (cell_lt q1) id).trans q1
      have d2 := (K.cell (cell_lt q2) id).trans q2
      have d3 := (K.cell (cell_lt q3) id).trans q3
      have C1 := Lib.hid (do_both8 F (hB.same F ((Keeps.refl (fun _ => False) wr).alloc (.cells #[.int .i64 x.k, .int .i64 x.c, .int .i64 x.key, .int .i64 x.v] 88))) HG.out x (LL.out.wf x (List.mem_of_getElem? hx)))
      have DK := Lib.hid (And.intro ((mDo_K A x).1.trans AK.out.1) (And.intro ((mDo_K A x).2.trans AK.out.2.1) (And.intro (mDo_keyed AK.out.2.2.1 x (LL.out.wf x (List.mem_of_getElem? hx))) (mDo_ones AK.out.2.2.2 x))))
      clear K q0 q1 q2 q3 hc hB hx
      obtain ⟨xk, xc, xkey, xv⟩ := x
      simp only at d0 d1 d2 d3
      go_wp2_with fail
      refine C1.out.mono ?_
      rintro e w3 ⟨rfl, h2⟩
      have B2 := Lib.hid h2
      clear h2
      go_wp2_with fail
      go_roundw
      case rel => exact ⟨i + 1, _, by go_num, by omega, B2.out, DK.out.1, DK.out.2.1, DK.out.2.2.1, DK.out.2.2.2⟩
      case measure => simp [intOf]; omega
    · obtain rfl : i = len1 := by omega
      have b2 : ¬ (i : Int) < (i : Int) := by omega
      have O := Lib.hid hB.on
      clear hB
      go_wp2_with fail
      go_ret
      exact ⟨s, A, rfl, O.out, AK.out.1, AK.out.2.1, AK.out.2.2.1, AK.out.2.2.2⟩
end Go.Proofs.YthidipigpfcbbaaGreatDoor

namespace Go.Proofs.YthidipigpfcbbaaGreatDoor
open Go.RowKit Go.Maps Go.Extern.Stop Go.Stop Go.Extern

/-- The program's state in A, the document's in B, both made since w0; Z: blocks that the document's state does not have. -/
def TwoS (PM : PMem) (w0 w : World) (s r : Nat) (A B : M8) (Z : Nat → Prop) : Prop := ∃ X Y, PM w s A X ∧ RM w r B Y ∧ (∀ x, X x → ¬ Y x) ∧ (∀ x, Z x → x < w.heap.size ∧ ¬ Y x) ∧ (∀ x, X x ∨ Y x → w0.heap.size ≤ x) ∧ Keeps (fun _ => False) w0 w
section
variable {PM : PMem} {w0 w w' : World} {s r : Nat} {A B B' : M8} {Z : Nat → Prop}
theorem TwoS.same (F : Face PM) (h : TwoS PM w0 w s r A B Z) (k : Keeps (fun _ => False) w w') : TwoS PM w0 w' s r A B Z := by
  obtain ⟨X, Y, h1, h2, h3, h4, h5, h6⟩ := h
  exact ⟨X, Y, F.same h1 k, h2.same k, h3, fun x hx => ⟨Nat.lt_of_lt_of_le (h4 x hx).1 k.size, (h4 x hx).2⟩, h5, h6.trans k fun _ _ => id⟩
theorem TwoS.on (h : TwoS PM w0 w s r A B Z) : On8 PM w0 w s A := by
  obtain ⟨X, Y, h1, h2, h3, h4, h5, h6⟩ := h
  exact ⟨X, h1, fun x hx => h5 x (.inl hx), h6⟩
theorem TwoS.free (h : TwoS PM w0 w s r A B Z) : TwoS PM w0 w s r A B (fun _ => False) := by
  obtain ⟨X, Y, h1, h2, h3, h4, h5, h6⟩ := h
  exact ⟨X, Y, h1, h2, h3, fun _ => False.elim, h5, h6⟩
theorem TwoS.both (h : TwoS PM w0 w s r A A Z) : Both8 PM w0 w s r A := by
  obtain ⟨X, Y, h1, h2, h3, h4, h5, h6⟩ := h
  exact ⟨X, Y, h1, h2, h3, h5, h6⟩
/-- A block that is new is none of the document's state. -/
theorem TwoS.fresh (F : Face PM) (h : TwoS PM w0 w s r A B (fun _ => False)) (k : Keeps (fun _ => False) w w') (hZ : ∀ x, Z x → w.heap.size ≤ x ∧ x < w'.heap.size) : TwoS PM w0 w' s r A B Z := by
  obtain ⟨X, Y, h1, h2, h3, h4, h5, h6⟩ := h
  exact ⟨X, Y, F.same h1 k, h2.same k, h3, fun x hx => ⟨(hZ x hx).2, fun hy => by have := h2.old x hy; have := (hZ x hx).1; omega⟩, h5, h6.trans k fun _ _ => id⟩
theorem two_new (F : Face PM) {w1 : World} {K : List Int} {e : Ending} (h : On8 PM w0 w1 s A) (hk : (mNew K).1 = true) (hr : RNew w1 K e w') : ∃ r, e = .returned (.tuple #[.pointer (some ⟨r, 0, none⟩), .int .i64 0, .int .i64 0]) ∧ TwoS PM w0 w' s r A (M8.made K) (fun _ => False) := by
  obtain ⟨X, h1, h2, h3⟩ := h
  rcases hr with ⟨h, _⟩ | ⟨_, r, Y, e1, e2, e3, e4⟩
  · rw [hk] at h; cases h
  · refine ⟨r, e1, X, Y, F.same h1 e4, e2, fun x hx hy => by have := F.old h1 x hx; have := e3 x hy; omega, fun _ => False.elim, fun x hx => ?_, h3.trans e4 fun _ _ => id⟩
    rcases hx with hx | hx
    · exact h2 x hx
    · exact Nat.le_trans h3.size (e3 x hx)
theorem two_put (F : Face PM) (h : TwoS PM w0 w s r A B Z) (hok : B.Ok) (c key v : Int) (e : mPut B c key v = (B', 0)) :
    Calls Tryz.prog 20 #[.pointer (some ⟨r, 0, none⟩), .int .i64 c, .int .i64 key, .int .i64 v] w fun e w' => e = .returned (.int .i64 0) ∧ TwoS PM w0 w' s r A B' Z ∧ Keeps (fun x => ¬ Z x) w w' := by
  obtain ⟨X, Y, h1, h2, h3, h4, h5, h6⟩ := h
  have := rput8 h2 hok c key v
  rw [e] at this
  refine this.mono ?_
  rintro e w' ⟨e1, Y', e2, e3, e4⟩
  refine ⟨e1, ⟨X, Y', F.keeps h1 e4 h3, e2, fun x hx hy => ?_, fun x hx => ⟨Nat.lt_of_lt_of_le (h4 x hx).1 e4.size, fun hy => ?_⟩, fun x hx => ?_, h6.trans e4 fun x hx hy => absurd hx (Nat.not_lt.2 (h5 x (.inr hy)))⟩, e4.mono fun x _ hx hz => (h4 x hz).2 hx⟩
  · rcases e3 x hy with g | g
    · exact h3 x hx g
    · have := F.old h1 x hx; omega
  · rcases e3 x hy with g | g
    · exact (h4 x hx).2 g
    · have := (h4 x hx).1; omega
  · rcases hx with g | g
    · exact h5 x (.inl g)
    · rcases e3 x g with q | q
      · exact h5 x (.inr q)
      · exact Nat.le_trans h6.size q
end

/-- What Both answers. -/
def BothTo (PM : PMem) (w : World) (e : Ending) (w' : World) : Prop := (e = .returned (.tuple #[.pointer none, .pointer none]) ∧ Keeps (fun _ => False) w w') ∨ ∃ s r A, e = .returned (.tuple #[.pointer (some ⟨s, 0, none⟩), .pointer (some ⟨r, 0, none⟩)]) ∧ On8 PM w w' s A

set_option maxRecDepth 100000 in
set_option maxHeartbeats 2000000 in
theorem both_no11 {PM : PMem} (F : Face PM) {w : World} {a0 : Option Addr} {len0 cap0 : Nat} {K : List Int} {a1 : Option Addr} {len1 cap1 : Nat} (hK : IntL w a0 len0 K) (hno : (20 < len0 ∨ 60 < len1) ∨ (mNew K).1 = false) :
    Calls Tryz.prog 7 #[.slice a0 len0 cap0, .slice a1 len1 cap1] w fun e w' => BothTo PM w e w' := by
  have CP := Lib.hid (play_no8 (cap0 := cap0) (a1 := a1) (cap1 := cap1) F hK hno)
  have CR := Lib.hid (fun V (k : Keeps (fun _ => False) w V) => rnew8 (cap := cap0) (hK.same k))
  clear hK hno
  go_enter Tryz.func7, Tryz.ntmps7
  go_wp2_with fail
  refine CP.out.mono ?_
  rintro e w1 ⟨rfl, hK1⟩
  have K1 := Lib.hid hK1
  clear hK1 CP
  go_wp2_with fail
  refine (CR.out _ K1.out).mono ?_
  rintro e w2 hR
  have HR : Hid (Keeps (fun _ => False) w1 w2) := Lib.hid (by
    rcases hR with ⟨_, _, h⟩ | ⟨_, r, Y, _, _, _, h⟩
    · rw [← h]; exact Keeps.refl _ _
    · exact h)
  obtain ⟨rv, i1, i2, he⟩ : ∃ (rv : Option Addr) (i1 i2 : Int), e = .returned (.tuple #[.pointer rv, .int .i64 i1, .int .i64 i2]) := by
    rcases hR with ⟨_, h, _⟩ | ⟨_, r, Y, h, _⟩
    · exact ⟨_, _, _, h⟩
    · exact ⟨_, _, _, h⟩
  subst he
  clear hR CR
  go_wp2_with fail
  refine bodyPost_ret (v := .tuple #[.pointer none, .pointer none]) (by simp [results, Tryz.results7, go_sem]) rfl (.inl ⟨rfl, K1.out.trans HR.out fun _ _ => id⟩)

set_option maxRecDepth 100000 in
set_option maxHeartbeats 4000000 in
theorem both_yes11 {PM : PMem} (F : Face PM) {w : World} {a0 : Option Addr} {len0 cap0 : Nat} {K : List Int} {a1 : Option Addr} {len1 cap1 : Nat} {L : List Act8} (hK : IntL w a0 len0 K) (hL : Act8L w a1 len1 cap1 L) (h0 : len0 ≤ 20) (h1 : len1 ≤ 60) (hm : (mNew K).1 = true) (hg : Glob w) :
    Calls Tryz.prog 7 #[.slice a0 len0 cap0, .slice a1 len1 cap1] w fun e w' => BothTo PM w e w' := by
  have CP := Lib.hid (play_yes11 (cap0 := cap0) F hK hL h0 h1 hm hg)
  have CR := Lib.hid (fun V (k : Keeps (fun _ => False) w V) => rnew8 (cap := cap0) (hK.same k))
  have HM := Lib.hid hm
  have HLEN := Lib.hid hK.len
  clear hK hL hm hg h1
  go_enter Tryz.func7, Tryz.ntmps7
  go_wp2_with fail
  refine CP.out.mono ?_
  rintro e w1 ⟨s, A, rfl, hO, hAK, hAL, hAW, hA1⟩
  have O1 := Lib.hid hO
  have HA := Lib.hid (And.intro hAK (And.intro hAL (And.intro hAW hA1)))
  have OK := Lib.hid (hO.ok F)
  clear hO hAK hAL hAW hA1 CP
  go_wp2_with fail
  refine (CR.out _ O1.out.keeps).mono ?_
  rintro e w2 hR
  obtain ⟨r, rfl, hT⟩ := two_new F O1.out HM.out hR
  have T2 : Hid (TwoS PM w w2 s r A (A.part 0 0) (fun _ => False)) := Lib.hid (by rw [part_zero OK.out, HA.out.1]; exact hT)
  have OK0 : Hid (A.part 0 0).Ok := Lib.hid (by rw [part_zero OK.out, HA.out.1]; exact made_ok (mNew_len HM.out))
  have LN : Hid (A.L.length = len0) := Lib.hid (by rw [HA.out.2.1, HLEN.out])
  clear hR hT CR O1 HM
  go_wp2_with fail
  go_loopw [32, 10] (fun iv xv wr => ∃ c : Nat, iv = .int .i64 (c : Int) ∧ c ≤ len0 ∧ TwoS PM w wr s r A (A.part c 0) (fun _ => False) ∧ (A.part c 0).Ok) (fun iv _ _ => len0 - (intOf iv).toNat)
  case atStart => exact ⟨0, rfl, Nat.zero_le _, T2.out, OK0.out⟩
  case round =>
    obtain ⟨c, rfl, hc, hT, hok⟩ := hrel
    have T3 := Lib.hid hT
    have OKc := Lib.hid hok
    clear hT hok
    by_cases hlt : c < len0
    · have b1 : (c : Int) < (len0 : Int) := by omega
      have hth : A.there (c : Int) := ⟨by omega, by have := LN.out; omega⟩
      have CL := Lib.hid (by obtain ⟨X, q1, q2, q3⟩ := T3.out.on; exact F.list_ q1 (c : Int) hth)
      go_wp2_with fail
      refine CL.out.mono ?_
      rintro e w3 ⟨u, rfl, hrow, hown, hK⟩
      obtain ⟨W, hW⟩ : ∃ W, A.col (c : Int) = W := ⟨_, rfl⟩
      obtain ⟨m, hm⟩ : ∃ m, W.length = m := ⟨_, rfl⟩
      rw [hW] at hrow
      have m100 : m ≤ 100 := by
        have := (OK.out.col hth).2
        rw [hW] at this
        omega
      obtain ⟨uo, uc, rfl, hcell⟩ := prow_cells hrow hm
      have hWL : A.L.getD c [] = W := by rw [← hW]; unfold M8.col; rw [Int.toNat_natCast]
      have T4 : Hid (TwoS PM w w3 s r A (A.part c 0) (fun x => (Value.slice uo m uc).ownBlock = some x)) := Lib.hid (T3.out.fresh F hK fun x hx => ⟨hown x hx, by
        obtain ⟨cs, hw⟩ := row_whole hrow hx
        exact hw.lt⟩)
      have U4 := Lib.hid hrow
      have HW := Lib.hid (And.intro hWL hm)
      clear hrow hown hK hcell hW hm hWL CL T3
      obtain ⟨wq, rfl⟩ : ∃ wq : World, wq = wr := ⟨_, rfl⟩
      go_wp2_with fail
      go_loopw [43] (fun jv wx => ∃ i : Nat, jv = .int .i64 (i : Int) ∧ i ≤ m ∧ TwoS PM w wx s r A (A.part c i) (fun x => (Value.slice uo m uc).ownBlock = some x) ∧ (A.part c i).Ok ∧ PRow wx (.slice uo m uc) W) (fun jv _ => m - (intOf jv).toNat)
      case atStart => exact ⟨0, rfl, Nat.zero_le _, T4.out, OKc.out, U4.out⟩
      case round =>
        obtain ⟨i, rfl, hi, hT, hok, hrow⟩ := hrel
        have T5 := Lib.hid hT
        have OK5 := Lib.hid hok
        have U5 := Lib.hid hrow
        by_cases hlt2 : i < m
        · have b2 : (i : Int) < (m : Int) := by omega
          obtain ⟨p, hp⟩ : ∃ p, W[i]? = some p := ⟨_, List.getElem?_eq_getElem (by rw [HW.out.2]; exact hlt2)⟩
          obtain ⟨o2, c2, e1, hcell⟩ := prow_cells hrow HW.out.2
          obtain ⟨g, rfl, hc2⟩ := hcell (by omega)
          injection e1 with e1 _ e3
          subst e1
          subst e3
          obtain ⟨y0, y1⟩ := hc2 i p hp
          have hst := part_step OK.out HA.out.2.2.2 (c := c) (i := i) (by have := LN.out; omega) (p := p) (by rw [HW.out.1]; exact hp)
          have KA : Hid (Keeps (fun _ => False) wr (wr.alloc (.cells #[.int .i64 p.1, .int .i64 p.2] 59))) := Lib.hid ((Keeps.refl _ wr).alloc _)
          have CU := Lib.hid (two_put F (T5.out.same F KA.out) hok (c : Int) p.1 p.2 hst)
          have OK6 : Hid (A.part c (i + 1)).Ok := Lib.hid (by
            have := mPut_ok hok (c : Int) p.1 p.2
            rw [hst] at this
            exact this)
          clear hT hok hrow hc2 hcell hp hst
          go_wp2_with fail
          refine CU.out.mono ?_
          rintro e w5 ⟨rfl, hT, hK⟩
          have T6 := Lib.hid hT
          have U6 : Hid (PRow w5 (.slice (some ⟨g, 0, none⟩) m uc) W) := Lib.hid (ownsRow_keeps (ownsRow_keeps U5.out KA.out fun _ _ => id) hK fun x hx hn => hn hx)
          clear hT hK CU
          go_wp2_with fail
          go_roundw
          case rel => exact ⟨i + 1, by go_num, by omega, T6.out, OK6.out, U6.out⟩
          case measure => simp [intOf]; omega
        · obtain rfl : i = m := by omega
          have b2 : ¬ (i : Int) < (i : Int) := by omega
          have T7 : Hid (TwoS PM w wr s r A (A.part (c + 1) 0) (fun _ => False)) := Lib.hid (by
            have := part_next A c
            rw [HW.out.1, HW.out.2] at this
            rw [← this]
            exact hT.free)
          have OK7 : Hid (A.part (c + 1) 0).Ok := Lib.hid (by
            have := part_next A c
            rw [HW.out.1, HW.out.2] at this
            rw [← this]
            exact hok)
          clear hT hok hrow
          go_wp2_with fail
          go_roundw
          case rel => exact ⟨c + 1, by go_num, by omega, T7.out, OK7.out⟩
          case measure => simp [intOf]; omega
    · obtain rfl : c = len0 := by omega
      have b1 : ¬ (c : Int) < (c : Int) := by omega
      have T8 : Hid (TwoS PM w wr s r A A (fun _ => False)) := Lib.hid (by
        have := part_end A
        rw [LN.out] at this
        have h := T3.out
        rw [this] at h
        exact h)
      have CI := Lib.hid (is_both8 F T8.out.both)
      clear T3 OKc
      go_wp2_with fail
      refine CI.out.mono ?_
      rintro e w5 ⟨rfl, hB⟩
      have HB := Lib.hid hB.on
      clear hB CI
      go_wp2_with fail
      refine bodyPost_ret (v := .tuple #[.pointer (some ⟨s, 0, none⟩), .pointer (some ⟨r, 0, none⟩)]) (by simp [results, Tryz.results7, go_sem]) rfl (.inr ⟨s, r, A, rfl, HB.out⟩)

theorem both_any11 {PM : PMem} (F : Face PM) {w : World} {a0 : Option Addr} {len0 cap0 : Nat} {K : List Int} {a1 : Option Addr} {len1 cap1 : Nat} {L : List Act8} (hK : IntL w a0 len0 K) (hL : Act8L w a1 len1 cap1 L) (hg : Glob w) :
    Calls Tryz.prog 7 #[.slice a0 len0 cap0, .slice a1 len1 cap1] w fun e w' => BothTo PM w e w' := by
  by_cases h : (20 < len0 ∨ 60 < len1) ∨ (mNew K).1 = false
  · exact both_no11 F hK h
  · exact both_yes11 F hK hL (by omega) (by omega) (by
      cases e : (mNew K).1 with
      | true => rfl
      | false => exact absurd (.inr e) h) hg
end Go.Proofs.YthidipigpfcbbaaGreatDoor
