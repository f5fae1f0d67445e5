/-
  ModelCopy, for any program's states that keep 'Face': called with any kinds, calls and more of the copy it answers true, and changes nothing that was there.
-/
import Derived.Test.YtnlogilbiifmiaaDoorMoPair
namespace Go.Proofs.YtnlogilbiifmiaaDoor
open Go.RowKit Go.Maps Go.Extern.Stop Go.Stop Go.Extern

/-- Two states, and lists that were told beside them. -/
def WasQ (PM : PMem) (w0 w : World) (s : Nat) (A : M8) (o : Nat) (B : M8) (v : Value) (ws : List Sl8) (Ls : List Tl) (X Z T : Nat → Prop) : Prop :=
  PM w s A X ∧ PM w o B Z ∧ (∀ x, X x → ¬ Z x) ∧ listK.Row w v ws ∧ ws.length = Ls.length ∧ (∀ (i : Nat) (x : Sl8) (l : Tl), ws[i]? = some x → Ls[i]? = some l → PRow w (slv8 x) l) ∧ (∀ g, v.ownBlock = some g → T g) ∧ (∀ x ∈ ws, ∀ g, (slv8 x).ownBlock = some g → T g) ∧ (∀ x, T x → ¬ X x ∧ ¬ Z x ∧ x < w.heap.size) ∧ (∀ x, X x ∨ Z x ∨ T x → w0.heap.size ≤ x) ∧ Keeps (fun _ => False) w0 w
def Was8 (PM : PMem) (w0 w : World) (s : Nat) (A : M8) (o : Nat) (B : M8) (v : Value) (ws : List Sl8) (Ls : List Tl) : Prop := ∃ X Z T, WasQ PM w0 w s A o B v ws Ls X Z T

section
variable {PM : PMem} {w0 w w' : World} {s o : Nat} {A B C : M8} {v : Value} {ws : List Sl8} {Ls : List Tl}
theorem Was8.same (F : Face PM) (h : Was8 PM w0 w s A o B v ws Ls) (k : Keeps (fun _ => False) w w') : Was8 PM w0 w' s A o B v ws Ls := by
  obtain ⟨X, Z, T, h1, h2, h3, h4, h5, h6, h7, h8, h9, h10, h11⟩ := h
  exact ⟨X, Z, T, F.same h1 k, F.same h2 k, h3, ownsRow_keeps h4 k fun _ _ => id, h5, fun i x l hx hl => ownsRow_keeps (h6 i x l hx hl) k fun _ _ => id, h7, h8, fun x hx => ⟨(h9 x hx).1, (h9 x hx).2.1, Nat.lt_of_lt_of_le (h9 x hx).2.2 k.size⟩, h10, h11.trans k fun _ _ => id⟩
theorem Was8.pair (h : Was8 PM w0 w s A o B v ws Ls) : Pair8 PM w0 w s A o B := by
  obtain ⟨X, Z, T, h1, h2, h3, h4, h5, h6, h7, h8, h9, h10, h11⟩ := h
  exact ⟨X, Z, h1, h2, h3, fun x hx => h10 x (hx.imp id .inl), h11⟩
theorem Was8.keeps (h : Was8 PM w0 w s A o B v ws Ls) : Keeps (fun _ => False) w0 w := h.pair.keeps
theorem Was8.none_ (h : Pair8 PM w0 w s A o B) : Was8 PM w0 w s A o B (.slice none 0 0) [] [] := by
  obtain ⟨X, Z, h1, h2, h3, h4, h5⟩ := h
  exact ⟨X, Z, fun _ => False, h1, h2, h3, World.ownsRow_nil .., rfl, fun i x l hx => (by simp at hx), fun g hg => (by simp [Value.ownBlock] at hg), fun x hx => (by cases hx), fun x hx => hx.elim, fun x hx => h4 x (hx.imp id fun h => h.resolve_right id), h5⟩
theorem WasQ.did (F : Face PM) {X Z T : Nat → Prop} (h : WasQ PM w0 w s A o B v ws Ls X Z T) (hd : MDid PM w w' o C Z) : Was8 PM w0 w' s A o C v ws Ls := by
  obtain ⟨h1, h2, h3, h4, h5, h6, h7, h8, h9, h10, h11⟩ := h
  obtain ⟨Z', d1, d2, d3⟩ := hd
  refine ⟨X, Z', T, F.keeps h1 d3 h3, d1, fun x hx hz => ?_, ownsRow_keeps h4 d3 fun g hg => (h9 g (h7 g hg)).2.1, h5, fun i x l hx hl => ownsRow_keeps (h6 i x l hx hl) d3 fun g hg => (h9 g (h8 x (List.mem_of_getElem? hx) g hg)).2.1, h7, h8, fun x hx => ⟨(h9 x hx).1, fun hz => ?_, Nat.lt_of_lt_of_le (h9 x hx).2.2 d3.size⟩, fun x hx => ?_, h11.trans d3 fun x hx e => absurd hx (Nat.not_lt.2 (h10 x (.inr (.inl e))))⟩
  · rcases d2 x hz with g | g
    · exact h3 x hx g
    · exact absurd (F.old h1 x hx) (Nat.not_lt.2 g)
  · rcases d2 x hz with g | g
    · exact (h9 x hx).2.1 g
    · exact absurd (h9 x hx).2.2 (Nat.not_lt.2 g)
  · rcases hx with hx | hx | hx
    · exact h10 x (.inl hx)
    · rcases d2 x hx with g | g
      · exact h10 x (.inr (.inl g))
      · exact Nat.le_trans h11.size g
    · exact h10 x (.inr (.inr hx))
theorem Was8.push (F : Face PM) {w1 w2 w3 : World} {x : Sl8} {l : Tl} {v' : Value} (h : Was8 PM w0 w s A o B v ws Ls) (k : Keeps (fun _ => False) w w1) (hx : PRow w1 (slv8 x) l) (hn : ∀ g, (slv8 x).ownBlock = some g → w.heap.size ≤ g) (k2 : Keeps (fun _ => False) w1 w2) (hr : listK.Row w3 v' (ws ++ [x])) (hg : w2.grownBy w3 v.ownBlock) (hv : v'.ownBlock = v.ownBlock ∨ v'.ownBlock = some w2.heap.size) : Was8 PM w0 w3 s A o B v' (ws ++ [x]) (Ls ++ [l]) := by
  obtain ⟨X, Z, T, h1, h2, h3, h4, h5, h6, h7, h8, h9, h10, h11⟩ := h
  have kk : Keeps (fun y => v.ownBlock = some y) w2 w3 := (Keeps.refl _ w2).grown hg fun k hk _ => hk
  have kw : Keeps (fun y => v.ownBlock = some y) w w3 := ((k.trans k2 fun _ _ => id).mono fun _ _ => False.elim).trans_ kk
  have kx : Keeps (fun y => v.ownBlock = some y) w1 w3 := (k2.mono fun _ _ => False.elim).trans_ kk
  have lx := fun g (hg : (slv8 x).ownBlock = some g) => (World.ownsRow.lt hx g hg).2
  have s1 := k.size
  have s2 := k2.size
  refine ⟨X, Z, fun y => T y ∨ (w.heap.size ≤ y ∧ y < w3.heap.size), F.keeps h1 kw fun y hy e => (h9 y (h7 y e)).1 hy, F.keeps h2 kw fun y hy e => (h9 y (h7 y e)).2.1 hy, h3, hr, by simp [h5], fun i y m hy hm => ?_, fun g hg => ?_, fun y hy g hg => ?_, fun y hy => ?_, fun y hy => ?_, h11.trans kw fun y hy e => absurd hy (Nat.not_lt.2 (h10 y (.inr (.inr (h7 y e)))))⟩
  · rcases Nat.lt_trichotomy i ws.length with hi | hi | hi
    · rw [List.getElem?_append_left hi] at hy
      rw [List.getElem?_append_left (by omega)] at hm
      exact ownsRow_keeps (h6 i y m hy hm) kw fun g hg e => by
        exact row_ne_row (h6 i y m hy hm) h4 (show (54 : TypeId) ≠ 45 from by decide) hg e
    · subst hi
      rw [List.getElem?_append_right (Nat.le_refl _)] at hy
      rw [List.getElem?_append_right (by omega)] at hm
      simp at hy
      rw [show ws.length - Ls.length = 0 by omega] at hm
      simp at hm
      subst hy hm
      exact ownsRow_keeps hx kx fun g hg e => by have := (h9 g (h7 g e)).2.2; have := hn g hg; omega
    · rw [List.getElem?_eq_none (by simp; omega)] at hy; cases hy
  · rcases hv with e | e
    · exact .inl (h7 g (by rw [← e]; exact hg))
    · rw [e] at hg
      injection hg with hg
      exact .inr ⟨by omega, (World.ownsRow.lt hr g (by rw [e, hg])).2⟩
  · rcases List.mem_append.1 hy with hy | hy
    · exact .inl (h8 y hy g hg)
    · simp at hy
      subst hy
      exact .inr ⟨hn g hg, Nat.lt_of_lt_of_le (lx g hg) kx.size⟩
  · rcases hy with hy | hy
    · exact ⟨(h9 y hy).1, (h9 y hy).2.1, Nat.lt_of_lt_of_le (h9 y hy).2.2 kw.size⟩
    · exact ⟨fun hx => by have := F.old h1 y hx; omega, fun hz => by have := F.old h2 y hz; omega, hy.2⟩
  · rcases hy with hy | hy | hy | hy
    · exact h10 y (.inl hy)
    · exact h10 y (.inr (.inl hy))
    · exact h10 y (.inr (.inr hy))
    · exact Nat.le_trans h11.size hy.1
end

theorem put_was8 {PM : PMem} {w0 w : World} {s o : Nat} {A B : M8} {v : Value} {ws : List Sl8} {Ls : List Tl} (F : Face PM) (h : Was8 PM w0 w s A o B v ws Ls) (c k x : Int) (hk : wfI k) :
    Calls Tryd.prog 17 #[.pointer (some ⟨o, 0, none⟩), .int .i64 c, .int .i64 k, .int .i64 x] w fun e w' => ∃ ev, e = .returned ev ∧ Was8 PM w0 w' s A o (mPut B c k x).1 v ws Ls := by
  obtain ⟨X, Z, T, h⟩ := h
  exact (F.put h.2.1 c k x hk).mono fun e w' ⟨ev, a, e1, e2, e3⟩ => ⟨ev, e1, h.did F e3⟩
theorem del_was8 {PM : PMem} {w0 w : World} {s o : Nat} {A B : M8} {v : Value} {ws : List Sl8} {Ls : List Tl} (F : Face PM) (h : Was8 PM w0 w s A o B v ws Ls) (c k : Int) (hk : wfI k) :
    Calls Tryd.prog 21 #[.pointer (some ⟨o, 0, none⟩), .int .i64 c, .int .i64 k] w fun e w' => ∃ ev, e = .returned ev ∧ Was8 PM w0 w' s A o (mDel B c k).1 v ws Ls := by
  obtain ⟨X, Z, T, h⟩ := h
  exact (F.del_ h.2.1 c k hk).mono fun e w' ⟨ev, a, e1, e2, e3⟩ => ⟨ev, e1, h.did F e3⟩

/-- append of one slice that was laid in a new block. -/
theorem wpList_append_one {ops : Array Oper} {rest : List Oper} {o : Oper} {a : Act} {w : World} {Q : Exit → Act → World → Prop}
    (hg : o.guard = none) (s x : Operand) (hop : o.op = Op.call { callee := Callee.builtin Builtin.append, args := #[s, x], argTypes := #[listK.T, listK.T] })
    (v : Value) (l news : List Sl8) (hs : a.eval s = v) (hown : listK.Row w v l) (xv : Value) (hx : a.eval x = xv) (hR : listK.Row w xv news) (n : Nat) (hn : l.length + news.length = n) (hbig : n ≤ 100000)
    (hK : ∀ ao cap w', listK.Row w' (.slice ao n cap) (l ++ news) → w.grownBy w' v.ownBlock → ((Value.slice ao n cap).ownBlock = v.ownBlock ∨ (Value.slice ao n cap).ownBlock = some w.heap.size) → wpList Tryd.prog ops Q rest (a.put o.dst (.slice ao n cap)) w') :
    wpList Tryd.prog ops Q (o :: rest) a w := by
  refine wpList_plain hg fun K' hK' => ?_
  obtain ⟨ao, cap, w', hr, h2, h3, h5⟩ := listK.append_row w v l news hown xv hR n hn hbig o.type
  unfold Oper.wp
  simp [execOp, hop, resolve, invoke, builtin, hs, hx, hr, Result.andThen]
  exact hK' _ _ (hK ao cap w' h2 h3 h5)
theorem lrow_lit {w : World} {b : Nat} (x : Sl8) (h : Whole w b 45 #[slv8 x]) : listK.Row w (.slice (some ⟨b, 0, none⟩) 1 1) [x] :=
  ⟨rfl, .inr ⟨b, 1, _, rfl, Nat.zero_le _, h, Nat.le_refl _, (by decide : 1 ≤ maxLen), rfl, rfl⟩⟩

theorem m8_ext {A B : M8} (hk : A.K = B.K) (n : Nat) (ha : A.L.length = n) (hb : B.L.length = n) : A = B ↔ ∀ j : Nat, j < n → A.col (j : Int) = B.col (j : Int) := by
  refine ⟨fun e j _ => by rw [e], fun h => ?_⟩
  have hl : A.L = B.L := List.ext_getElem? fun j => by
    rcases Nat.lt_or_ge j n with hj | hj
    · have := h j hj
      unfold M8.col at this
      rw [Int.toNat_natCast, List.getD_eq_getElem?_getD, List.getD_eq_getElem?_getD, List.getElem?_eq_getElem (by omega), List.getElem?_eq_getElem (by omega)] at this
      rw [List.getElem?_eq_getElem (by omega), List.getElem?_eq_getElem (by omega)]
      exact congrArg some this
    · rw [List.getElem?_eq_none (by omega), List.getElem?_eq_none (by omega)]
  cases A; cases B
  simp only at hk hl
  subst hk hl
  rfl

set_option maxRecDepth 100000 in
set_option maxHeartbeats 4000000 in
theorem copy_any8 {PM : PMem} (F : Face PM) {w : World} {a0 : Option Addr} {len0 cap0 : Nat} {K : List Int} {a1 : Option Addr} {len1 cap1 : Nat} {L : List Act8} {a2 : Option Addr} {len2 cap2 : Nat} {M : List Act8} (hK : IntL w a0 len0 K) (hL : Act8L w a1 len1 cap1 L) (hM : Act8L w a2 len2 cap2 M) (hg : Glob w) :
    Calls Tryd.prog 6 #[.slice a0 len0 cap0, .slice a1 len1 cap1, .slice a2 len2 cap2] w fun e w' => e = .returned (.bool true) ∧ Keeps (fun _ => False) w w' := by
  by_cases hno : (20 < len0 ∨ 60 < len1) ∨ (mNew K).1 = false
  · have CP := Lib.hid (play_no8 (cap0 := cap0) (a1 := a1) (cap1 := cap1) F hK hno)
    clear hK hL hM hg hno
    go_enter Tryd.func6, Tryd.ntmps6
    go_wp2_with fail
    refine CP.out.mono ?_
    rintro e w1 ⟨rfl, hK⟩
    have K1 := Lib.hid hK
    clear hK
    go_wp2_with (first
      | (go_at_call 7; refine (alive_any8 F _).mono ?_; rintro e w2 ⟨rfl, k5⟩; have K5 := Lib.hid (K1.out.trans k5 fun _ _ => id); clear k5))
    go_ret
    exact ⟨rfl, K5.out⟩
  have h20 : len0 ≤ 20 := by rcases Nat.lt_or_ge 20 len0 with h | h; exact absurd (.inl (.inl h)) hno; exact h
  have h60 : len1 ≤ 60 := by rcases Nat.lt_or_ge 60 len1 with h | h; exact absurd (.inl (.inr h)) hno; exact h
  have hm : (mNew K).1 = true := by cases h : (mNew K).1 with | true => rfl | false => exact absurd (.inr h) hno
  have CP := Lib.hid (play_yes8 (cap0 := cap0) F hK hL h20 h60 hm hg)
  have hn := hK.len
  have n8 := mNew_len hm
  have MM := Lib.hid hM
  clear hK hL hM hg hno h60 hm h20
  go_enter Tryd.func6, Tryd.ntmps6
  go_wp2_with fail
  refine CP.out.mono ?_
  rintro e w1 ⟨s, A, rfl, hO, hAK, hAL, _⟩
  have O1 := Lib.hid hO
  have K1 := Lib.hid hO.keeps
  have AL := Lib.hid (show A.L.length = len0 from hAL.trans hn)
  clear hO hAK hAL
  by_cases hbig : 60 < len2
  · have b0 : (60 : Int) < (len2 : Int) := by omega
    go_wp2_with (first
      | (go_at_call 7; refine (alive_any8 F _).mono ?_; rintro e w2 ⟨rfl, k5⟩; have K5 := Lib.hid (K1.out.trans k5 fun _ _ => id); clear k5))
    go_ret
    exact ⟨rfl, K5.out⟩
  have b0 : ¬ (60 : Int) < (len2 : Int) := by omega
  have few2 : len2 ≤ 60 := by omega
  clear hbig
  have n9 : len0 ≤ 8 := by omega
  clear n8 hn
  go_wp2_with fail
  refine (copy_on8 F O1.out).mono ?_
  rintro e w2 ⟨o, rfl, hP⟩
  have P2 := Lib.hid hP
  clear hP
  go_wp2_with fail
  refine (same_pair8 F P2.out).mono ?_
  rintro e w3 ⟨b3, rfl, hb3, hK⟩
  obtain rfl := hb3.2 rfl
  have P3 := Lib.hid (P2.out.same F hK)
  clear hb3 hK
  go_wp2_with fail
  refine (same_pair8 F P3.out.symm).mono ?_
  rintro e w4 ⟨b4, rfl, hb4, hK⟩
  obtain rfl := hb4.2 rfl
  have W4 := Lib.hid (Was8.none_ (P3.out.same F hK))
  clear hb4 hK
  go_wp2_with fail
  go_loopw [50, 9] (fun iv lv wr => ∃ (i : Nat) (lo : Option Addr) (lc : Nat) (ws : List Sl8), iv = .int .i64 i ∧ lv = .slice lo i lc ∧ i ≤ len0 ∧ Was8 PM w wr s A o A (.slice lo i lc) ws (A.L.take i)) (fun iv _ _ => len0 - (intOf iv).toNat)
  case atStart => exact ⟨0, none, 0, [], rfl, rfl, Nat.zero_le _, W4.out⟩
  case round =>
    obtain ⟨i, lo, lc, ws, rfl, rfl, hi, hW⟩ := hrel
    have WR := Lib.hid hW
    clear hW
    by_cases hlt : i < len0
    · have b1 : (i : Int) < (len0 : Int) := by omega
      have hth : A.there (i : Int) := ⟨by omega, by have := AL.out; omega⟩
      have CL := Lib.hid (list_on8 F WR.out.pair.left (i : Int) hth)
      have hat := M8.col_at hth
      rw [Int.toNat_natCast] at hat
      have HAT := Lib.hid (show A.L.take (i + 1) = A.L.take i ++ [A.col (i : Int)] by rw [List.take_add_one, hat]; rfl)
      obtain ⟨_, _, _, _, _, _, hrow, hlen, _⟩ := WR.out
      have hwl : ws.length = i := by rw [hlen, List.length_take]; have := AL.out; omega
      have HWL := Lib.hid hwl
      have HRow := Lib.hid hrow
      clear hth hat hrow hlen hwl
      go_wp2_with fail
      refine CL.out.mono ?_
      rintro e w5 ⟨u, rfl, hu, hun, hK⟩
      obtain ⟨uo, uc, e5, _⟩ := row_shape hu
      obtain ⟨ul, hul⟩ : ∃ ul, (A.col (i : Int)).length = ul := ⟨_, rfl⟩
      rw [hul] at e5
      subst e5
      have U := Lib.hid (show PRow w5 (slv8 (uo, ul, uc)) (A.col (i : Int)) from hu)
      have UN := Lib.hid (show ∀ g, (slv8 (uo, ul, uc)).ownBlock = some g → wr.heap.size ≤ g from hun)
      have K5 := Lib.hid hK
      have RW := Lib.hid (show listK.Row (w5.alloc (.cells #[.slice uo ul uc] 45)) (.slice lo i lc) ws from ownsRow_keeps (ownsRow_keeps HRow.out hK fun _ _ => id) ((Keeps.refl (fun _ => False) w5).alloc _) fun _ _ => id)
      have LT := Lib.hid (lrow_lit (uo, ul, uc) (Whole.made w5 45 #[.slice uo ul uc]))
      have k6 := Lib.hid ((Keeps.refl (fun _ => False) w5).alloc (.cells #[.slice uo ul uc] 45))
      clear hu hun hul hK
      go_wp2_with (first
        | (at_builtin; refine wpList_append_one rfl _ _ rfl (.slice lo i lc) ws [(uo, ul, uc)] rfl RW.out _ rfl LT.out (i + 1) (by rw [HWL.out]; rfl) (by omega) ?_; intro ao ac w7 hr hg hv; have W7 := Lib.hid (WR.out.push F K5.out U.out UN.out k6.out hr hg hv); clear hr hg hv))
      go_roundw
      case rel => exact ⟨i + 1, ao, ac, _, by go_num, rfl, by omega, by rw [HAT.out]; exact W7.out⟩
      case measure => simp [intOf]; omega
    · obtain rfl : i = len0 := by omega
      have b1 : ¬ (i : Int) < (i : Int) := by omega
      have WX := Lib.hid (show Was8 PM w wr s A o A (.slice lo i lc) ws A.L from by have := WR.out; rw [List.take_of_length_le (by rw [AL.out]; exact Nat.le_refl _)] at this; exact this)
      clear WR
      obtain ⟨wo, rfl⟩ : ∃ wo : World, wo = wr := ⟨_, rfl⟩
      go_wp2_with fail
      go_loopw [66] (fun iv wx => ∃ (q : Nat) (B : M8), iv = .int .i64 q ∧ q ≤ len2 ∧ Was8 PM w wx s A o B (.slice lo i lc) ws A.L ∧ B.K = A.K ∧ B.L.length = A.L.length) (fun iv _ => len2 - (intOf iv).toNat)
      case atStart => exact ⟨0, A, rfl, Nat.zero_le _, WX.out, rfl, rfl⟩
      case round =>
       obtain ⟨q, B, rfl, hq, hW, hBK, hBL⟩ := hrel
       have BK := Lib.hid (And.intro hBK hBL)
       clear hBK hBL
       by_cases hlt : q < len2
       · have b2 : (q : Int) < (len2 : Int) := by omega
         obtain ⟨b, of, rfl, hc⟩ := MM.out.at_ (by omega)
         obtain ⟨x, hx⟩ : ∃ x, M[q]? = some x := ⟨_, List.getElem?_eq_getElem (by rw [MM.out.len]; exact hlt)⟩
         obtain ⟨q0, q1, q2, q3⟩ := hc q x hx
         have KW := hW.keeps
         have d0 := (KW.cell (cell_lt q0) id).trans q0
         have d1 := (KW.cell (cell_lt q1) id).trans q1
         have d2 := (KW.cell (cell_lt q2) id).trans q2
         have d3 := (KW.cell (cell_lt q3) id).trans q3
         have hwx := MM.out.wf x (List.mem_of_getElem? hx)
         have W2 := Lib.hid (hW.same F ((Keeps.refl (fun _ => False) wr).alloc (.cells #[.int .i64 x.k, .int .i64 x.c, .int .i64 x.key, .int .i64 x.v] 35)))
         clear KW q0 q1 q2 q3 hc hW hx
         obtain ⟨xk, xc, xkey, xv⟩ := x
         simp only at d0 d1 d2 d3 hwx W2
         by_cases h1 : xk = 1
         · subst h1
           have DK := Lib.hid (mDo_K B ⟨1, xc, xkey, xv⟩)
           have em := Lib.hid (show mDo B ⟨1, xc, xkey, xv⟩ = (mPut B xc xkey xv).1 by unfold mDo; simp)
           go_wp2_with fail
           refine (put_was8 F W2.out xc xkey xv hwx).mono ?_
           rintro e w6 ⟨ev, rfl, hW⟩
           have W6 := Lib.hid hW
           clear hW
           go_wp2_with fail
           go_roundw
           case rel => exact ⟨q + 1, _, by go_num, by omega, W6.out, by rw [← em.out]; exact DK.out.1.trans BK.out.1, by rw [← em.out]; exact DK.out.2.trans BK.out.2⟩
           case measure => simp [intOf]; omega
         have n1 : (xk == 1) = false := by simpa using h1
         by_cases h2 : xk = 2
         · subst h2
           have DK := Lib.hid (mDo_K B ⟨2, xc, xkey, xv⟩)
           have em := Lib.hid (show mDo B ⟨2, xc, xkey, xv⟩ = (mPut B xc xkey xv).1 by unfold mDo; simp)
           go_wp2_with fail
           refine (put_was8 F W2.out xc xkey xv hwx).mono ?_
           rintro e w6 ⟨ev, rfl, hW⟩
           have W6 := Lib.hid hW
           clear hW
           go_wp2_with fail
           go_roundw
           case rel => exact ⟨q + 1, _, by go_num, by omega, W6.out, by rw [← em.out]; exact DK.out.1.trans BK.out.1, by rw [← em.out]; exact DK.out.2.trans BK.out.2⟩
           case measure => simp [intOf]; omega
         have n2 : (xk == 2) = false := by simpa using h2
         by_cases h3 : xk = 3
         · subst h3
           have DK := Lib.hid (mDo_K B ⟨3, xc, xkey, xv⟩)
           have em := Lib.hid (show mDo B ⟨3, xc, xkey, xv⟩ = (mDel B xc xkey).1 by unfold mDo; simp)
           go_wp2_with fail
           refine (del_was8 F W2.out xc xkey hwx).mono ?_
           rintro e w6 ⟨ev, rfl, hW⟩
           have W6 := Lib.hid hW
           clear hW
           go_wp2_with fail
           go_roundw
           case rel => exact ⟨q + 1, _, by go_num, by omega, W6.out, by rw [← em.out]; exact DK.out.1.trans BK.out.1, by rw [← em.out]; exact DK.out.2.trans BK.out.2⟩
           case measure => simp [intOf]; omega
         have n3 : (xk == 3) = false := by simpa using h3
         go_wp2_with fail
         go_roundw
         case rel => exact ⟨q + 1, B, by go_num, by omega, W2.out, BK.out.1, BK.out.2⟩
         case measure => simp [intOf]; omega
       · obtain rfl : q = len2 := by omega
         have b2 : ¬ (q : Int) < (q : Int) := by omega
         have WY := Lib.hid hW
         clear hW
         obtain ⟨wp, rfl⟩ : ∃ wp : World, wp = wr := ⟨_, rfl⟩
         go_wp2_with fail
         go_loopw [94, 15] (fun iv bv wx => ∃ (m : Nat) (bb : Bool), iv = .int .i64 m ∧ bv = .bool bb ∧ m ≤ i ∧ (bb = true ↔ ∀ j : Nat, j < m → A.col (j : Int) = B.col (j : Int)) ∧ Was8 PM w wx s A o B (.slice lo i lc) ws A.L) (fun iv _ _ => i - (intOf iv).toNat)
         case atStart => exact ⟨0, true, rfl, rfl, Nat.zero_le _, ⟨fun _ j hj => absurd hj (Nat.not_lt_zero _), fun _ => rfl⟩, WY.out⟩
         case round =>
          obtain ⟨m, bb, rfl, rfl, hm, hbb, hW⟩ := hrel
          have HB := Lib.hid hbb
          have WZ := Lib.hid hW
          clear hbb hW
          by_cases hlt : m < i
          · have b3 : (m : Int) < (i : Int) := by omega
            have thA : A.there (m : Int) := ⟨by omega, by have := AL.out; omega⟩
            have thB : B.there (m : Int) := ⟨by omega, by have := AL.out; have := BK.out.2; omega⟩
            have hat := M8.col_at thA
            rw [Int.toNat_natCast] at hat
            have fewA := ((WZ.out.pair.left.ok F).col thA).2
            have fewA' : (A.col (m : Int)).length ≤ 100000 := by omega
            have CA := Lib.hid (list_on8 F WZ.out.pair.left (m : Int) thA)
            have CB := Lib.hid (fun V (K : Keeps (fun _ => False) wr V) => list_on8 F (WZ.out.pair.same F K).right (m : Int) thB)
            have HAT := Lib.hid hat
            clear thA thB hat fewA
            go_wp2_with fail
            refine CA.out.mono ?_
            rintro e w5 ⟨u, rfl, hu, _, hK⟩
            have U := Lib.hid hu
            have K5 := Lib.hid hK
            clear hu hK
            go_wp2_with fail
            refine (CB.out _ K5.out).mono ?_
            rintro e w6 ⟨u', rfl, hu, _, hK⟩
            have U6 := Lib.hid (ownsRow_keeps U.out hK fun _ _ => id)
            have U' := Lib.hid hu
            have W6 := Lib.hid ((WZ.out.same F K5.out).same F hK)
            clear hu hK
            obtain ⟨_, _, _, _, _, _, hrow, hlen, heach, _⟩ := W6.out
            have hwl : ws.length = i := hlen.trans AL.out
            obtain ⟨o9, c9, e9, ho9⟩ := lrow_cells hrow hwl
            injection e9 with e91 e92 e93
            subst e91 e93
            obtain ⟨g9, rfl, hc9⟩ := ho9 (by omega)
            obtain ⟨⟨x1, x2, x3⟩, hx⟩ : ∃ x, ws[m]? = some x := ⟨_, List.getElem?_eq_getElem (by omega)⟩
            have c9' := hc9 m _ hx
            simp only [slv8] at c9'
            have RX := Lib.hid (show PRow w6 (.slice x1 x2 x3) (A.col (m : Int)) from heach m _ _ hx HAT.out)
            clear hrow hlen heach hwl ho9 hc9 hx
            cases bb with
            | true =>
              have U7 := U6
              go_wp2_with (first
                | (go_at_call 20; refine (pr_any W7u.out W7v.out fewA').mono ?_; rintro e w8 ⟨rfl, hK⟩; have W8 := Lib.hid (W7.out.same F hK); clear hK)
                | (go_at_call 20; refine (pr_self U6.out RX.out fewA').mono ?_; rintro e w7 ⟨rfl, hK⟩; have W7 := Lib.hid (W6.out.same F hK); have W7u := Lib.hid (ownsRow_keeps U6.out hK fun _ _ => id); have W7v := Lib.hid (ownsRow_keeps U'.out hK fun _ _ => id); clear hK))
              go_roundw
              case rel =>
                refine ⟨m + 1, decide (A.col (m : Int) = B.col (m : Int)), by go_num, rfl, by omega, ⟨fun h j hj => ?_, fun h => decide_eq_true (h m (by omega))⟩, W8.out⟩
                rcases Nat.lt_or_ge j m with g | g
                · exact HB.out.1 (by first | trivial | rfl) j g
                · obtain rfl : j = m := by omega
                  exact of_decide_eq_true h
              case measure => simp [intOf]; omega
            | false =>
              go_wp2_with (first
                | (go_at_call 20; refine (pr_self U6.out RX.out fewA').mono ?_; rintro e w7 ⟨rfl, hK⟩; have W7 := Lib.hid (W6.out.same F hK); clear hK))
              go_roundw
              case rel => exact ⟨m + 1, false, by go_num, rfl, by omega, ⟨fun h => (by cases h), fun h => HB.out.2 fun j hj => h j (by omega)⟩, W7.out⟩
              case measure => simp [intOf]; omega
          · obtain rfl : m = i := by omega
            have b3 : ¬ (m : Int) < (m : Int) := by omega
            have HE := Lib.hid (m8_ext (A := A) (B := B) BK.out.1.symm m AL.out (BK.out.2.trans AL.out))
            go_wp2_with fail
            refine (same_pair8 F WZ.out.pair).mono ?_
            rintro e w5 ⟨b5, rfl, hb5, hK⟩
            obtain rfl : b5 = bb := Bool.eq_iff_iff.2 (hb5.trans (HE.out.trans HB.out.symm))
            have W5 := Lib.hid (WZ.out.same F hK)
            clear hb5 hK
            go_wp2_with fail
            refine (same_pair8 F W5.out.pair.symm).mono ?_
            rintro e w6 ⟨b6, rfl, hb6, hK⟩
            obtain rfl : b6 = b5 := Bool.eq_iff_iff.2 (hb6.trans ((eq_comm.trans HE.out).trans HB.out.symm))
            have K6 := Lib.hid (W5.out.keeps.trans hK fun _ _ => id)
            clear hb6 hK
            cases b6
            all_goals
              go_wp2_with (first
                | (go_at_call 7; refine (alive_any8 F _).mono ?_; rintro e w9 ⟨rfl, k5⟩; have K9 := Lib.hid (K6.out.trans k5 fun _ _ => id); clear k5))
              go_ret
              exact ⟨rfl, K9.out⟩
end Go.Proofs.YtnlogilbiifmiaaDoor
