/-
  concordlaw02.BlocksApart, walked: it returns true, and nothing that was there has changed.
-/
import Derived.Test.YtaamenhfngjobaaDoorBkApart
import Derived.Test.YtaamenhfngjobaaDoorBkKeys
import Derived.Test.YtaamenhfngjobaaDoorBkStaleWalk
import Derived.Test.YtaamenhfngjobaaDoorBkArgs
import Derived.Deep.QuietTactic
import Derived.BigQuiet
namespace Go.Proofs.YtaamenhfngjobaaDoor
open Go.RowKit Go.Extern.Stop Go.Stop Go.Extern

set_option maxRecDepth 100000 in
theorem apart_many (a : Option Addr) (len cap : Nat) (a2 : Option Addr) (len2 cap2 : Nat) (hl : 30 < len) (hm : len ≤ maxLen) (w : World) (hg : Glob w) :
    Calls Tryd.prog 3 #[.slice a len cap, .slice a2 len2 cap2] w fun e w' => e = .returned (.bool true) ∧ Below w.heap.size w w' := by
  unfold maxLen at hm
  have hl' : (30 : Int) < len := by omega
  have g0 := Lib.hid hg
  clear hg
  go_enter Tryd.func3, Tryd.ntmps3
  go_wp2_with fail
  refine (on_600 _).mono ?_
  rintro e w1 ⟨p, b, X, rfl, hB, hX, hK⟩
  have K1 := Lib.hid hK
  clear hB hX hK
  go_wp2_with fail
  refine (alive2 _ (g0.out.keeps K1.out id)).mono ?_
  rintro e v3 ⟨rfl, hK⟩
  have K6 := Lib.hid (K1.out.trans_ hK)
  clear hK
  go_wp2_with fail
  go_ret
  exact ⟨rfl, K6.out.below (Nat.le_refl _) fun _ _ => id⟩

/-- One of two rows is appended to; both stay the call's own. -/
theorem two_rows {w0 w V : World} {X : Nat → Prop} {e e' : TypeId} {u s : Value} {xs ys : List Value} {y : Value} {g cap n : Nat} (hu : Mine w0 w X e u xs) (hs : Mine w0 w X e' s ys) (hne : e ≠ e') (hw : w0.heap.size ≤ w.heap.size) (hX : ∀ x, X x → x < w.heap.size) (ob : Obj) (hn : xs.length = n)
    (hO : V.ownsRow 0 e 1 (.slice (some ⟨g, 0, none⟩) (n + 1) cap) (n + 1) (xs ++ [y])) (hG : (w.alloc ob).grownBy V u.ownBlock) (hl : u.ownBlock = some g ∨ g = (w.alloc ob).heap.size) :
    Mine w0 V X e (.slice (some ⟨g, 0, none⟩) (n + 1) cap) (xs ++ [y]) ∧ Mine w0 V X e' s ys ∧ Keeps (fun x => ¬ X x ∧ w0.heap.size ≤ x) w V := by
  subst hn
  have h := hu.grown (w1 := w.alloc ob) (y := y) (g := g) (cap := cap) hw hX ((Keeps.refl (fun _ => False) w).alloc ob) hO hG hl
  refine ⟨by have := h.1; rw [List.length_append, List.length_singleton] at this; exact this, hs.still h.2 fun q hq hq' => hs.apart hu (fun e1 => hne e1.symm) q hq hq', h.2.mono fun x _ hx => hu.2 x hx⟩

theorem Mine.init_ {w0 w : World} {X : Nat → Prop} {e : TypeId} {g c n : Nat} {xs : List Value} {y : Value} (h : Mine w0 w X e (.slice (some ⟨g, 0, none⟩) (n + 1) c) (xs ++ [y])) (hn : xs.length = n) : Mine w0 w X e (.slice (some ⟨g, 0, none⟩) n c) xs ∧ n + 1 ≤ c ∧ c ≤ maxLen := by
  subst hn
  exact h.init

theorem own_at {w0 w : World} {X : Nat → Prop} {e : TypeId} {v : Value} {xs : List Value} {n : Nat} (h : Mine w0 w X e v xs) (hn : xs.length = n) (o : Obj) : (w.alloc o).ownsRow 0 e 1 v n xs := by
  subst hn
  exact (h.keeps ((Keeps.refl (fun _ => False) w).alloc o) fun _ h => h.elim).1

set_option maxRecDepth 100000 in
set_option maxHeartbeats 2000000 in
theorem apart_all (a : Option Addr) (len cap : Nat) (a2 : Option Addr) (len2 cap2 : Nat) (hl : len ≤ 30) (w : World) (hin : Nums w a len) (hfl : Flags w a2 len2) (hg : Glob w) :
    Calls Tryd.prog 3 #[.slice a len cap, .slice a2 len2 cap2] w fun e w' => e = .returned (.bool true) ∧ Below w.heap.size w w' := by
  have hl' : ¬ (30 : Int) < len := by omega
  have hm2 : (len2 : Int) ≤ 9223372036854775807 := by have := hfl.le; unfold maxLen at this; omega
  have g0 := Lib.hid hg
  have in0 := Lib.hid hin
  have fl0 := Lib.hid hfl
  clear hg hin hfl
  go_enter Tryd.func3, Tryd.ntmps3
  go_wp2_with fail
  refine (on_600 _).mono ?_
  rintro e w1 ⟨p, b, X, rfl, hB, hX, hK⟩
  have B1 := Lib.hid hB
  have X1 := Lib.hid hX
  have K1 := Lib.hid hK
  clear hB hX hK
  go_wp2_with fail
  obtain ⟨i0, hi, hz0, hz1, hz2⟩ := info_parts info_word
  have hI := Lib.hid (show Tryd.prog.info? 30 = some i0 ∧ i0.zero = some (.int .u64 0) ∧ i0.size = 1 ∧ i0.bytes = 8 from ⟨hi, hz0, hz1, hz2⟩)
  clear hi hz0 hz1 hz2
  obtain ⟨i1, hi, hz0, hz1, hz2⟩ := info_parts info_int
  have hJ := Lib.hid (show Tryd.prog.info? 3 = some i1 ∧ i1.zero = some (.int .i64 0) ∧ i1.size = 1 ∧ i1.bytes = 8 from ⟨hi, hz0, hz1, hz2⟩)
  clear hi hz0 hz1 hz2
  go_loopw [7, 8, 39] (fun rv sv i wr => ∃ (k g cnt : Nat) (ws : List Int) (st : St) (L : List Blk) (Y : Nat → Prop), k ≤ len ∧ i = .int .i64 k ∧ Bk wr b ws cnt st Y ∧ Apart g k st L ∧ g ≤ k ∧ L.length ≤ k ∧ ws.length = 600 ∧ cnt ≤ 20 * k ∧ Mine w wr Y 30 rv (refsOf L) ∧ Mine w wr Y 3 sv (sizesOf L) ∧ (∀ x, Y x → w.heap.size ≤ x) ∧ Keeps (fun _ => False) w wr) (fun _ _ i _ => len - (intOf i).toNat)
  case atStart => exact ⟨0, 0, 0, _, _, [], X, by omega, rfl, B1.out, Apart.start, Nat.le_refl _, Nat.le_refl _, List.length_replicate .., by omega, Mine.nothing _ _ _ _, Mine.nothing _ _ _ _, X1.out, K1.out⟩
  case round =>
    obtain ⟨k, g, cnt, ws, st, L, Y, hk, rfl, hB, hA, hgk, hLk, hws, hcnt, hR, hS, hY, hK⟩ := hrel
    have B2 := Lib.hid hB
    have A2 := Lib.hid hA
    have L2 := Lib.hid hws
    have R2 := Lib.hid hR
    have S2 := Lib.hid hS
    have Y2 := Lib.hid hY
    have K2 := Lib.hid hK
    clear hB hA hws hR hS hY hK
    by_cases hlt : k < len
    · have hk30 : k < 30 := by omega
      have hsz : w.heap.size ≤ wr.heap.size := K2.out.size
      obtain ⟨cb, off, zv, rfl, hc, z, rfl, _⟩ := (in0.out.keeps K2.out fun _ _ => id).at_ k hlt
      obtain ⟨b1, b2⟩ := tmod_bd z 8 (by decide)
      obtain ⟨n, hn, hn1, hn8⟩ : ∃ n : Nat, 1 + z.tmod 8 % 8 = (n : Int) ∧ 1 ≤ n ∧ n ≤ 8 := ⟨(1 + z.tmod 8 % 8).toNat, by omega, by omega, by omega⟩
      go_wp2_with fail
      refine (apart_alloc B2.out A2.out ⟨hn1, hn8⟩ hk30 L2.out (by omega)).mono ?_
      rintro e w3 ⟨B, ws3, st3, rfl, hB, hA, hBs, hws, hK⟩
      have B3 := Lib.hid hB
      have A3 := Lib.hid hA
      have L3 := Lib.hid hws
      have N3 := Lib.hid hBs
      have K3 := Lib.hid (K2.out.trans hK fun x hx h => absurd (Y2.out x h) (by omega))
      have R3 := Lib.hid (R2.out.keeps hK fun x hx => .inl hx)
      have S3 := Lib.hid (S2.out.keeps hK fun x hx => .inl hx)
      have hsz3 : w.heap.size ≤ w3.heap.size := Nat.le_trans hsz hK.size
      clear hB hA hws hBs hK b1 b2
      go_wp2_with fail
      refine (no_nil _).mono ?_
      rintro e w' ⟨rfl, rfl⟩
      have oA := Lib.hid (own_at R3.out (refsOf_len L) (.cells #[.int .u64 (B.ref : Int)] 30))
      by_cases hf : k < len2
      · obtain ⟨cb2, off2, fv, rfl, hc2, fc, rfl⟩ := fl0.out.at_ k hf
        cases fc with
        | true =>
          go_wp2_with (first
            | (at_builtin; refine wpList_append_mine _ rfl _ _ 29 rfl 30 i0 (.int .u64 0) 8 Tryd.underlying29 hI.out.1 hI.out.2.1 hI.out.2.2.1 hI.out.2.2.2 rfl u7 L.length (refsOf L) rfl oA.out ⟨w3.heap.size, 0, none⟩ 1 (.int .u64 (B.ref : Int)) rfl (cell_one _ _ _) rfl (by unfold maxLen; omega) (by omega) ?_; intro g1 cap1 V1 hO hG hloc; have T4 := Lib.hid (two_rows R3.out S3.out (by decide) hsz3 B3.out.old _ (refsOf_len L) hO hG hloc); have oB := Lib.hid (own_at T4.out.2.1 (sizesOf_len L) (.cells #[.int .i64 (n : Int)] 3)); clear hO hG hloc)
            | (at_builtin; refine wpList_append_mine _ rfl _ _ 22 rfl 3 i1 (.int .i64 0) 8 Tryd.underlying22 hJ.out.1 hJ.out.2.1 hJ.out.2.2.1 hJ.out.2.2.2 rfl u8 L.length (sizesOf L) rfl oB.out ⟨V1.heap.size, 0, none⟩ 1 (.int .i64 (n : Int)) rfl (cell_one _ _ _) rfl (by unfold maxLen; omega) (by omega) ?_; intro g2 cap3 V2 hO hG hloc; have T5 := Lib.hid (two_rows T4.out.2.1 T4.out.1 (by decide) (Nat.le_trans hsz3 T4.out.2.2.size) (fun x hx => Nat.lt_of_lt_of_le (B3.out.old x hx) T4.out.2.2.size) _ (sizesOf_len L) hO hG hloc); have KV := Lib.hid (show Keeps (fun _ => False) w V2 from (K3.out.trans T4.out.2.2 fun x hx h => absurd h.2 (by omega)).trans T5.out.2.2 fun x hx h => absurd h.2 (by omega)); have BV := Lib.hid ((B3.out.keeps T4.out.2.2 fun x hx h => h.1 hx).keeps T5.out.2.2 fun x hx h => h.1 hx); have hcV := (KV.out.cell (p := ⟨cb2, off2 + k, none⟩) (cell_lt hc2) id).trans hc2; clear hO hG hloc))
          refine (apart_free BV.out A3.out (by omega) L3.out (by omega)).mono ?_
          rintro e v3 ⟨ws5, st5, Y5, rfl, hB, hA, hws, hX, hK⟩
          have B5 := Lib.hid hB
          have A5 := Lib.hid hA
          have L5 := Lib.hid hws
          have Y5' := Lib.hid (show ∀ x, Y5 x → w.heap.size ≤ x from fun x hx => (hX x hx).elim (Y2.out x) (Nat.le_trans KV.out.size))
          have K5 := Lib.hid (KV.out.trans hK fun x hx h => absurd (Y2.out x h) (by omega))
          obtain ⟨r5, c5, c5m⟩ := (T5.out.2.1.next hK hX).init_ (refsOf_len L)
          obtain ⟨s5, c6, c6m⟩ := (T5.out.1.next hK hX).init_ (sizesOf_len L)
          have R5 := Lib.hid r5
          have S5 := Lib.hid s5
          have e1 : (L.length : Int) ≤ (cap1 : Int) := by omega
          have e2 : (L.length : Int) ≤ (cap3 : Int) := by omega
          unfold maxLen at c5m c6m
          clear hB hA hws hX hK r5 s5 hcV
          go_wp2_with fail
          refine (no_nil _).mono ?_
          rintro e w' ⟨rfl, rfl⟩
          go_wp2_with fail
          go_quiet (fail)
          go_wp2_with fail
          go_roundw
          case rel => exact ⟨k + 1, g + 1, _, ws5, st5, L, Y5, by omega, by go_num, B5.out.same ((Keeps.refl (fun _ => False) v3).drewN nq), A5.out, by omega, by omega, L5.out, by omega, R5.out.keeps ((Keeps.refl (fun _ => False) v3).drewN nq) (fun _ h => h.elim), S5.out.keeps ((Keeps.refl (fun _ => False) v3).drewN nq) (fun _ h => h.elim), Y5'.out, K5.out.drewN nq⟩
          case measure => simp [intOf]; omega
        | false =>
          go_wp2_with (first
            | (at_builtin; refine wpList_append_mine _ rfl _ _ 29 rfl 30 i0 (.int .u64 0) 8 Tryd.underlying29 hI.out.1 hI.out.2.1 hI.out.2.2.1 hI.out.2.2.2 rfl u7 L.length (refsOf L) rfl oA.out ⟨w3.heap.size, 0, none⟩ 1 (.int .u64 (B.ref : Int)) rfl (cell_one _ _ _) rfl (by unfold maxLen; omega) (by omega) ?_; intro g1 cap1 V1 hO hG hloc; have T4 := Lib.hid (two_rows R3.out S3.out (by decide) hsz3 B3.out.old _ (refsOf_len L) hO hG hloc); have oB := Lib.hid (own_at T4.out.2.1 (sizesOf_len L) (.cells #[.int .i64 (n : Int)] 3)); clear hO hG hloc)
            | (at_builtin; refine wpList_append_mine _ rfl _ _ 22 rfl 3 i1 (.int .i64 0) 8 Tryd.underlying22 hJ.out.1 hJ.out.2.1 hJ.out.2.2.1 hJ.out.2.2.2 rfl u8 L.length (sizesOf L) rfl oB.out ⟨V1.heap.size, 0, none⟩ 1 (.int .i64 (n : Int)) rfl (cell_one _ _ _) rfl (by unfold maxLen; omega) (by omega) ?_; intro g2 cap3 V2 hO hG hloc; have T5 := Lib.hid (two_rows T4.out.2.1 T4.out.1 (by decide) (Nat.le_trans hsz3 T4.out.2.2.size) (fun x hx => Nat.lt_of_lt_of_le (B3.out.old x hx) T4.out.2.2.size) _ (sizesOf_len L) hO hG hloc); have KV := Lib.hid (show Keeps (fun _ => False) w V2 from (K3.out.trans T4.out.2.2 fun x hx h => absurd h.2 (by omega)).trans T5.out.2.2 fun x hx h => absurd h.2 (by omega)); have BV := Lib.hid ((B3.out.keeps T4.out.2.2 fun x hx h => h.1 hx).keeps T5.out.2.2 fun x hx h => h.1 hx); have hcV := (KV.out.cell (p := ⟨cb2, off2 + k, none⟩) (cell_lt hc2) id).trans hc2; clear hO hG hloc))
          go_roundw
          case rel => exact ⟨k + 1, g, _, ws3, st3, L ++ [B], Y, by omega, by go_num, BV.out, A3.out, by omega, by rw [List.length_append, List.length_singleton]; omega, L3.out, by omega, by rw [← refsOf_snoc]; exact T5.out.2.1, by rw [← sizesOf_snoc, N3.out]; exact T5.out.1, Y2.out, KV.out⟩
          case measure => simp [intOf]; omega
      · have hf' : ¬ (k : Int) < (len2 : Int) := by omega
        go_wp2_with (first
          | (at_builtin; refine wpList_append_mine _ rfl _ _ 29 rfl 30 i0 (.int .u64 0) 8 Tryd.underlying29 hI.out.1 hI.out.2.1 hI.out.2.2.1 hI.out.2.2.2 rfl u7 L.length (refsOf L) rfl oA.out ⟨w3.heap.size, 0, none⟩ 1 (.int .u64 (B.ref : Int)) rfl (cell_one _ _ _) rfl (by unfold maxLen; omega) (by omega) ?_; intro g1 cap1 V1 hO hG hloc; have T4 := Lib.hid (two_rows R3.out S3.out (by decide) hsz3 B3.out.old _ (refsOf_len L) hO hG hloc); have oB := Lib.hid (own_at T4.out.2.1 (sizesOf_len L) (.cells #[.int .i64 (n : Int)] 3)); clear hO hG hloc)
          | (at_builtin; refine wpList_append_mine _ rfl _ _ 22 rfl 3 i1 (.int .i64 0) 8 Tryd.underlying22 hJ.out.1 hJ.out.2.1 hJ.out.2.2.1 hJ.out.2.2.2 rfl u8 L.length (sizesOf L) rfl oB.out ⟨V1.heap.size, 0, none⟩ 1 (.int .i64 (n : Int)) rfl (cell_one _ _ _) rfl (by unfold maxLen; omega) (by omega) ?_; intro g2 cap3 V2 hO hG hloc; have T5 := Lib.hid (two_rows T4.out.2.1 T4.out.1 (by decide) (Nat.le_trans hsz3 T4.out.2.2.size) (fun x hx => Nat.lt_of_lt_of_le (B3.out.old x hx) T4.out.2.2.size) _ (sizesOf_len L) hO hG hloc); have KV := Lib.hid (show Keeps (fun _ => False) w V2 from (K3.out.trans T4.out.2.2 fun x hx h => absurd h.2 (by omega)).trans T5.out.2.2 fun x hx h => absurd h.2 (by omega)); have BV := Lib.hid ((B3.out.keeps T4.out.2.2 fun x hx h => h.1 hx).keeps T5.out.2.2 fun x hx h => h.1 hx); clear hO hG hloc))
        go_roundw
        case rel => exact ⟨k + 1, g, _, ws3, st3, L ++ [B], Y, by omega, by go_num, BV.out, A3.out, by omega, by rw [List.length_append, List.length_singleton]; omega, L3.out, by omega, by rw [← refsOf_snoc]; exact T5.out.2.1, by rw [← sizesOf_snoc, N3.out]; exact T5.out.1, Y2.out, KV.out⟩
        case measure => simp [intOf]; omega
    · have hL30 : L.length ≤ 30 := by omega
      obtain ⟨o, c, hv, ho⟩ := R2.out.shape
      obtain ⟨o', c', hv', ho'⟩ := S2.out.shape
      rw [refsOf_len] at hv ho
      rw [sizesOf_len] at hv' ho'
      subst hv hv'
      have rowR := Lib.hid ho
      have rowS := Lib.hid ho'
      clear ho ho' hl' hm2
      go_wp2_with fail
      obtain ⟨wo, rfl⟩ : ∃ wo : World, wo = wr := ⟨_, rfl⟩
      go_loopw [94] (fun i w2 => ∃ (q cn : Nat) (wv : List Int), q ≤ L.length ∧ i = .int .i64 q ∧ Bk w2 b wv cn st Y ∧ wv.length = 600 ∧ Filled wv L q 0 ∧ cn ≤ 600 + 10 * q ∧ Keeps Y wo w2) (fun i _ => L.length - (intOf i).toNat)
      case atStart => exact ⟨0, cnt, ws, by omega, rfl, B2.out, L2.out, Filled.start _ _, by omega, Keeps.refl _ _⟩
      case round =>
        obtain ⟨q, cn, wv, hq, rfl, hB, hwl, hF, hcn, hK⟩ := hrel
        have B6 := Lib.hid hB
        have L6 := Lib.hid hwl
        have F6 := Lib.hid hF
        have K6 := Lib.hid hK
        clear hB hwl hF hK
        by_cases hqL : q < L.length
        · obtain ⟨gr, rfl⟩ := rowR.out (by omega)
          obtain ⟨gs, rfl⟩ := rowS.out (by omega)
          obtain ⟨B, hB⟩ : ∃ B, L[q]? = some B := ⟨L[q], List.getElem?_eq_getElem hqL⟩
          have hBm := List.mem_of_getElem? hB
          have hsz8 : B.size ≤ 8 := (A2.out.mem B hBm).2.2
          have cr := ((R2.out.keeps K6.out fun x hx => .inl hx).at_ q (by rw [refsOf_len]; exact hqL)).trans (show (refsOf L)[q]? = some (.int .u64 (B.ref : Int)) by simp [refsOf, hB])
          have hB' := Lib.hid hB
          have hBm' := Lib.hid hBm
          clear hB hBm
          go_wp2_with fail
          clear cr
          obtain ⟨wp, rfl⟩ : ∃ wp : World, wp = wr := ⟨_, rfl⟩
          go_loopw [15] (fun i w3 => ∃ (j cn3 : Nat) (wx : List Int), j ≤ B.size ∧ i = .int .i64 j ∧ Bk w3 b wx cn3 st Y ∧ wx.length = 600 ∧ Filled wx L q j ∧ cn3 ≤ 600 + 10 * q + j ∧ Keeps Y wo w3) (fun i _ => B.size - (intOf i).toNat)
          case atStart => exact ⟨0, cn, wv, by omega, rfl, B6.out, L6.out, F6.out, by omega, K6.out⟩
          case round =>
            obtain ⟨j, cn3, wx, hj, rfl, hB, hwl, hF, hcn3, hK⟩ := hrel
            have B7 := Lib.hid hB
            have L7 := Lib.hid hwl
            have F7 := Lib.hid hF
            have K7 := Lib.hid hK
            have cz := ((S2.out.keeps hK fun x hx => .inl hx).at_ q (by rw [sizesOf_len]; exact hqL)).trans (show (sizesOf L)[q]? = some (.int .i64 (B.size : Int)) by simp [sizesOf, hB'.out])
            clear hB hwl hF hK
            by_cases hjs : j < B.size
            · go_wp2_with fail
              refine (apart_store B7.out A2.out hBm'.out hjs (by omega) (by omega) (100 * (q : Int) + j + 1)).mono ?_
              rintro e v3 ⟨rfl, hB, hK⟩
              have B8 := Lib.hid hB
              have K8 := Lib.hid (K7.out.trans_ hK)
              clear hB hK cz
              go_wp2_with fail
              refine (no_nil _).mono ?_
              rintro e w' ⟨rfl, rfl⟩
              go_wp2_with fail
              go_roundw
              case rel => exact ⟨j + 1, _, _, by omega, by go_num, B8.out, (List.length_set ..).trans L7.out, F7.out.step A2.out B7.out.ok.1 rfl hB'.out hjs _ rfl, by omega, K8.out⟩
              case measure => simp [intOf]; omega
            · obtain rfl : j = B.size := by omega
              go_wp2_with fail
              clear cz
              go_roundw
              case rel => exact ⟨q + 1, cn3, wx, by omega, by go_num, B7.out, L7.out, F7.out.row hB'.out, by omega, K7.out⟩
              case measure => simp [intOf]; omega
        · obtain rfl : q = L.length := by omega
          go_wp2_with fail
          obtain ⟨wq, rfl⟩ : ∃ wq : World, wq = wr := ⟨_, rfl⟩
          go_loopw [122] (fun i w2 => ∃ (q cn : Nat), q ≤ L.length ∧ i = .int .i64 q ∧ Bk w2 b wv cn st Y ∧ cn ≤ 1000 + 10 * q ∧ Keeps Y wo w2) (fun i _ => L.length - (intOf i).toNat)
          case atStart => exact ⟨0, cn, by omega, rfl, B6.out, by omega, K6.out⟩
          case round =>
            obtain ⟨q, cn, hq, rfl, hB, hcn, hK⟩ := hrel
            have B9 := Lib.hid hB
            have K9 := Lib.hid hK
            clear hB hK
            by_cases hqL : q < L.length
            · obtain ⟨gr, rfl⟩ := rowR.out (by omega)
              obtain ⟨gs, rfl⟩ := rowS.out (by omega)
              obtain ⟨B, hB⟩ : ∃ B, L[q]? = some B := ⟨L[q], List.getElem?_eq_getElem hqL⟩
              have hBm := List.mem_of_getElem? hB
              have hsz8 : B.size ≤ 8 := (A2.out.mem B hBm).2.2
              have cr := ((R2.out.keeps K9.out fun x hx => .inl hx).at_ q (by rw [refsOf_len]; exact hqL)).trans (show (refsOf L)[q]? = some (.int .u64 (B.ref : Int)) by simp [refsOf, hB])
              have hB' := Lib.hid hB
              have hBm' := Lib.hid hBm
              clear hB hBm
              go_wp2_with fail
              clear cr
              obtain ⟨wt, rfl⟩ : ∃ wt : World, wt = wr := ⟨_, rfl⟩
              go_loopw [18] (fun i w3 => ∃ (j cn3 : Nat), j ≤ B.size ∧ i = .int .i64 j ∧ Bk w3 b wv cn3 st Y ∧ cn3 ≤ 1000 + 10 * q + j ∧ Keeps Y wo w3) (fun i _ => B.size - (intOf i).toNat)
              case atStart => exact ⟨0, cn, by omega, rfl, B9.out, by omega, K9.out⟩
              case round =>
                obtain ⟨j, cn3, hj, rfl, hB, hcn3, hK⟩ := hrel
                have B10 := Lib.hid hB
                have K10 := Lib.hid hK
                have cz := ((S2.out.keeps hK fun x hx => .inl hx).at_ q (by rw [sizesOf_len]; exact hqL)).trans (show (sizesOf L)[q]? = some (.int .i64 (B.size : Int)) by simp [sizesOf, hB'.out])
                clear hB hK
                by_cases hjs : j < B.size
                · have cl := apart_load B10.out A2.out hBm'.out hjs (by omega) (by omega)
                  rw [F6.out q B hB'.out j hjs (.inl hqL)] at cl
                  have cl' := Lib.hid cl
                  clear cl
                  go_wp2_with fail
                  refine cl'.out.mono ?_
                  rintro e v3 ⟨rfl, hB, hK⟩
                  have B11 := Lib.hid hB
                  have K11 := Lib.hid (K10.out.trans_ hK)
                  clear hB hK cz
                  go_wp2_with fail
                  refine (no_nil _).mono ?_
                  rintro e w' ⟨rfl, rfl⟩
                  go_wp2_with fail
                  go_roundw
                  case rel => exact ⟨j + 1, _, by omega, by go_num, B11.out, by omega, K11.out⟩
                  case measure => simp [intOf]; omega
                · obtain rfl : j = B.size := by omega
                  go_wp2_with fail
                  clear cz
                  go_roundw
                  case rel => exact ⟨q + 1, cn3, by omega, by go_num, B10.out, by omega, K10.out⟩
                  case measure => simp [intOf]; omega
            · obtain rfl : q = L.length := by omega
              have hKw := Lib.hid (K2.out.trans K9.out fun x hx h => absurd (Y2.out x h) (by omega))
              have hll : (refVals (liveRefs st.bs)).length = L.length := by rw [refVals_len, liveRefs_len, A2.out.len]
              have hll' := Lib.hid hll
              have cl' := Lib.hid (live_bk keysSaid sortedSaid wr B9.out)
              clear hll
              go_wp2_with fail
              refine cl'.out.mono ?_
              rintro e v1 ⟨lvv, he, hM, hK⟩
              obtain ⟨lo, lc, hlv, _⟩ := hM.shape
              rw [hll'.out] at hlv
              rw [hlv] at he
              subst he
              clear hlv
              have K12 := Lib.hid (hKw.out.trans_ hK)
              clear hM hK
              go_wp2_with fail
              refine (alive2 _ (g0.out.keeps K12.out id)).mono ?_
              rintro e v3 ⟨rfl, hK⟩
              have K13 := Lib.hid (K12.out.trans_ hK)
              clear hK
              go_wp2_with fail
              go_ret
              exact ⟨rfl, K13.out.below (Nat.le_refl _) fun _ _ => id⟩
end Go.Proofs.YtaamenhfngjobaaDoor
