/-
  concordlaw02.BlocksStale, walked: it returns true, and nothing that was there has changed.
-/
import Derived.Test.YtaamenhfngjobaaDoorBkStale
namespace Go.Proofs.YtaamenhfngjobaaDoor
open Go.RowKit Go.Extern.Stop Go.Stop Go.Extern

theorem tmod_bd (a : Int) (m : Int) (hm : 0 < m) : -m < a.tmod m ∧ a.tmod m < m := by
  have h1 := Int.tmod_lt_of_pos a hm
  have h2 := Int.tmod_lt_of_pos (-a) hm
  rw [Int.neg_tmod] at h2
  omega

theorem ref_cell {w0 w : World} {X : Nat → Prop} {g k c : Nat} (h : Mine w0 w X 30 (.slice (some ⟨g, 0, none⟩) k c) (staleRefs k)) (j : Nat) (hj : j < k) : w.cell? ⟨g, j, none⟩ = some (.int .u64 ((j : Int) * 4294967296 + 3)) := by
  have h1 := h.1
  rw [staleRefs_len] at h1
  exact (h1.cellAt j (by omega)).trans (staleRefs_at k j hj)

theorem stale_grown {w v2 V : World} {Y : Nat → Prop} {o : Option Addr} {k c g cap : Nat} (hM : Mine w v2 Y 30 (.slice o k c) (staleRefs k)) (hw : w.heap.size ≤ v2.heap.size) (hY : ∀ x, Y x → x < v2.heap.size) (ob : Obj)
    (hO : V.ownsRow 0 30 1 (.slice (some ⟨g, 0, none⟩) (k + 1) cap) (k + 1) (staleRefs k ++ [.int .u64 ((k : Int) * 4294967296 + 3)])) (hG : (v2.alloc ob).grownBy V (Value.slice o k c).ownBlock) (hl : (Value.slice o k c).ownBlock = some g ∨ g = (v2.alloc ob).heap.size) :
    Mine w V Y 30 (.slice (some ⟨g, 0, none⟩) (k + 1) cap) (staleRefs (k + 1)) ∧ Keeps (fun x => ¬ Y x ∧ w.heap.size ≤ x) v2 V := by
  have h := hM.grown (w1 := v2.alloc ob) (y := .int .u64 ((k : Int) * 4294967296 + 3)) (g := g) (cap := cap) hw hY ((Keeps.refl (fun _ => False) v2).alloc ob) (by rw [staleRefs_len]; exact hO) hG hl
  rw [staleRefs_succ, staleRefs_len] at h
  exact ⟨h.1, h.2.mono fun x _ hx => hM.2 x hx⟩

set_option maxRecDepth 100000 in
set_option maxHeartbeats 1000000 in
theorem blocksStale_walk (a t : Int) (w : World) (_w0 : (Lit.int .i64 a).wf = true) (_w1 : (Lit.int .i64 t).wf = true) (hg : Glob w) :
    Calls Tryd.prog 4 #[.int .i64 a, .int .i64 t] w fun e w' => e = .returned (.bool true) ∧ Below w.heap.size w w' := by
  obtain ⟨b1, b2⟩ := tmod_bd a 8 (by decide)
  obtain ⟨b3, b4⟩ := tmod_bd t 30 (by decide)
  have g0 := Lib.hid hg
  clear hg _w0 _w1
  go_enter Tryd.func4, Tryd.ntmps4
  go_wp2_with fail
  refine (on_1003 _).mono ?_
  rintro e w1 ⟨p, b, X, rfl, hB, hX, hK⟩
  have B1 := Lib.hid hB
  have X1 := Lib.hid hX
  have K1 := Lib.hid hK
  clear hB hX hK
  go_wp2_with fail
  obtain ⟨n, hn, hn1, hn8⟩ : ∃ n : Nat, 1 + a.tmod 8 % 8 = (n : Int) ∧ 1 ≤ n ∧ n ≤ 8 := ⟨(1 + a.tmod 8 % 8).toNat, by omega, by omega, by omega⟩
  obtain ⟨m, hm, hm1, hm30⟩ : ∃ m : Nat, 1 + t.tmod 30 % 30 = (m : Int) ∧ 1 ≤ m ∧ m ≤ 30 := ⟨(1 + t.tmod 30 % 30).toNat, by omega, by omega, by omega⟩
  rw [hn, hm]
  clear hn hm b1 b2 b3 b4
  generalize (a.tmod 8 + 8) % 8 = q28
  generalize a.tmod 8 + 8 = q27
  generalize a.tmod 8 = q26
  generalize (t.tmod 30 + 30) % 30 = q33
  generalize t.tmod 30 + 30 = q32
  generalize t.tmod 30 = q31
  obtain ⟨i0, hi, hz0, hz1, hz2⟩ := info_parts info_word
  have hI := Lib.hid (show Tryd.prog.info? 30 = some i0 ∧ i0.zero = some (.int .u64 0) ∧ i0.size = 1 ∧ i0.bytes = 8 from ⟨hi, hz0, hz1, hz2⟩)
  clear hi hz0 hz1 hz2
  go_loopw [7, 8] (fun old i wr => ∃ (k cnt : Nat) (ws : List Int) (st : St) (Y : Nat → Prop), k ≤ m ∧ i = .int .i64 k ∧ Bk wr b ws cnt st Y ∧ Idle n k st ∧ (k = 0 → ws.length = 100) ∧ cnt ≤ 20 * k ∧ Mine w wr Y 30 old (staleRefs k) ∧ (∀ x, Y x → w.heap.size ≤ x) ∧ Keeps (fun _ => False) w wr) (fun _ i _ => m - (intOf i).toNat)
  case atStart => exact ⟨0, 0, _, _, X, by omega, rfl, B1.out, .inl ⟨rfl, rfl⟩, fun _ => List.length_replicate .., by omega, Mine.nothing _ _ _ _, X1.out, K1.out⟩
  case round =>
    obtain ⟨k, cnt, ws, st, Y, hk, rfl, hB, hst, hws, hcnt, hM, hY, hK⟩ := hrel
    have B2 := Lib.hid hB
    have S2 := Lib.hid hst
    have L2 := Lib.hid hws
    have Y2 := Lib.hid hY
    have K2 := Lib.hid hK
    obtain ⟨o, c, hv, ho⟩ := hM.shape
    rw [staleRefs_len] at hv ho
    subst hv
    have M2 := Lib.hid hM
    have o2 := Lib.hid ho
    clear hB hst hws hM hY hK ho
    by_cases hlt : k < m
    · have hk30 : k < 30 := by omega
      go_wp2_with fail
      refine (stale_alloc B2.out S2.out ⟨hn1, hn8⟩ hk30 L2.out (by omega)).mono ?_
      rintro e w3 ⟨rfl, ⟨ws3, st3, hB, hst, h0⟩, hK⟩
      have B3 := Lib.hid hB
      have S3 := Lib.hid hst
      have Z3 := Lib.hid h0
      have K3 := Lib.hid hK
      have M3 := Lib.hid (M2.out.keeps hK fun x hx => .inl hx)
      clear hB hst h0 hK
      go_wp2_with (go_at_call 10; refine (no_nil _).mono ?_; rintro e w' ⟨rfl, rfl⟩)
      go_loopw [59] (fun q wi => ∃ j : Nat, j ≤ k ∧ q = .int .i64 j ∧ Keeps (fun _ => False) w3 wi) (fun q _ => k - (intOf q).toNat)
      case atStart => exact ⟨0, by omega, rfl, Keeps.refl _ _⟩
      case round =>
        obtain ⟨j, hj, rfl, hK⟩ := hrel
        have K4 := Lib.hid hK
        clear hK
        by_cases hjk : j < k
        · obtain ⟨g, rfl⟩ := o2.out (by omega)
          have hc0 := ref_cell (M3.out.keeps K4.out fun _ h => h.elim) j hjk
          have B4 := Lib.hid (B3.out.same K4.out)
          go_wp2_with fail
          refine (stale_load B4.out S3.out hjk hk30).mono ?_
          rintro e v1 ⟨p1, rfl, hW, hK⟩
          have W1 := Lib.hid hW
          have B5 := Lib.hid (B4.out.same hK)
          have K5 := Lib.hid (K4.out.trans_ hK)
          clear hW hK hc0
          go_wp2_with fail
          refine (stale_cas B5.out S3.out hjk hk30).mono ?_
          rintro e v2 ⟨p2, rfl, hW, hK⟩
          have W2 := Lib.hid hW
          have W1' := Lib.hid (W1.out.keeps hK id)
          have B6 := Lib.hid (B5.out.same hK)
          have K6 := Lib.hid (K5.out.trans_ hK)
          clear hW hK
          go_wp2_with fail
          refine (no_fault5 p1 _ W1'.out).mono ?_
          rintro e w' ⟨rfl, rfl⟩
          go_wp2_with fail
          refine (no_fault5 p2 _ W2.out).mono ?_
          rintro e w' ⟨rfl, rfl⟩
          go_wp2_with fail
          refine (stale_store B6.out S3.out hjk hk30).mono ?_
          rintro e v3 ⟨p3, rfl, hW, hK⟩
          have W3 := Lib.hid hW
          have B7 := Lib.hid (B6.out.same hK)
          have K7 := Lib.hid (K6.out.trans_ hK)
          clear hW hK
          go_wp2_with fail
          refine (no_fault5 p3 _ W3.out).mono ?_
          rintro e w' ⟨rfl, rfl⟩
          go_wp2_with fail
          refine (stale_free B7.out S3.out hjk hk30).mono ?_
          rintro e v4 ⟨rfl, hK⟩
          have K8 := Lib.hid (K7.out.trans_ hK)
          clear hK
          go_wp2_with fail
          refine (no_five _).mono ?_
          rintro e w' ⟨rfl, rfl⟩
          go_wp2_with fail
          go_roundw
          case rel => exact ⟨j + 1, by omega, by go_num, K8.out⟩
          case measure => simp [intOf]; omega
        · obtain rfl : k = j := by omega
          have B4 := Lib.hid (B3.out.same K4.out)
          go_wp2_with fail
          refine (good_load B4.out S3.out hn1 hk30 Z3.out (by omega)).mono ?_
          rintro e v1 ⟨rfl, hB, hK⟩
          have B5 := Lib.hid hB
          have K5 := Lib.hid hK
          have M5 := Lib.hid ((M3.out.keeps K4.out fun _ h => h.elim).keeps hK fun x hx => .inl hx)
          clear hB hK
          go_wp2_with fail
          refine (no_nil _).mono ?_
          rintro e w' ⟨rfl, rfl⟩
          go_wp2_with fail
          refine (good_free B5.out S3.out hk30 (by omega)).mono ?_
          rintro e v2 ⟨rfl, ⟨st6, Y6, ws6, hB, hst, _, hX6⟩, hK⟩
          have B6 := Lib.hid hB
          have S6 := Lib.hid hst
          have X6 := Lib.hid hX6
          have K6 := Lib.hid hK
          have M6 := Lib.hid (M5.out.next hK hX6)
          clear hB hst hX6 hK
          go_wp2_with fail
          refine (no_nil _).mono ?_
          rintro e w' ⟨rfl, rfl⟩
          have hown := M6.out.1
          rw [staleRefs_len] at hown
          have hownA := Lib.hid (ownsRow_keeps hown ((Keeps.refl (fun _ => False) v2).alloc (.cells #[.int .u64 ((k : Int) * 4294967296 + 3)] 30)) fun _ _ => id)
          clear hown
          go_wp2_with (first | (at_builtin; refine wpList_append_mine _ rfl _ _ 29 rfl 30 i0 (.int .u64 0) 8 Tryd.underlying29 hI.out.1 hI.out.2.1 hI.out.2.2.1 hI.out.2.2.2 rfl (.slice o k c) k (staleRefs k) rfl hownA.out ⟨v2.heap.size, 0, none⟩ 1 (.int .u64 ((k : Int) * 4294967296 + 3)) rfl (cell_one _ _ _) rfl (by unfold maxLen; omega) (by omega) ?_; intro g cap V hO hG hloc; have O7 := Lib.hid hO; have G7 := Lib.hid hG; have l7 := Lib.hid hloc; clear hO hG hloc))
          have hsz : w.heap.size ≤ v2.heap.size := by
            have e1 := K2.out.size
            have e2 := K3.out.size
            have e3 := K4.out.size
            have e4 := K5.out.size
            have e5 := K6.out.size
            omega
          obtain ⟨hM8, hK8⟩ := stale_grown M6.out hsz B6.out.old _ O7.out G7.out l7.out
          have M8 := Lib.hid hM8
          have K8 := Lib.hid hK8
          clear hM8 hK8 hsz
          go_roundw
          case rel =>
            refine ⟨k + 1, _, ws6, st6, Y6, by omega, by go_num, B6.out.keeps K8.out (fun x hx h => h.1 hx), S6.out, fun h => absurd h (by omega), by omega, M8.out, fun x hx => ?_, ?_⟩
            · rcases X6.out x hx with h | h
              · exact Y2.out x h
              · have e1 := K2.out.size
                have e2 := K3.out.size
                have e3 := K4.out.size
                have e4 := K5.out.size
                omega
            · have e1 := K2.out.trans K3.out fun x hx h => absurd (Y2.out x h) (by omega)
              have e2 := e1.trans_ K4.out
              have e3 := e2.trans K5.out fun x hx h => absurd (Y2.out x h) (by omega)
              have e4 := e3.trans K6.out fun x hx h => absurd (Y2.out x h) (by omega)
              exact e4.trans K8.out fun x hx h => absurd h.2 (by omega)
          case measure => simp [intOf]; omega
    · obtain rfl : m = k := by omega
      have ht : st.top = 4 + n := by
        rcases S2.out with ⟨h, _⟩ | ⟨_, _, _, h⟩
        · omega
        · exact h
      have cu := used_bk _ B2.out
      rw [idle_used S2.out] at cu
      have cu' := Lib.hid cu
      have ht' := Lib.hid ht
      clear cu ht
      go_wp2_with fail
      refine cu'.out.mono ?_
      rintro e v1 ⟨rfl, hK⟩
      have ct := top_bk v1 (B2.out.same hK)
      rw [ht'.out, show ((4 + n : Nat) : Int) = 3 + (n : Int) + 1 by omega] at ct
      have ct' := Lib.hid ct
      have K5 := Lib.hid (K2.out.trans_ hK)
      clear ct hK
      go_wp2_with fail
      refine ct'.out.mono ?_
      rintro e w' ⟨rfl, rfl⟩
      go_wp2_with fail
      refine (alive2 _ (g0.out.keeps K5.out id)).mono ?_
      rintro e v3 ⟨rfl, hK⟩
      have K6 := Lib.hid (K5.out.trans_ hK)
      clear hK
      go_wp2_with fail
      go_ret
      exact ⟨rfl, K6.out.below (Nat.le_refl _) fun _ _ => id⟩
end Go.Proofs.YtaamenhfngjobaaDoor
