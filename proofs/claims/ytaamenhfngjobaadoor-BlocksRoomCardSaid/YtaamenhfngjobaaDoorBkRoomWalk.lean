/-
  concordlaw02.BlocksRoom, walked: it returns true, and nothing that was there has changed.
-/
import Derived.Test.YtaamenhfngjobaaDoorBkRoom
import Derived.Test.YtaamenhfngjobaaDoorBkStaleWalk
import Derived.Test.YtaamenhfngjobaaDoorBkArgs
namespace Go.Proofs.YtaamenhfngjobaaDoor
open Go.RowKit Go.Extern.Stop Go.Stop Go.Extern

theorem on_700 (w : World) : Calls Tryd.prog 7 #[.int .i64 700, .int .i64 0] w fun e w' => OnIt w 700 0 e w' := on_bk 700 0 (by decide) (by decide) (by decide) w

set_option maxRecDepth 100000 in
theorem room_many (z : Int) (a : Option Addr) (len cap : Nat) (hl : 60 < len) (hm : len ≤ maxLen) (w : World) (hg : Glob w) :
    Calls Tryd.prog 5 #[.int .i64 z, .slice a len cap] w fun e w' => e = .returned (.bool true) ∧ Below w.heap.size w w' := by
  unfold maxLen at hm
  have hl' : (60 : Int) < len := by omega
  have g0 := Lib.hid hg
  clear hg
  go_enter Tryd.func5, Tryd.ntmps5
  go_wp2_with fail
  refine (on_700 _).mono ?_
  rintro e w1 ⟨p, b, X, rfl, hB, hX, hK⟩
  have K1 := Lib.hid hK
  clear hB hX hK
  go_wp2_with fail
  refine (alive2 _ (g0.out.keeps K1.out id)).mono ?_
  rintro e v3 ⟨rfl, hK⟩
  have K6 := Lib.hid (K1.out.trans_ hK)
  clear hK
  go_wp2_with fail
  go_ret
  exact ⟨rfl, K6.out.below (Nat.le_refl _) fun _ _ => id⟩

set_option maxRecDepth 100000 in
set_option maxHeartbeats 1000000 in
theorem room_all (z : Int) (a : Option Addr) (len cap : Nat) (hl : len ≤ 60) (w : World) (hin : Flags w a len) (hg : Glob w) :
    Calls Tryd.prog 5 #[.int .i64 z, .slice a len cap] w fun e w' => e = .returned (.bool true) ∧ Below w.heap.size w w' := by
  obtain ⟨b1, b2⟩ := tmod_bd z 8 (by decide)
  have hl' : ¬ (60 : Int) < len := by omega
  have g0 := Lib.hid hg
  have in0 := Lib.hid hin
  clear hg hin
  go_enter Tryd.func5, Tryd.ntmps5
  go_wp2_with fail
  refine (on_700 _).mono ?_
  rintro e w1 ⟨p, b, X, rfl, hB, hX, hK⟩
  have B1 := Lib.hid hB
  have X1 := Lib.hid hX
  have K1 := Lib.hid hK
  clear hB hX hK
  go_wp2_with fail
  obtain ⟨n, hn, hn1, hn8⟩ : ∃ n : Nat, 1 + z.tmod 8 % 8 = (n : Int) ∧ 1 ≤ n ∧ n ≤ 8 := ⟨(1 + z.tmod 8 % 8).toNat, by omega, by omega, by omega⟩
  rw [hn]
  clear hn b1 b2
  generalize (z.tmod 8 + 8) % 8 = q28
  generalize z.tmod 8 + 8 = q27
  generalize z.tmod 8 = q26
  obtain ⟨i0, hi, hz0, hz1, hz2⟩ := info_parts info_word
  have hI := Lib.hid (show Tryd.prog.info? 30 = some i0 ∧ i0.zero = some (.int .u64 0) ∧ i0.size = 1 ∧ i0.bytes = 8 from ⟨hi, hz0, hz1, hz2⟩)
  clear hi hz0 hz1 hz2
  go_loopw [7, 8, 36] (fun mo old i wr => ∃ (k cnt : Nat) (ws : List Int) (st : St) (refs : List Nat) (Y : Nat → Prop), k ≤ len ∧ i = .int .i64 k ∧ mo = .int .i64 (st.bs.length : Nat) ∧ Bk wr b ws cnt st Y ∧ Rooms n k st refs ∧ ws.length = 700 ∧ cnt ≤ 20 * k ∧ Queue w wr Y 30 old (refVals refs) ∧ (∀ x, Y x → w.heap.size ≤ x) ∧ Keeps (fun _ => False) w wr) (fun _ _ i _ => len - (intOf i).toNat)
  case atStart => exact ⟨0, 0, _, _, [], X, by omega, rfl, rfl, B1.out, Rooms.start n, List.length_replicate .., by omega, Queue.nothing _ _ _ _, X1.out, K1.out⟩
  case round =>
    obtain ⟨k, cnt, ws, st, refs, Y, hk, rfl, rfl, hB, hR, hws, hcnt, hQ, hY, hK⟩ := hrel
    have B2 := Lib.hid hB
    have R2 := Lib.hid hR
    have L2 := Lib.hid hws
    have Q2 := Lib.hid hQ
    have Y2 := Lib.hid hY
    have K2 := Lib.hid hK
    clear hB hR hws hQ hY hK
    by_cases hlt : k < len
    · have hk60 : k < 60 := by omega
      have hrl : refs.length ≤ 60 := by
        have h1 := R2.out.len
        have h2 := R2.out.count
        have h3 := R2.out.few
        omega
      have hbl : st.bs.length ≤ 60 := by have := R2.out.few; omega
      have hsz : w.heap.size ≤ wr.heap.size := K2.out.size
      obtain ⟨cb, off, fv, rfl, hc, c, rfl⟩ := (in0.out.keeps K2.out fun _ _ => id).at_ k hlt
      cases c with
      | true =>
        go_wp2_with fail
        refine (room_alloc B2.out R2.out ⟨hn1, hn8⟩ hk60 L2.out (by omega)).mono ?_
        rintro e w3 ⟨r, ws3, st3, rfl, hB, hR, hws, hlen, hK⟩
        have B3 := Lib.hid hB
        have R3 := Lib.hid hR
        have L3 := Lib.hid hws
        have N3 := Lib.hid hlen
        have K3 := Lib.hid (K2.out.trans hK fun x hx h => absurd (Y2.out x h) (by omega))
        have Q3 := Lib.hid ((Q2.out.keeps hK fun x hx => .inl hx).keeps ((Keeps.refl (fun _ => False) w3).alloc (.cells #[.int .u64 (r : Int)] 30)) fun _ h => h.elim)
        have hsz3 : w.heap.size ≤ (w3.alloc (.cells #[.int .u64 (r : Int)] 30)).heap.size := by
          have := hK.size
          simp
          omega
        clear hB hR hws hlen hK
        go_wp2_with fail
        refine (no_nil _).mono ?_
        rintro e w' ⟨rfl, rfl⟩
        go_wp2_with (first | (at_builtin; refine wpList_append_queue _ rfl _ _ 29 rfl 30 i0 (.int .u64 0) 8 Tryd.underlying29 hI.out.1 hI.out.2.1 hI.out.2.2.1 hI.out.2.2.2 rfl u8 (refVals refs) refs.length (refVals_len refs) rfl w Y Q3.out hsz3 (B3.out.alloc _).old ⟨w3.heap.size, 0, none⟩ 1 (.int .u64 (r : Int)) rfl (cell_one _ _ _) rfl (by unfold maxLen; omega) (by omega) ?_; intro q cp V hQ hK; have Q4 := Lib.hid hQ; have K4 := Lib.hid hK; clear hQ hK))
        go_roundw
        case rel =>
          refine ⟨k + 1, _, ws3, st3, refs ++ [r], Y, by omega, by go_num, ?_, (B3.out.alloc _).keeps K4.out (fun x hx h => h.1 hx), R3.out, L3.out, by omega, by rw [← refVals_snoc]; exact Q4.out, Y2.out, ?_⟩
          · rw [N3.out]
            congr 1
            split <;> omega
          · exact (K3.out.alloc _).trans K4.out fun x hx h => absurd h.2 (by omega)
        case measure => simp [intOf]; omega
      | false =>
        cases refs with
        | nil =>
          obtain ⟨o, cp, hv⟩ := Q2.out.shape
          simp only [refVals, List.map_nil, List.length_nil] at hv
          subst hv
          go_wp2_with fail
          go_roundw
          case rel => exact ⟨k + 1, cnt, ws, st, [], Y, by omega, by go_num, rfl, B2.out, R2.out.later, L2.out, by omega, Q2.out, Y2.out, K2.out⟩
          case measure => simp [intOf]; omega
        | cons r rs =>
          obtain ⟨g, o, cp, hv, hc1, hc2, hcell, hq⟩ := (show Queue w wr Y 30 u8 (.int .u64 (r : Int) :: refVals rs) from Q2.out).head
          rw [refVals_len] at hv hc1 hq
          subst hv
          unfold maxLen at hc2
          have hrs : rs.length + 1 ≤ 60 := hrl
          have q2 := Lib.hid hq
          clear hq
          go_wp2_with fail
          refine (room_free B2.out R2.out hk60 L2.out (by omega)).mono ?_
          rintro e w3 ⟨ws3, st3, Y3, rfl, hB, hR, hws, hlen, hX, hK⟩
          have B3 := Lib.hid hB
          have R3 := Lib.hid hR
          have L3 := Lib.hid hws
          have N3 := Lib.hid hlen
          have Y3' := Lib.hid (show ∀ x, Y3 x → w.heap.size ≤ x from fun x hx => (hX x hx).elim (Y2.out x) (Nat.le_trans hsz))
          have K3 := Lib.hid (K2.out.trans hK fun x hx h => absurd (Y2.out x h) (by omega))
          have Q3 := Lib.hid (q2.out.next hK hX)
          clear hB hR hws hlen hX hK
          go_wp2_with fail
          refine (no_nil _).mono ?_
          rintro e w' ⟨rfl, rfl⟩
          have hcpi : (1 : Int) ≤ (rs.length : Int) + 1 := by omega
          by_cases hcp : cp = 1
          · subst hcp
            have h0 : rs.length = 0 := by omega
            go_wp2_with fail
            go_roundw
            case rel => exact ⟨k + 1, _, ws3, st3, rs, Y3, by omega, by go_num, by rw [N3.out], B3.out, R3.out, L3.out, by omega, by have := Q3.out; rw [if_pos trivial, h0] at this; exact this, Y3'.out, K3.out⟩
            case measure => simp [intOf]; omega
          · have hcp1 : 1 < cp := by omega
            have hnl : ¬ st.bs.length < rs.length := by
              have h1 := R2.out.len
              have h2 := R2.out.count
              simp only [List.length_cons] at h1
              omega
            go_wp2_with fail
            go_roundw
            case rel => exact ⟨k + 1, _, ws3, st3, rs, Y3, by omega, by go_num, by rw [N3.out], B3.out, R3.out, L3.out, by omega, by have := Q3.out; rw [if_neg hcp] at this; exact this, Y3'.out, K3.out⟩
            case measure => simp [intOf]; omega
    · obtain ⟨o, cp, hv⟩ := Q2.out.shape
      rw [refVals_len] at hv
      subst hv
      have hbl : st.bs.length ≤ 60 := by have := R2.out.few; omega
      have hrl : refs.length ≤ 60 := by
        have h1 := R2.out.len
        have h2 := R2.out.count
        omega
      have m1 : st.bs.length * (n + 1) ≤ 60 * 9 := Nat.mul_le_mul hbl (by omega)
      have m2 : refs.length * (n + 1) ≤ 60 * 9 := Nat.mul_le_mul hrl (by omega)
      have ct := top_bk wr B2.out
      have cu := used_bk wr B2.out
      rw [R2.out.top] at ct
      rw [R2.out.used] at cu
      have p1 : ((st.bs.length * (n + 1) : Nat) : Int) = (st.bs.length : Int) * ((n : Int) + 1) := by simp
      have p2 : ((refs.length * (n + 1) : Nat) : Int) = (refs.length : Int) * ((n : Int) + 1) := by simp
      have i1 : (0 : Int) ≤ (st.bs.length : Int) * ((n : Int) + 1) := by rw [← p1]; omega
      have i2 : (st.bs.length : Int) * ((n : Int) + 1) ≤ 540 := by rw [← p1]; omega
      have i3 : (0 : Int) ≤ (refs.length : Int) * ((n : Int) + 1) := by rw [← p2]; omega
      have i4 : (refs.length : Int) * ((n : Int) + 1) ≤ 540 := by rw [← p2]; omega
      rw [p1] at ct
      rw [p2] at cu
      have ct' := Lib.hid ct
      have cu' := Lib.hid cu
      clear ct cu p1 p2 m1 m2
      go_wp2_with fail
      refine ct'.out.mono ?_
      rintro e w' ⟨rfl, rfl⟩
      go_wp2_with fail
      refine cu'.out.mono ?_
      rintro e v1 ⟨rfl, hK⟩
      have K5 := Lib.hid (K2.out.trans_ hK)
      clear hK
      go_wp2_with fail
      refine (alive2 _ (g0.out.keeps K5.out id)).mono ?_
      rintro e v3 ⟨rfl, hK⟩
      have K6 := Lib.hid (K5.out.trans_ hK)
      clear hK
      go_wp2_with fail
      go_ret
      exact ⟨rfl, K6.out.below (Nat.le_refl _) fun _ _ => id⟩
end Go.Proofs.YtaamenhfngjobaaDoor
