/-
  MetaWaits: called with any value, any version and any two bools, concordlaw06.MetaWaits returns true and changes nothing; the library's variable errors.errorType holds what the program's text lays in it (the card ties it). The card says nothing of code outside the pruned copy.
-/
import Derived.Test.YtenhmficiegpiaaGreatDoorMtLists
import Derived.Test.YtenhmficiegpiaaGreatDoorTie
import Derived.Test.YtenhmficiegpiaaGreatDoorCards
import Derived.ProofKit
import Derived.OpenShut
import Derived.ShutString
import Derived.ChangeOld
import Derived.RowKitTokens
import Derived.LaidLaws
import Derived.LaidHandle
import Derived.LaidMore
import Derived.Stop.Joined
import Derived.SevenTiedAt
import Derived.Lib.SmallJoins
namespace Go.Proofs.YtenhmficiegpiaaGreatDoor
open Go.RowKit Go.Extern.Stop Go.Stop Go.Extern
open Go.ChangeShapes Go.WideShapes Go.ChangeAt

theorem scM_view : view scM = ⟨0, packN 0 0 false false, 10⟩ := rfl

theorem waits_solo00 (value ver : Nat) (h1 : 1 ≤ ver) (h2 : ver ≤ 1000) : ∃ t, (callsT 1 3 [⟨5, 0, 1, 0⟩, ⟨6, ver, 0, value⟩, ⟨3, 0, 0, 0⟩, ⟨5, ver, 0, 0⟩, ⟨6, ver + 1, 0, value⟩] []).solo (view scM) = ([⟨0, 0, 0⟩, ⟨0, 0, 0⟩, ⟨0, value, (ver : Int)⟩, ⟨0, 0, 0⟩, ⟨0, 0, 0⟩], t) := by
  have hv : ver ≤ 281474976710655 := by omega
  have hv1 : ver + 1 ≤ 281474976710655 := by omega
  rw [scM_view]
  simp [solo_calls, solo_nil, callT, solo_lock, solo_commit, solo_read, hv]

theorem waits_solo10 (value ver : Nat) (h1 : 1 ≤ ver) (h2 : ver ≤ 1000) : ∃ t, (callsT 1 3 [⟨8, 0, 0, 0⟩, ⟨5, 0, 1, 0⟩, ⟨6, ver, 0, value⟩, ⟨3, 0, 0, 0⟩, ⟨5, ver, 0, 0⟩, ⟨6, ver + 1, 0, value⟩] []).solo (view scM) = ([⟨0, 0, 0⟩, ⟨0, 0, 0⟩, ⟨0, 0, 1⟩, ⟨0, value, (ver : Int)⟩, ⟨0, 0, 0⟩, ⟨0, 0, 0⟩], t) := by
  have hv : ver ≤ 281474976710655 := by omega
  have hv1 : ver + 1 ≤ 281474976710655 := by omega
  rw [scM_view]
  simp [solo_calls, solo_nil, callT, solo_lock, solo_commit, solo_read, solo_await, hv]

theorem waits_solo01 (value ver : Nat) (h1 : 1 ≤ ver) (h2 : ver ≤ 1000) : ∃ t, (callsT 1 3 [⟨5, 0, 1, 0⟩, ⟨8, 0, 0, 0⟩, ⟨7, 0, 0, 0⟩, ⟨5, 0, 1, 0⟩, ⟨6, ver, 0, value⟩, ⟨3, 0, 0, 0⟩, ⟨5, ver, 0, 0⟩, ⟨6, ver + 1, 0, value⟩] []).solo (view scM) = ([⟨0, 0, 0⟩, ⟨12, 0, 0⟩, ⟨0, 0, 0⟩, ⟨0, 0, 0⟩, ⟨0, 0, 0⟩, ⟨0, value, (ver : Int)⟩, ⟨0, 0, 0⟩, ⟨0, 0, 0⟩], t) := by
  have hv : ver ≤ 281474976710655 := by omega
  have hv1 : ver + 1 ≤ 281474976710655 := by omega
  rw [scM_view]
  simp [solo_calls, solo_nil, callT, solo_lock, solo_commit, solo_read, solo_await_no, solo_release, hv]

theorem waits_solo11 (value ver : Nat) (h1 : 1 ≤ ver) (h2 : ver ≤ 1000) : ∃ t, (callsT 1 3 [⟨8, 0, 0, 0⟩, ⟨5, 0, 1, 0⟩, ⟨8, 0, 0, 0⟩, ⟨7, 0, 0, 0⟩, ⟨5, 0, 1, 0⟩, ⟨6, ver, 0, value⟩, ⟨3, 0, 0, 0⟩, ⟨5, ver, 0, 0⟩, ⟨6, ver + 1, 0, value⟩] []).solo (view scM) = ([⟨0, 0, 0⟩, ⟨0, 0, 0⟩, ⟨12, 0, 0⟩, ⟨0, 0, 0⟩, ⟨0, 0, 0⟩, ⟨0, 0, 1⟩, ⟨0, value, (ver : Int)⟩, ⟨0, 0, 0⟩, ⟨0, 0, 0⟩], t) := by
  have hv : ver ≤ 281474976710655 := by omega
  have hv1 : ver + 1 ≤ 281474976710655 := by omega
  rw [scM_view]
  simp [solo_calls, solo_nil, callT, solo_lock, solo_commit, solo_read, solo_await, solo_await_no, solo_release, hv]

set_option maxRecDepth 100000 in
set_option maxHeartbeats 8000000 in
theorem metaWaits_walk (a0 a1 : Int) (a2 a3 : Bool) (w : World) (w0 : (Lit.int .u64 a0).wf = true) (_ : (Lit.int .i64 a1).wf = true) (hG : Glob w) :
    Calls Tryz.prog 6 #[.int .u64 a0, .int .i64 a1, .bool a2, .bool a3] w fun e w' => e = .returned (.bool true) ∧ Below w.heap.size w w' := by
  obtain ⟨value, rfl, hval⟩ : ∃ v : Nat, a0 = (v : Int) ∧ v < 18446744073709551616 := by
    have hw' : 0 ≤ a0 ∧ a0 ≤ 18446744073709551615 := by
      have : (decide (IntKind.u64.min ≤ a0) && decide (a0 ≤ IntKind.u64.max)) = true := w0
      rw [Bool.and_eq_true, decide_eq_true_iff, decide_eq_true_iff] at this
      exact this
    exact ⟨a0.toNat, by omega, by omega⟩
  have hb : -1000 < a1.tmod 1000 ∧ a1.tmod 1000 < 1000 := ⟨by have := Int.lt_tmod_of_pos a1 (b := 1000) (by decide); omega, Int.tmod_lt_of_pos a1 (by decide)⟩
  obtain ⟨hb1, hb2⟩ := hb
  obtain ⟨ver, hver, hv1, hv2⟩ : ∃ ver : Nat, 1 + (a1.tmod 1000 + 1000) % 1000 = (ver : Int) ∧ 1 ≤ ver ∧ ver ≤ 1000 := ⟨(1 + (a1.tmod 1000 + 1000) % 1000).toNat, by omega, by omega, by omega⟩
  have hve : (a1.tmod 1000 + 1000) % 1000 = a1.tmod 1000 % 1000 := by omega
  have hver2 : 1 + a1.tmod 1000 % 1000 = (ver : Int) := by omega
  have hver' := Lib.hid hver
  have hG' := Lib.hid hG
  have hvb : (ver : Int) ≤ 1000 := by omega
  clear w0 hver hG hve
  cases a2 with
  | false =>
    cases a3 with
    | false =>
      go_enter Tryz.func6, Tryz.ntmps6
      go_wp2_with fail
      refine (scene_any w hG'.out).mono ?_
      rintro e W0 ⟨b, a, X, row, rfl, hS, hrow, hK, hX, hrw, hrX⟩
      have T0 := Lib.hid (show TwoR W0 (W0.alloc (.cells #[] 38)) (.slice none 0 0) (.slice (some ⟨W0.heap.size, 0, none⟩) 0 0) [] [] from ⟨World.ownsRow_nil _ _ _ _, ownsRow_lit (n := 0) (Whole.made _ _ _) rfl (by unfold maxLen; omega), fun g hg => (by cases hg), fun g hg => (by injection hg with hg; exact Nat.le_of_eq hg), (Keeps.refl _ _).alloc _⟩)
      have S0 := Lib.hid hS
      have K0 := Lib.hid hK
      have X0 := Lib.hid hX
      have RW := Lib.hid (And.intro hrow (And.intro hrw hrX))
      clear hS hrow hK hX hrw hrX
      go_wp2_with (first
        | (at_builtin; refine wpList_append_cals _ rfl _ _ rfl (.slice none 0 0) [] [⟨5, 0, 1, 0⟩, ⟨6, ver, 0, value⟩, ⟨3, 0, 0, 0⟩, ⟨5, ver, 0, 0⟩, ⟨6, ver + 1, 0, value⟩] 5 rfl rfl (T0.out.c.keeps ((Keeps.refl (fun _ => False) (W0.alloc (.cells #[] 38))).alloc (.cells #[.int .i64 5, .int .i64 0, .int .i64 0, .int .i64 1, .int .u64 0, .int .i64 6, .int .i64 0, .int .i64 (ver : Int), .int .i64 0, .int .u64 (value : Int), .int .i64 3, .int .i64 0, .int .i64 0, .int .i64 0, .int .u64 0, .int .i64 5, .int .i64 0, .int .i64 (ver : Int), .int .i64 0, .int .u64 0, .int .i64 6, .int .i64 0, .int .i64 ((ver : Int) + 1), .int .i64 0, .int .u64 (value : Int)] 31)) fun _ _ => id) ⟨W0.heap.size + 1, 0, none⟩ 5 rfl (lit_cells (show Whole ((W0.alloc (.cells #[] 38)).alloc (.cells #[.int .i64 5, .int .i64 0, .int .i64 0, .int .i64 1, .int .u64 0, .int .i64 6, .int .i64 0, .int .i64 (ver : Int), .int .i64 0, .int .u64 (value : Int), .int .i64 3, .int .i64 0, .int .i64 0, .int .i64 0, .int .u64 0, .int .i64 5, .int .i64 0, .int .i64 (ver : Int), .int .i64 0, .int .u64 0, .int .i64 6, .int .i64 0, .int .i64 ((ver : Int) + 1), .int .i64 0, .int .u64 (value : Int)] 31)) (W0.heap.size + 1) 31 (calCells [⟨5, 0, 1, 0⟩, ⟨6, ver, 0, value⟩, ⟨3, 0, 0, 0⟩, ⟨5, ver, 0, 0⟩, ⟨6, ver + 1, 0, value⟩]).toArray by have := Whole.made (W0.alloc (.cells #[] 38)) 31 #[.int .i64 5, .int .i64 0, .int .i64 0, .int .i64 1, .int .u64 0, .int .i64 6, .int .i64 0, .int .i64 (ver : Int), .int .i64 0, .int .u64 (value : Int), .int .i64 3, .int .i64 0, .int .i64 0, .int .i64 0, .int .u64 0, .int .i64 5, .int .i64 0, .int .i64 (ver : Int), .int .i64 0, .int .u64 0, .int .i64 6, .int .i64 0, .int .i64 ((ver : Int) + 1), .int .i64 0, .int .u64 (value : Int)]; rw [World.size_alloc] at this; exact this)) (by decide) ?_; intro co1 cc1 V1 hO hG hl; have C1 := Lib.hid (And.intro hO (And.intro hG hl)); clear hO hG hl)
        | (at_builtin; refine wpList_append_anss _ rfl _ _ rfl (.slice (some ⟨W0.heap.size, 0, none⟩) 0 0) [] [⟨0, 0, 0⟩, ⟨0, 0, 0⟩, ⟨0, value, (ver : Int)⟩, ⟨0, 0, 0⟩, ⟨0, 0, 0⟩] 5 rfl rfl (T0.out.mid (o2 := (.cells #[.int .i64 0, .int .u64 0, .int .i64 0, .int .i64 0, .int .u64 0, .int .i64 0, .int .i64 0, .int .u64 (value : Int), .int .i64 (ver : Int), .int .i64 0, .int .u64 0, .int .i64 0, .int .i64 0, .int .u64 0, .int .i64 0] 38)) C1.out.2.1) ⟨V1.heap.size, 0, none⟩ 5 rfl (lit_cells (Whole.made V1 38 #[.int .i64 0, .int .u64 0, .int .i64 0, .int .i64 0, .int .u64 0, .int .i64 0, .int .i64 0, .int .u64 (value : Int), .int .i64 (ver : Int), .int .i64 0, .int .u64 0, .int .i64 0, .int .i64 0, .int .u64 0, .int .i64 0])) (by decide) ?_; intro ao1 ac1 U1 hO hG hl; have T1 := Lib.hid (T0.out.next C1.out.2.1 C1.out.1 C1.out.2.2 hG hO hl); clear hO hG hl))
      obtain ⟨W1, hW1⟩ : ∃ V, V = U1.alloc (.cells #[.slice co1 5 cc1] 32) := ⟨_, rfl⟩
      have k1 : Keeps (fun _ => False) U1 W1 := by rw [hW1]; exact (Keeps.refl _ _).alloc _
      have m1 : Whole W1 U1.heap.size 32 #[.slice co1 5 cc1] := by rw [hW1]; exact Whole.made _ _ _
      have K01 := Lib.hid (T1.out.k.trans_ k1)
      have S1 := Lib.hid (S0.out.same K01.out)
      have hls : ∀ l ∈ [([⟨5, 0, 1, 0⟩, ⟨6, ver, 0, value⟩, ⟨3, 0, 0, 0⟩, ⟨5, ver, 0, 0⟩, ⟨6, ver + 1, 0, value⟩] : List Cal)], (∀ x ∈ l, CalOk x) ∧ l.length ≤ 10 := by
        intro l hl
        rw [List.mem_singleton.1 hl]
        refine ⟨fun x hx => ?_, by show (5 : Nat) ≤ 10; decide⟩
        simp only [List.mem_cons, List.not_mem_nil, or_false] at hx
        rcases hx with rfl | rfl | rfl | rfl | rfl <;> exact ⟨by first | decide | (dsimp only; done) | (dsimp only; first | decide | omega), by first | decide | (dsimp only; done) | (dsimp only; first | decide | omega), by first | decide | (dsimp only; done) | (dsimp only; first | decide | omega), by first | decide | (dsimp only; done) | (dsimp only; first | decide | omega)⟩
      have hL : LRow W1 X U1.heap.size [[⟨5, 0, 1, 0⟩, ⟨6, ver, 0, value⟩, ⟨3, 0, 0, 0⟩, ⟨5, ver, 0, 0⟩, ⟨6, ver + 1, 0, value⟩]] := by
        intro i hi
        have hi : i < 1 := hi
        obtain rfl : i = 0 := by omega
        refine ⟨_, m1.at_ 0, (T1.out.c.keeps k1 fun _ _ => id).crow, fun g hg => ⟨fun hx => ?_, Nat.lt_of_lt_of_le (World.ownsRow.lt T1.out.c g hg).2 k1.size⟩⟩
        have := T1.out.cf g hg
        have := S0.out.old g hx
        omega
      have hrun := Lib.hid (run_any6 (cap1 := 0) (a1 := none) (a1n := 0) (lc := 1) hls (by show 1 ≤ 1; omega) (by show 1 ≤ 4; omega) S1.out rfl (by decide) ((K01.out.cell (p := ⟨row, 0, none⟩) (cell_lt RW.out.1) id).trans RW.out.1) RW.out.2.2 hL (.inl ⟨rfl, rfl⟩) (fun _ x hx => by cases hx) (by decide))
      have hin := Lib.hid (S0_inv (m := scM) rfl S0.out.mm.1 hls 1)
      have hW1' := Lib.hid hW1
      have k1' := Lib.hid k1
      clear hW1 k1 m1 hls hL
      rw [← hW1'.out]
      refine hrun.out.mono ?_
      rintro e W2 hR
      obtain ⟨t, hsolo⟩ := waits_solo00 value ver hv1 hv2
      obtain ⟨vv, uu, X', m', rfl, hrow2, hA2, hS2, _, _, _, hm2⟩ := hR.solo hin.out hsolo
      obtain ⟨uo, uc, huv, _⟩ := hA2.shape
      subst huv
      obtain ⟨vg, vc, hvv, _⟩ : ∃ g c, vv = .slice (some ⟨g, 0, none⟩) 1 c ∧ True := by
        rcases hrow2.2 with ⟨_, hn⟩ | ⟨g, cap, cur, hv, _⟩
        · cases hn
        · exact ⟨g, cap, hv, trivial⟩
      subst hvv
      have cu : W2.cell? ⟨vg, 0, none⟩ = some _ := hrow2.cellAt 0 (by decide)
      have aw := Lib.hid (((T1.out.a.keeps k1'.out fun _ _ => id).keeps hm2.keeps fun g hg hx => by have := T1.out.af g hg; have := S0.out.old g hx; omega).rd)
      have rd2 := Lib.hid hA2.rd
      have G2 := Lib.hid hS2.glob
      have K2 := Lib.hid (show Keeps (fun _ => False) w W2 from (K0.out.trans_ K01.out).trans hm2.keeps fun x hx hz => by have := X0.out x hz; omega)
      have cs := Lib.hid (same_yes _ _ _ W2 rd2.out aw.out (by show (5 : Nat) ≤ 1000; decide))
      clear hR hrow2 hA2 hS2 hm2 hsolo hrun
      go_wp2_with (first
        | (go_at_call 10; refine cs.out.mono ?_; rintro e W3 ⟨rfl, hK⟩; have K3 := Lib.hid hK; clear hK)
        | (go_at_call 8; refine (alive_any6 W3 (G2.out.keeps K3.out id)).mono ?_; rintro e W4 ⟨rfl, hK⟩; have K4 := Lib.hid ((K2.out.trans_ K3.out).trans_ hK); clear hK))
      go_ret
      exact ⟨rfl, K4.out.below (Nat.le_refl _) fun _ _ => id⟩
    | true =>
      go_enter Tryz.func6, Tryz.ntmps6
      go_wp2_with fail
      refine (scene_any w hG'.out).mono ?_
      rintro e W0 ⟨b, a, X, row, rfl, hS, hrow, hK, hX, hrw, hrX⟩
      have T0 := Lib.hid (show TwoR W0 (W0.alloc (.cells #[] 38)) (.slice none 0 0) (.slice (some ⟨W0.heap.size, 0, none⟩) 0 0) [] [] from ⟨World.ownsRow_nil _ _ _ _, ownsRow_lit (n := 0) (Whole.made _ _ _) rfl (by unfold maxLen; omega), fun g hg => (by cases hg), fun g hg => (by injection hg with hg; exact Nat.le_of_eq hg), (Keeps.refl _ _).alloc _⟩)
      have S0 := Lib.hid hS
      have K0 := Lib.hid hK
      have X0 := Lib.hid hX
      have RW := Lib.hid (And.intro hrow (And.intro hrw hrX))
      clear hS hrow hK hX hrw hrX
      go_wp2_with (first
        | (at_builtin; refine wpList_append_cals _ rfl _ _ rfl (.slice none 0 0) [] [⟨5, 0, 1, 0⟩, ⟨8, 0, 0, 0⟩, ⟨7, 0, 0, 0⟩] 3 rfl rfl (T0.out.c.keeps ((Keeps.refl (fun _ => False) (W0.alloc (.cells #[] 38))).alloc (.cells #[.int .i64 5, .int .i64 0, .int .i64 0, .int .i64 1, .int .u64 0, .int .i64 8, .int .i64 0, .int .i64 0, .int .i64 0, .int .u64 0, .int .i64 7, .int .i64 0, .int .i64 0, .int .i64 0, .int .u64 0] 31)) fun _ _ => id) ⟨W0.heap.size + 1, 0, none⟩ 3 rfl (lit_cells (show Whole ((W0.alloc (.cells #[] 38)).alloc (.cells #[.int .i64 5, .int .i64 0, .int .i64 0, .int .i64 1, .int .u64 0, .int .i64 8, .int .i64 0, .int .i64 0, .int .i64 0, .int .u64 0, .int .i64 7, .int .i64 0, .int .i64 0, .int .i64 0, .int .u64 0] 31)) (W0.heap.size + 1) 31 (calCells [⟨5, 0, 1, 0⟩, ⟨8, 0, 0, 0⟩, ⟨7, 0, 0, 0⟩]).toArray by have := Whole.made (W0.alloc (.cells #[] 38)) 31 #[.int .i64 5, .int .i64 0, .int .i64 0, .int .i64 1, .int .u64 0, .int .i64 8, .int .i64 0, .int .i64 0, .int .i64 0, .int .u64 0, .int .i64 7, .int .i64 0, .int .i64 0, .int .i64 0, .int .u64 0]; rw [World.size_alloc] at this; exact this)) (by decide) ?_; intro co1 cc1 V1 hO hG hl; have C1 := Lib.hid (And.intro hO (And.intro hG hl)); clear hO hG hl)
        | (at_builtin; refine wpList_append_anss _ rfl _ _ rfl (.slice (some ⟨W0.heap.size, 0, none⟩) 0 0) [] [⟨0, 0, 0⟩, ⟨12, 0, 0⟩, ⟨0, 0, 0⟩] 3 rfl rfl (T0.out.mid (o2 := (.cells #[.int .i64 0, .int .u64 0, .int .i64 0, .int .i64 12, .int .u64 0, .int .i64 0, .int .i64 0, .int .u64 0, .int .i64 0] 38)) C1.out.2.1) ⟨V1.heap.size, 0, none⟩ 3 rfl (lit_cells (Whole.made V1 38 #[.int .i64 0, .int .u64 0, .int .i64 0, .int .i64 12, .int .u64 0, .int .i64 0, .int .i64 0, .int .u64 0, .int .i64 0])) (by decide) ?_; intro ao1 ac1 U1 hO hG hl; have T1 := Lib.hid (T0.out.next C1.out.2.1 C1.out.1 C1.out.2.2 hG hO hl); clear hO hG hl)
        | (at_builtin; refine wpList_append_cals _ rfl _ _ rfl (.slice co1 3 cc1) [⟨5, 0, 1, 0⟩, ⟨8, 0, 0, 0⟩, ⟨7, 0, 0, 0⟩] [⟨5, 0, 1, 0⟩, ⟨6, ver, 0, value⟩, ⟨3, 0, 0, 0⟩, ⟨5, ver, 0, 0⟩, ⟨6, ver + 1, 0, value⟩] 8 rfl rfl (T1.out.c.keeps ((Keeps.refl (fun _ => False) U1).alloc (.cells #[.int .i64 5, .int .i64 0, .int .i64 0, .int .i64 1, .int .u64 0, .int .i64 6, .int .i64 0, .int .i64 (ver : Int), .int .i64 0, .int .u64 (value : Int), .int .i64 3, .int .i64 0, .int .i64 0, .int .i64 0, .int .u64 0, .int .i64 5, .int .i64 0, .int .i64 (ver : Int), .int .i64 0, .int .u64 0, .int .i64 6, .int .i64 0, .int .i64 ((ver : Int) + 1), .int .i64 0, .int .u64 (value : Int)] 31)) fun _ _ => id) ⟨U1.heap.size, 0, none⟩ 5 rfl (lit_cells (Whole.made U1 31 #[.int .i64 5, .int .i64 0, .int .i64 0, .int .i64 1, .int .u64 0, .int .i64 6, .int .i64 0, .int .i64 (ver : Int), .int .i64 0, .int .u64 (value : Int), .int .i64 3, .int .i64 0, .int .i64 0, .int .i64 0, .int .u64 0, .int .i64 5, .int .i64 0, .int .i64 (ver : Int), .int .i64 0, .int .u64 0, .int .i64 6, .int .i64 0, .int .i64 ((ver : Int) + 1), .int .i64 0, .int .u64 (value : Int)])) (by decide) ?_; intro co2 cc2 V2 hO hG hl; have C2 := Lib.hid (And.intro hO (And.intro hG hl)); clear hO hG hl)
        | (at_builtin; refine wpList_append_anss _ rfl _ _ rfl (.slice ao1 3 ac1) [⟨0, 0, 0⟩, ⟨12, 0, 0⟩, ⟨0, 0, 0⟩] [⟨0, 0, 0⟩, ⟨0, 0, 0⟩, ⟨0, value, (ver : Int)⟩, ⟨0, 0, 0⟩, ⟨0, 0, 0⟩] 8 rfl rfl (T1.out.mid (o2 := (.cells #[.int .i64 0, .int .u64 0, .int .i64 0, .int .i64 0, .int .u64 0, .int .i64 0, .int .i64 0, .int .u64 (value : Int), .int .i64 (ver : Int), .int .i64 0, .int .u64 0, .int .i64 0, .int .i64 0, .int .u64 0, .int .i64 0] 38)) C2.out.2.1) ⟨V2.heap.size, 0, none⟩ 5 rfl (lit_cells (Whole.made V2 38 #[.int .i64 0, .int .u64 0, .int .i64 0, .int .i64 0, .int .u64 0, .int .i64 0, .int .i64 0, .int .u64 (value : Int), .int .i64 (ver : Int), .int .i64 0, .int .u64 0, .int .i64 0, .int .i64 0, .int .u64 0, .int .i64 0])) (by decide) ?_; intro ao2 ac2 U2 hO hG hl; have T2 := Lib.hid (T1.out.next C2.out.2.1 C2.out.1 C2.out.2.2 hG hO hl); clear hO hG hl))
      obtain ⟨W1, hW1⟩ : ∃ V, V = U2.alloc (.cells #[.slice co2 8 cc2] 32) := ⟨_, rfl⟩
      have k1 : Keeps (fun _ => False) U2 W1 := by rw [hW1]; exact (Keeps.refl _ _).alloc _
      have m1 : Whole W1 U2.heap.size 32 #[.slice co2 8 cc2] := by rw [hW1]; exact Whole.made _ _ _
      have K01 := Lib.hid (T2.out.k.trans_ k1)
      have S1 := Lib.hid (S0.out.same K01.out)
      have hls : ∀ l ∈ [([⟨5, 0, 1, 0⟩, ⟨8, 0, 0, 0⟩, ⟨7, 0, 0, 0⟩, ⟨5, 0, 1, 0⟩, ⟨6, ver, 0, value⟩, ⟨3, 0, 0, 0⟩, ⟨5, ver, 0, 0⟩, ⟨6, ver + 1, 0, value⟩] : List Cal)], (∀ x ∈ l, CalOk x) ∧ l.length ≤ 10 := by
        intro l hl
        rw [List.mem_singleton.1 hl]
        refine ⟨fun x hx => ?_, by show (8 : Nat) ≤ 10; decide⟩
        simp only [List.mem_cons, List.not_mem_nil, or_false] at hx
        rcases hx with rfl | rfl | rfl | rfl | rfl | rfl | rfl | rfl <;> exact ⟨by first | decide | (dsimp only; done) | (dsimp only; first | decide | omega), by first | decide | (dsimp only; done) | (dsimp only; first | decide | omega), by first | decide | (dsimp only; done) | (dsimp only; first | decide | omega), by first | decide | (dsimp only; done) | (dsimp only; first | decide | omega)⟩
      have hL : LRow W1 X U2.heap.size [[⟨5, 0, 1, 0⟩, ⟨8, 0, 0, 0⟩, ⟨7, 0, 0, 0⟩, ⟨5, 0, 1, 0⟩, ⟨6, ver, 0, value⟩, ⟨3, 0, 0, 0⟩, ⟨5, ver, 0, 0⟩, ⟨6, ver + 1, 0, value⟩]] := by
        intro i hi
        have hi : i < 1 := hi
        obtain rfl : i = 0 := by omega
        refine ⟨_, m1.at_ 0, (T2.out.c.keeps k1 fun _ _ => id).crow, fun g hg => ⟨fun hx => ?_, Nat.lt_of_lt_of_le (World.ownsRow.lt T2.out.c g hg).2 k1.size⟩⟩
        have := T2.out.cf g hg
        have := S0.out.old g hx
        omega
      have hrun := Lib.hid (run_any6 (cap1 := 0) (a1 := none) (a1n := 0) (lc := 1) hls (by show 1 ≤ 1; omega) (by show 1 ≤ 4; omega) S1.out rfl (by decide) ((K01.out.cell (p := ⟨row, 0, none⟩) (cell_lt RW.out.1) id).trans RW.out.1) RW.out.2.2 hL (.inl ⟨rfl, rfl⟩) (fun _ x hx => by cases hx) (by decide))
      have hin := Lib.hid (S0_inv (m := scM) rfl S0.out.mm.1 hls 1)
      have hW1' := Lib.hid hW1
      have k1' := Lib.hid k1
      clear hW1 k1 m1 hls hL
      rw [← hW1'.out]
      refine hrun.out.mono ?_
      rintro e W2 hR
      obtain ⟨t, hsolo⟩ := waits_solo01 value ver hv1 hv2
      obtain ⟨vv, uu, X', m', rfl, hrow2, hA2, hS2, _, _, _, hm2⟩ := hR.solo hin.out hsolo
      obtain ⟨uo, uc, huv, _⟩ := hA2.shape
      subst huv
      obtain ⟨vg, vc, hvv, _⟩ : ∃ g c, vv = .slice (some ⟨g, 0, none⟩) 1 c ∧ True := by
        rcases hrow2.2 with ⟨_, hn⟩ | ⟨g, cap, cur, hv, _⟩
        · cases hn
        · exact ⟨g, cap, hv, trivial⟩
      subst hvv
      have cu : W2.cell? ⟨vg, 0, none⟩ = some _ := hrow2.cellAt 0 (by decide)
      have aw := Lib.hid (((T2.out.a.keeps k1'.out fun _ _ => id).keeps hm2.keeps fun g hg hx => by have := T2.out.af g hg; have := S0.out.old g hx; omega).rd)
      have rd2 := Lib.hid hA2.rd
      have G2 := Lib.hid hS2.glob
      have K2 := Lib.hid (show Keeps (fun _ => False) w W2 from (K0.out.trans_ K01.out).trans hm2.keeps fun x hx hz => by have := X0.out x hz; omega)
      have cs := Lib.hid (same_yes _ _ _ W2 rd2.out aw.out (by show (8 : Nat) ≤ 1000; decide))
      clear hR hrow2 hA2 hS2 hm2 hsolo hrun
      go_wp2_with (first
        | (go_at_call 10; refine cs.out.mono ?_; rintro e W3 ⟨rfl, hK⟩; have K3 := Lib.hid hK; clear hK)
        | (go_at_call 8; refine (alive_any6 W3 (G2.out.keeps K3.out id)).mono ?_; rintro e W4 ⟨rfl, hK⟩; have K4 := Lib.hid ((K2.out.trans_ K3.out).trans_ hK); clear hK))
      go_ret
      exact ⟨rfl, K4.out.below (Nat.le_refl _) fun _ _ => id⟩
  | true =>
    cases a3 with
    | false =>
      go_enter Tryz.func6, Tryz.ntmps6
      go_wp2_with fail
      refine (scene_any w hG'.out).mono ?_
      rintro e W0 ⟨b, a, X, row, rfl, hS, hrow, hK, hX, hrw, hrX⟩
      have T0 := Lib.hid (show TwoR W0 (W0.alloc (.cells #[] 38)) (.slice none 0 0) (.slice (some ⟨W0.heap.size, 0, none⟩) 0 0) [] [] from ⟨World.ownsRow_nil _ _ _ _, ownsRow_lit (n := 0) (Whole.made _ _ _) rfl (by unfold maxLen; omega), fun g hg => (by cases hg), fun g hg => (by injection hg with hg; exact Nat.le_of_eq hg), (Keeps.refl _ _).alloc _⟩)
      have S0 := Lib.hid hS
      have K0 := Lib.hid hK
      have X0 := Lib.hid hX
      have RW := Lib.hid (And.intro hrow (And.intro hrw hrX))
      clear hS hrow hK hX hrw hrX
      go_wp2_with (first
        | (at_builtin; refine wpList_append_cals _ rfl _ _ rfl (.slice none 0 0) [] [⟨8, 0, 0, 0⟩] 1 rfl rfl (T0.out.c.keeps ((Keeps.refl (fun _ => False) (W0.alloc (.cells #[] 38))).alloc (.cells #[.int .i64 8, .int .i64 0, .int .i64 0, .int .i64 0, .int .u64 0] 31)) fun _ _ => id) ⟨W0.heap.size + 1, 0, none⟩ 1 rfl (lit_cells (show Whole ((W0.alloc (.cells #[] 38)).alloc (.cells #[.int .i64 8, .int .i64 0, .int .i64 0, .int .i64 0, .int .u64 0] 31)) (W0.heap.size + 1) 31 (calCells [⟨8, 0, 0, 0⟩]).toArray by have := Whole.made (W0.alloc (.cells #[] 38)) 31 #[.int .i64 8, .int .i64 0, .int .i64 0, .int .i64 0, .int .u64 0]; rw [World.size_alloc] at this; exact this)) (by decide) ?_; intro co1 cc1 V1 hO hG hl; have C1 := Lib.hid (And.intro hO (And.intro hG hl)); clear hO hG hl)
        | (at_builtin; refine wpList_append_anss _ rfl _ _ rfl (.slice (some ⟨W0.heap.size, 0, none⟩) 0 0) [] [⟨0, 0, 0⟩] 1 rfl rfl (T0.out.mid (o2 := (.cells #[.int .i64 0, .int .u64 0, .int .i64 0] 38)) C1.out.2.1) ⟨V1.heap.size, 0, none⟩ 1 rfl (lit_cells (Whole.made V1 38 #[.int .i64 0, .int .u64 0, .int .i64 0])) (by decide) ?_; intro ao1 ac1 U1 hO hG hl; have T1 := Lib.hid (T0.out.next C1.out.2.1 C1.out.1 C1.out.2.2 hG hO hl); clear hO hG hl)
        | (at_builtin; refine wpList_append_cals _ rfl _ _ rfl (.slice co1 1 cc1) [⟨8, 0, 0, 0⟩] [⟨5, 0, 1, 0⟩, ⟨6, ver, 0, value⟩, ⟨3, 0, 0, 0⟩, ⟨5, ver, 0, 0⟩, ⟨6, ver + 1, 0, value⟩] 6 rfl rfl (T1.out.c.keeps ((Keeps.refl (fun _ => False) U1).alloc (.cells #[.int .i64 5, .int .i64 0, .int .i64 0, .int .i64 1, .int .u64 0, .int .i64 6, .int .i64 0, .int .i64 (ver : Int), .int .i64 0, .int .u64 (value : Int), .int .i64 3, .int .i64 0, .int .i64 0, .int .i64 0, .int .u64 0, .int .i64 5, .int .i64 0, .int .i64 (ver : Int), .int .i64 0, .int .u64 0, .int .i64 6, .int .i64 0, .int .i64 ((ver : Int) + 1), .int .i64 0, .int .u64 (value : Int)] 31)) fun _ _ => id) ⟨U1.heap.size, 0, none⟩ 5 rfl (lit_cells (Whole.made U1 31 #[.int .i64 5, .int .i64 0, .int .i64 0, .int .i64 1, .int .u64 0, .int .i64 6, .int .i64 0, .int .i64 (ver : Int), .int .i64 0, .int .u64 (value : Int), .int .i64 3, .int .i64 0, .int .i64 0, .int .i64 0, .int .u64 0, .int .i64 5, .int .i64 0, .int .i64 (ver : Int), .int .i64 0, .int .u64 0, .int .i64 6, .int .i64 0, .int .i64 ((ver : Int) + 1), .int .i64 0, .int .u64 (value : Int)])) (by decide) ?_; intro co2 cc2 V2 hO hG hl; have C2 := Lib.hid (And.intro hO (And.intro hG hl)); clear hO hG hl)
        | (at_builtin; refine wpList_append_anss _ rfl _ _ rfl (.slice ao1 1 ac1) [⟨0, 0, 0⟩] [⟨0, 0, 0⟩, ⟨0, 0, 1⟩, ⟨0, value, (ver : Int)⟩, ⟨0, 0, 0⟩, ⟨0, 0, 0⟩] 6 rfl rfl (T1.out.mid (o2 := (.cells #[.int .i64 0, .int .u64 0, .int .i64 0, .int .i64 0, .int .u64 0, .int .i64 1, .int .i64 0, .int .u64 (value : Int), .int .i64 (ver : Int), .int .i64 0, .int .u64 0, .int .i64 0, .int .i64 0, .int .u64 0, .int .i64 0] 38)) C2.out.2.1) ⟨V2.heap.size, 0, none⟩ 5 rfl (lit_cells (Whole.made V2 38 #[.int .i64 0, .int .u64 0, .int .i64 0, .int .i64 0, .int .u64 0, .int .i64 1, .int .i64 0, .int .u64 (value : Int), .int .i64 (ver : Int), .int .i64 0, .int .u64 0, .int .i64 0, .int .i64 0, .int .u64 0, .int .i64 0])) (by decide) ?_; intro ao2 ac2 U2 hO hG hl; have T2 := Lib.hid (T1.out.next C2.out.2.1 C2.out.1 C2.out.2.2 hG hO hl); clear hO hG hl))
      obtain ⟨W1, hW1⟩ : ∃ V, V = U2.alloc (.cells #[.slice co2 6 cc2] 32) := ⟨_, rfl⟩
      have k1 : Keeps (fun _ => False) U2 W1 := by rw [hW1]; exact (Keeps.refl _ _).alloc _
      have m1 : Whole W1 U2.heap.size 32 #[.slice co2 6 cc2] := by rw [hW1]; exact Whole.made _ _ _
      have K01 := Lib.hid (T2.out.k.trans_ k1)
      have S1 := Lib.hid (S0.out.same K01.out)
      have hls : ∀ l ∈ [([⟨8, 0, 0, 0⟩, ⟨5, 0, 1, 0⟩, ⟨6, ver, 0, value⟩, ⟨3, 0, 0, 0⟩, ⟨5, ver, 0, 0⟩, ⟨6, ver + 1, 0, value⟩] : List Cal)], (∀ x ∈ l, CalOk x) ∧ l.length ≤ 10 := by
        intro l hl
        rw [List.mem_singleton.1 hl]
        refine ⟨fun x hx => ?_, by show (6 : Nat) ≤ 10; decide⟩
        simp only [List.mem_cons, List.not_mem_nil, or_false] at hx
        rcases hx with rfl | rfl | rfl | rfl | rfl | rfl <;> exact ⟨by first | decide | (dsimp only; done) | (dsimp only; first | decide | omega), by first | decide | (dsimp only; done) | (dsimp only; first | decide | omega), by first | decide | (dsimp only; done) | (dsimp only; first | decide | omega), by first | decide | (dsimp only; done) | (dsimp only; first | decide | omega)⟩
      have hL : LRow W1 X U2.heap.size [[⟨8, 0, 0, 0⟩, ⟨5, 0, 1, 0⟩, ⟨6, ver, 0, value⟩, ⟨3, 0, 0, 0⟩, ⟨5, ver, 0, 0⟩, ⟨6, ver + 1, 0, value⟩]] := by
        intro i hi
        have hi : i < 1 := hi
        obtain rfl : i = 0 := by omega
        refine ⟨_, m1.at_ 0, (T2.out.c.keeps k1 fun _ _ => id).crow, fun g hg => ⟨fun hx => ?_, Nat.lt_of_lt_of_le (World.ownsRow.lt T2.out.c g hg).2 k1.size⟩⟩
        have := T2.out.cf g hg
        have := S0.out.old g hx
        omega
      have hrun := Lib.hid (run_any6 (cap1 := 0) (a1 := none) (a1n := 0) (lc := 1) hls (by show 1 ≤ 1; omega) (by show 1 ≤ 4; omega) S1.out rfl (by decide) ((K01.out.cell (p := ⟨row, 0, none⟩) (cell_lt RW.out.1) id).trans RW.out.1) RW.out.2.2 hL (.inl ⟨rfl, rfl⟩) (fun _ x hx => by cases hx) (by decide))
      have hin := Lib.hid (S0_inv (m := scM) rfl S0.out.mm.1 hls 1)
      have hW1' := Lib.hid hW1
      have k1' := Lib.hid k1
      clear hW1 k1 m1 hls hL
      rw [← hW1'.out]
      refine hrun.out.mono ?_
      rintro e W2 hR
      obtain ⟨t, hsolo⟩ := waits_solo10 value ver hv1 hv2
      obtain ⟨vv, uu, X', m', rfl, hrow2, hA2, hS2, _, _, _, hm2⟩ := hR.solo hin.out hsolo
      obtain ⟨uo, uc, huv, _⟩ := hA2.shape
      subst huv
      obtain ⟨vg, vc, hvv, _⟩ : ∃ g c, vv = .slice (some ⟨g, 0, none⟩) 1 c ∧ True := by
        rcases hrow2.2 with ⟨_, hn⟩ | ⟨g, cap, cur, hv, _⟩
        · cases hn
        · exact ⟨g, cap, hv, trivial⟩
      subst hvv
      have cu : W2.cell? ⟨vg, 0, none⟩ = some _ := hrow2.cellAt 0 (by decide)
      have aw := Lib.hid (((T2.out.a.keeps k1'.out fun _ _ => id).keeps hm2.keeps fun g hg hx => by have := T2.out.af g hg; have := S0.out.old g hx; omega).rd)
      have rd2 := Lib.hid hA2.rd
      have G2 := Lib.hid hS2.glob
      have K2 := Lib.hid (show Keeps (fun _ => False) w W2 from (K0.out.trans_ K01.out).trans hm2.keeps fun x hx hz => by have := X0.out x hz; omega)
      have cs := Lib.hid (same_yes _ _ _ W2 rd2.out aw.out (by show (6 : Nat) ≤ 1000; decide))
      clear hR hrow2 hA2 hS2 hm2 hsolo hrun
      go_wp2_with (first
        | (go_at_call 10; refine cs.out.mono ?_; rintro e W3 ⟨rfl, hK⟩; have K3 := Lib.hid hK; clear hK)
        | (go_at_call 8; refine (alive_any6 W3 (G2.out.keeps K3.out id)).mono ?_; rintro e W4 ⟨rfl, hK⟩; have K4 := Lib.hid ((K2.out.trans_ K3.out).trans_ hK); clear hK))
      go_ret
      exact ⟨rfl, K4.out.below (Nat.le_refl _) fun _ _ => id⟩
    | true =>
      go_enter Tryz.func6, Tryz.ntmps6
      go_wp2_with fail
      refine (scene_any w hG'.out).mono ?_
      rintro e W0 ⟨b, a, X, row, rfl, hS, hrow, hK, hX, hrw, hrX⟩
      have T0 := Lib.hid (show TwoR W0 (W0.alloc (.cells #[] 38)) (.slice none 0 0) (.slice (some ⟨W0.heap.size, 0, none⟩) 0 0) [] [] from ⟨World.ownsRow_nil _ _ _ _, ownsRow_lit (n := 0) (Whole.made _ _ _) rfl (by unfold maxLen; omega), fun g hg => (by cases hg), fun g hg => (by injection hg with hg; exact Nat.le_of_eq hg), (Keeps.refl _ _).alloc _⟩)
      have S0 := Lib.hid hS
      have K0 := Lib.hid hK
      have X0 := Lib.hid hX
      have RW := Lib.hid (And.intro hrow (And.intro hrw hrX))
      clear hS hrow hK hX hrw hrX
      go_wp2_with (first
        | (at_builtin; refine wpList_append_cals _ rfl _ _ rfl (.slice none 0 0) [] [⟨8, 0, 0, 0⟩] 1 rfl rfl (T0.out.c.keeps ((Keeps.refl (fun _ => False) (W0.alloc (.cells #[] 38))).alloc (.cells #[.int .i64 8, .int .i64 0, .int .i64 0, .int .i64 0, .int .u64 0] 31)) fun _ _ => id) ⟨W0.heap.size + 1, 0, none⟩ 1 rfl (lit_cells (show Whole ((W0.alloc (.cells #[] 38)).alloc (.cells #[.int .i64 8, .int .i64 0, .int .i64 0, .int .i64 0, .int .u64 0] 31)) (W0.heap.size + 1) 31 (calCells [⟨8, 0, 0, 0⟩]).toArray by have := Whole.made (W0.alloc (.cells #[] 38)) 31 #[.int .i64 8, .int .i64 0, .int .i64 0, .int .i64 0, .int .u64 0]; rw [World.size_alloc] at this; exact this)) (by decide) ?_; intro co1 cc1 V1 hO hG hl; have C1 := Lib.hid (And.intro hO (And.intro hG hl)); clear hO hG hl)
        | (at_builtin; refine wpList_append_anss _ rfl _ _ rfl (.slice (some ⟨W0.heap.size, 0, none⟩) 0 0) [] [⟨0, 0, 0⟩] 1 rfl rfl (T0.out.mid (o2 := (.cells #[.int .i64 0, .int .u64 0, .int .i64 0] 38)) C1.out.2.1) ⟨V1.heap.size, 0, none⟩ 1 rfl (lit_cells (Whole.made V1 38 #[.int .i64 0, .int .u64 0, .int .i64 0])) (by decide) ?_; intro ao1 ac1 U1 hO hG hl; have T1 := Lib.hid (T0.out.next C1.out.2.1 C1.out.1 C1.out.2.2 hG hO hl); clear hO hG hl)
        | (at_builtin; refine wpList_append_cals _ rfl _ _ rfl (.slice co1 1 cc1) [⟨8, 0, 0, 0⟩] [⟨5, 0, 1, 0⟩, ⟨8, 0, 0, 0⟩, ⟨7, 0, 0, 0⟩] 4 rfl rfl (T1.out.c.keeps ((Keeps.refl (fun _ => False) U1).alloc (.cells #[.int .i64 5, .int .i64 0, .int .i64 0, .int .i64 1, .int .u64 0, .int .i64 8, .int .i64 0, .int .i64 0, .int .i64 0, .int .u64 0, .int .i64 7, .int .i64 0, .int .i64 0, .int .i64 0, .int .u64 0] 31)) fun _ _ => id) ⟨U1.heap.size, 0, none⟩ 3 rfl (lit_cells (Whole.made U1 31 #[.int .i64 5, .int .i64 0, .int .i64 0, .int .i64 1, .int .u64 0, .int .i64 8, .int .i64 0, .int .i64 0, .int .i64 0, .int .u64 0, .int .i64 7, .int .i64 0, .int .i64 0, .int .i64 0, .int .u64 0])) (by decide) ?_; intro co2 cc2 V2 hO hG hl; have C2 := Lib.hid (And.intro hO (And.intro hG hl)); clear hO hG hl)
        | (at_builtin; refine wpList_append_anss _ rfl _ _ rfl (.slice ao1 1 ac1) [⟨0, 0, 0⟩] [⟨0, 0, 0⟩, ⟨12, 0, 0⟩, ⟨0, 0, 0⟩] 4 rfl rfl (T1.out.mid (o2 := (.cells #[.int .i64 0, .int .u64 0, .int .i64 0, .int .i64 12, .int .u64 0, .int .i64 0, .int .i64 0, .int .u64 0, .int .i64 0] 38)) C2.out.2.1) ⟨V2.heap.size, 0, none⟩ 3 rfl (lit_cells (Whole.made V2 38 #[.int .i64 0, .int .u64 0, .int .i64 0, .int .i64 12, .int .u64 0, .int .i64 0, .int .i64 0, .int .u64 0, .int .i64 0])) (by decide) ?_; intro ao2 ac2 U2 hO hG hl; have T2 := Lib.hid (T1.out.next C2.out.2.1 C2.out.1 C2.out.2.2 hG hO hl); clear hO hG hl)
        | (at_builtin; refine wpList_append_cals _ rfl _ _ rfl (.slice co2 4 cc2) [⟨8, 0, 0, 0⟩, ⟨5, 0, 1, 0⟩, ⟨8, 0, 0, 0⟩, ⟨7, 0, 0, 0⟩] [⟨5, 0, 1, 0⟩, ⟨6, ver, 0, value⟩, ⟨3, 0, 0, 0⟩, ⟨5, ver, 0, 0⟩, ⟨6, ver + 1, 0, value⟩] 9 rfl rfl (T2.out.c.keeps ((Keeps.refl (fun _ => False) U2).alloc (.cells #[.int .i64 5, .int .i64 0, .int .i64 0, .int .i64 1, .int .u64 0, .int .i64 6, .int .i64 0, .int .i64 (ver : Int), .int .i64 0, .int .u64 (value : Int), .int .i64 3, .int .i64 0, .int .i64 0, .int .i64 0, .int .u64 0, .int .i64 5, .int .i64 0, .int .i64 (ver : Int), .int .i64 0, .int .u64 0, .int .i64 6, .int .i64 0, .int .i64 ((ver : Int) + 1), .int .i64 0, .int .u64 (value : Int)] 31)) fun _ _ => id) ⟨U2.heap.size, 0, none⟩ 5 rfl (lit_cells (Whole.made U2 31 #[.int .i64 5, .int .i64 0, .int .i64 0, .int .i64 1, .int .u64 0, .int .i64 6, .int .i64 0, .int .i64 (ver : Int), .int .i64 0, .int .u64 (value : Int), .int .i64 3, .int .i64 0, .int .i64 0, .int .i64 0, .int .u64 0, .int .i64 5, .int .i64 0, .int .i64 (ver : Int), .int .i64 0, .int .u64 0, .int .i64 6, .int .i64 0, .int .i64 ((ver : Int) + 1), .int .i64 0, .int .u64 (value : Int)])) (by decide) ?_; intro co3 cc3 V3 hO hG hl; have C3 := Lib.hid (And.intro hO (And.intro hG hl)); clear hO hG hl)
        | (at_builtin; refine wpList_append_anss _ rfl _ _ rfl (.slice ao2 4 ac2) [⟨0, 0, 0⟩, ⟨0, 0, 0⟩, ⟨12, 0, 0⟩, ⟨0, 0, 0⟩] [⟨0, 0, 0⟩, ⟨0, 0, 1⟩, ⟨0, value, (ver : Int)⟩, ⟨0, 0, 0⟩, ⟨0, 0, 0⟩] 9 rfl rfl (T2.out.mid (o2 := (.cells #[.int .i64 0, .int .u64 0, .int .i64 0, .int .i64 0, .int .u64 0, .int .i64 1, .int .i64 0, .int .u64 (value : Int), .int .i64 (ver : Int), .int .i64 0, .int .u64 0, .int .i64 0, .int .i64 0, .int .u64 0, .int .i64 0] 38)) C3.out.2.1) ⟨V3.heap.size, 0, none⟩ 5 rfl (lit_cells (Whole.made V3 38 #[.int .i64 0, .int .u64 0, .int .i64 0, .int .i64 0, .int .u64 0, .int .i64 1, .int .i64 0, .int .u64 (value : Int), .int .i64 (ver : Int), .int .i64 0, .int .u64 0, .int .i64 0, .int .i64 0, .int .u64 0, .int .i64 0])) (by decide) ?_; intro ao3 ac3 U3 hO hG hl; have T3 := Lib.hid (T2.out.next C3.out.2.1 C3.out.1 C3.out.2.2 hG hO hl); clear hO hG hl))
      obtain ⟨W1, hW1⟩ : ∃ V, V = U3.alloc (.cells #[.slice co3 9 cc3] 32) := ⟨_, rfl⟩
      have k1 : Keeps (fun _ => False) U3 W1 := by rw [hW1]; exact (Keeps.refl _ _).alloc _
      have m1 : Whole W1 U3.heap.size 32 #[.slice co3 9 cc3] := by rw [hW1]; exact Whole.made _ _ _
      have K01 := Lib.hid (T3.out.k.trans_ k1)
      have S1 := Lib.hid (S0.out.same K01.out)
      have hls : ∀ l ∈ [([⟨8, 0, 0, 0⟩, ⟨5, 0, 1, 0⟩, ⟨8, 0, 0, 0⟩, ⟨7, 0, 0, 0⟩, ⟨5, 0, 1, 0⟩, ⟨6, ver, 0, value⟩, ⟨3, 0, 0, 0⟩, ⟨5, ver, 0, 0⟩, ⟨6, ver + 1, 0, value⟩] : List Cal)], (∀ x ∈ l, CalOk x) ∧ l.length ≤ 10 := by
        intro l hl
        rw [List.mem_singleton.1 hl]
        refine ⟨fun x hx => ?_, by show (9 : Nat) ≤ 10; decide⟩
        simp only [List.mem_cons, List.not_mem_nil, or_false] at hx
        rcases hx with rfl | rfl | rfl | rfl | rfl | rfl | rfl | rfl | rfl <;> exact ⟨by first | decide | (dsimp only; done) | (dsimp only; first | decide | omega), by first | decide | (dsimp only; done) | (dsimp only; first | decide | omega), by first | decide | (dsimp only; done) | (dsimp only; first | decide | omega), by first | decide | (dsimp only; done) | (dsimp only; first | decide | omega)⟩
      have hL : LRow W1 X U3.heap.size [[⟨8, 0, 0, 0⟩, ⟨5, 0, 1, 0⟩, ⟨8, 0, 0, 0⟩, ⟨7, 0, 0, 0⟩, ⟨5, 0, 1, 0⟩, ⟨6, ver, 0, value⟩, ⟨3, 0, 0, 0⟩, ⟨5, ver, 0, 0⟩, ⟨6, ver + 1, 0, value⟩]] := by
        intro i hi
        have hi : i < 1 := hi
        obtain rfl : i = 0 := by omega
        refine ⟨_, m1.at_ 0, (T3.out.c.keeps k1 fun _ _ => id).crow, fun g hg => ⟨fun hx => ?_, Nat.lt_of_lt_of_le (World.ownsRow.lt T3.out.c g hg).2 k1.size⟩⟩
        have := T3.out.cf g hg
        have := S0.out.old g hx
        omega
      have hrun := Lib.hid (run_any6 (cap1 := 0) (a1 := none) (a1n := 0) (lc := 1) hls (by show 1 ≤ 1; omega) (by show 1 ≤ 4; omega) S1.out rfl (by decide) ((K01.out.cell (p := ⟨row, 0, none⟩) (cell_lt RW.out.1) id).trans RW.out.1) RW.out.2.2 hL (.inl ⟨rfl, rfl⟩) (fun _ x hx => by cases hx) (by decide))
      have hin := Lib.hid (S0_inv (m := scM) rfl S0.out.mm.1 hls 1)
      have hW1' := Lib.hid hW1
      have k1' := Lib.hid k1
      clear hW1 k1 m1 hls hL
      rw [← hW1'.out]
      refine hrun.out.mono ?_
      rintro e W2 hR
      obtain ⟨t, hsolo⟩ := waits_solo11 value ver hv1 hv2
      obtain ⟨vv, uu, X', m', rfl, hrow2, hA2, hS2, _, _, _, hm2⟩ := hR.solo hin.out hsolo
      obtain ⟨uo, uc, huv, _⟩ := hA2.shape
      subst huv
      obtain ⟨vg, vc, hvv, _⟩ : ∃ g c, vv = .slice (some ⟨g, 0, none⟩) 1 c ∧ True := by
        rcases hrow2.2 with ⟨_, hn⟩ | ⟨g, cap, cur, hv, _⟩
        · cases hn
        · exact ⟨g, cap, hv, trivial⟩
      subst hvv
      have cu : W2.cell? ⟨vg, 0, none⟩ = some _ := hrow2.cellAt 0 (by decide)
      have aw := Lib.hid (((T3.out.a.keeps k1'.out fun _ _ => id).keeps hm2.keeps fun g hg hx => by have := T3.out.af g hg; have := S0.out.old g hx; omega).rd)
      have rd2 := Lib.hid hA2.rd
      have G2 := Lib.hid hS2.glob
      have K2 := Lib.hid (show Keeps (fun _ => False) w W2 from (K0.out.trans_ K01.out).trans hm2.keeps fun x hx hz => by have := X0.out x hz; omega)
      have cs := Lib.hid (same_yes _ _ _ W2 rd2.out aw.out (by show (9 : Nat) ≤ 1000; decide))
      clear hR hrow2 hA2 hS2 hm2 hsolo hrun
      go_wp2_with (first
        | (go_at_call 10; refine cs.out.mono ?_; rintro e W3 ⟨rfl, hK⟩; have K3 := Lib.hid hK; clear hK)
        | (go_at_call 8; refine (alive_any6 W3 (G2.out.keeps K3.out id)).mono ?_; rintro e W4 ⟨rfl, hK⟩; have K4 := Lib.hid ((K2.out.trans_ K3.out).trans_ hK); clear hK))
      go_ret
      exact ⟨rfl, K4.out.below (Nat.le_refl _) fun _ _ => id⟩

theorem metaWaits_et : Tryz.prog.globalNamed "errors.errorType" = some 0 := by kernel_rfl
theorem metaWaits_rt : (Tryz.prog.cutTypes.find? (·.1 == "internal/reflectlite.rtype")).map (·.2) = some 129 := by kernel_rfl
theorem metaWaits_oneRow : ((List.range 208).filter fun t => Tryz.prog.rowNamed t [101, 114, 114, 111, 114]) = [50] := by kernel_rfl
theorem metaWaits_size : Tryz.prog.types.size = 208 := by kernel_rfl

/-- What the listed variable gives the walk. -/
theorem metaWaits_glob {W : World} (h : laidMetH Tryz.prog Rows.metaWaitsRow.laid W) : Glob W := by
  have h' : laidMet Tryz.prog [] W ∧ handlesMet Tryz.prog Rows.metaWaitsRow.laid W := h
  obtain ⟨name, u, ty, e1, e2, e3, e4, e5⟩ := h'.2 _ (List.mem_singleton.2 rfl)
  have en : name = [101, 114, 114, 111, 114] := (Option.some.inj e1).symm
  subst en
  obtain rfl := Option.some.inj (metaWaits_rt.symm.trans e2)
  have hm : ty ∈ (List.range 208).filter fun t => Tryz.prog.rowNamed t [101, 114, 114, 111, 114] := List.mem_filter.2 ⟨List.mem_range.2 (by rw [← metaWaits_size]; exact e3), e4⟩
  rw [metaWaits_oneRow] at hm
  obtain rfl := List.mem_singleton.1 hm
  have hh : typeHandle Tryz.prog 50 = .pointer (some ⟨1, 50, none⟩) := by kernel_rfl
  rw [hh] at e5
  unfold Glob
  simpa using World.var?_cell metaWaits_et e5 0

/-- A world that meets the condition: the settled one, the variable's cell laid. -/
noncomputable def metaWaits_laidWorld (os : Os) : World :=
  let w0 := World.holding Tryz.prog os ⟨#[], #[], []⟩
  { w0 with heap := w0.heap.modify 0 fun
      | .cells _ t frozen => .cells #[.iface 129 (.agg #[.pointer (some ⟨1, 50, none⟩)])] t frozen
      | o => o }
theorem metaWaits_met (os : Os) (args : Array Value) : laidMetH Tryz.prog Rows.metaWaitsRow.laid ((metaWaits_laidWorld os).forCall (fun _ _ => 0) ⟨#[], args, []⟩).memory :=
  laidMetH_of_parts (laidMet_nil _ _) (by kernel_rfl)

theorem metaWaits_own : ownKnob Tryz.prog.godebug = none := by kernel_rfl
theorem metaWaits_laidOut : laidOutB Tryz.prog = true := by kernel_rfl

set_option maxRecDepth 100000 in
theorem metaWaits_lifted (os : Os) (started : os.Started) (H : Type) (enc : TypeId × Value → H) :
    ReturnsInHanded {} Tryz.checked os 6 .any (fun w args => (Rows.metaWaitsSpec.pre enc Tryz.prog Tryz.f6 [] false w args ∧ laidMetH Tryz.prog Rows.metaWaitsRow.laid w) ∧ sizedMet enc Tryz.prog Tryz.f6 (OpenSpec.ofChange Rows.metaWaitsSpec) false w args)
      (Rows.metaWaitsSpec.post enc Tryz.prog Tryz.f6 false true false false) := by
  refine returnsInHanded_of_change_and (C := Tryz.checked) (X := fun w _ => laidMetH Tryz.prog Rows.metaWaitsRow.laid w) (fun _ _ _ hh h => h.of_heap hh) metaWaits_own started (by kernel_rfl) Tryz.func6
    (ChangeSpec.witness_at (enc := enc) (C := Tryz.checked) (os := os) (X := fun w _ => laidMetH Tryz.prog Rows.metaWaitsRow.laid w) false (metaWaits_laidWorld os) #[.int .u64 0, .int .i64 0, .bool false, .bool false] 8 rfl (by kernel_rfl) (by kernel_rfl) (by kernel_rfl) (by kernel_rfl) (by kernel_rfl) (metaWaits_met os _)) ?_
  intro W base args ds gs before hval0 hW hcnd _ hL _
  have hGl := metaWaits_glob hL
  clear hcnd
  have hval : ∀ (j : Nat) t v, Tryz.f6.params[j]? = some t → args[j]? = some v → Value.okWide Tryz.prog W .any base t v := hval0
  have hW' := hW
  obtain ⟨p, q, hA0, hV, rfl, hfz, hnd⟩ := hW
  have hA : DataW.TrodAll enc Tryz.prog W 0 (fun _ => true) true Tryz.f6.params.toList args.toList ds p := hA0
  rw [Tryz.params6] at hA hval
  obtain ⟨v0, vs0, d0, ds0, p0, q0, hargs, rfl, rfl, h0, r0⟩ := trodAll_cons hA
  obtain ⟨v1, vs1, d1, ds1, p1, q1, rfl, rfl, rfl, h1, r1⟩ := trodAll_cons r0
  obtain ⟨v2, vs2, d2, ds2, p2, q2, rfl, rfl, rfl, h2, r2⟩ := trodAll_cons r1
  obtain ⟨v3, vs3, d3, ds3, p3, q3, rfl, rfl, rfl, h3, r3⟩ := trodAll_cons r2
  obtain ⟨rfl, rfl, rfl⟩ := trodAll_nil r3
  obtain rfl : args = #[v0, v1, v2, v3] := by cases args; simp_all
  obtain ⟨rfl, rfl⟩ := trodVars_none hV
  have k0 := h0
  have lt0 : ∀ x ∈ p0, x.block < W.heap.size := by obtain ⟨m, hm⟩ := k0; exact DataW.trod_lt m _ _ _ hm
  obtain ⟨a0, rfl, e0, f0, w0⟩ := open_int Tryz.underlying24 (hval 0 24 v0 rfl rfl) h0
  clear e0 f0
  have k1 := h1
  have lt1 : ∀ x ∈ p1, x.block < W.heap.size := by obtain ⟨m, hm⟩ := k1; exact DataW.trod_lt m _ _ _ hm
  obtain ⟨a1, rfl, e1, f1, w1⟩ := open_int Tryz.underlying3 (hval 1 3 v1 rfl rfl) h1
  clear e1 f1
  have k2 := h2
  have lt2 : ∀ x ∈ p2, x.block < W.heap.size := by obtain ⟨m, hm⟩ := k2; exact DataW.trod_lt m _ _ _ hm
  obtain ⟨a2, rfl, e2, f2⟩ := open_bool Tryz.underlying4 (hval 2 4 v2 rfl rfl) h2
  clear e2 f2
  have k3 := h3
  have lt3 : ∀ x ∈ p3, x.block < W.heap.size := by obtain ⟨m, hm⟩ := k3; exact DataW.trod_lt m _ _ _ hm
  obtain ⟨a3, rfl, e3, f3⟩ := open_bool Tryz.underlying4 (hval 3 4 v3 rfl rfl) h3
  clear e3 f3
  clear hA0 hval0
  refine (metaWaits_walk a0 a1 a2 a3 W w0 w1 hGl).mono fun e W' ⟨he, bel⟩ => ?_
  subst he
  exact ⟨_, rfl, _, _, _, [], _, [], hW', trodAll_mk1 (shut_bool Tryz.underlying4 _), (trodAll_cons_mk (Below.trod metaWaits_laidOut (by kernel_rfl) (of_decide_eq_true (by kernel_rfl)) k0 bel lt0) (trodAll_cons_mk (Below.trod metaWaits_laidOut (by kernel_rfl) (of_decide_eq_true (by kernel_rfl)) k1 bel lt1) (trodAll_cons_mk (Below.trod metaWaits_laidOut (by kernel_rfl) (of_decide_eq_true (by kernel_rfl)) k2 bel lt2) (trodAll_cons_mk (Below.trod metaWaits_laidOut (by kernel_rfl) (of_decide_eq_true (by kernel_rfl)) k3 bel lt3) trodAll_mk0)))), rfl, bel.frame _, fun h => by cases h⟩

/-- The statement MetaWaits. -/
theorem metaWaits_holds : Rows.MetaWaitsSaid :=
  OpenClaim.holds_of_wide 6 Tryz.f6 rfl rfl rfl rfl rfl rfl rfl ⟨rfl, rfl, rfl, rfl, rfl⟩ rfl rfl rfl rfl rfl (by kernel_rfl) Tryz.func6 (by kernel_rfl)
    (of_decide_eq_true (by kernel_rfl)) (by unfold Func.isWrapper; first | (rw [if_pos (by decide +kernel)]; kernel_rfl) | (rw [if_neg (by decide +kernel)]; exact ⟨rfl, rfl⟩))
    (fun os started H enc _ => metaWaits_lifted os started H enc)
#print axioms metaWaits_holds

/-- The card: the row, what it lists tied to the program's text. -/
theorem metaWaits_card : Rows.MetaWaitsCardSaid :=
  Claim7.holds_tied_plain_at .later [] [.handle] true Rows.metaWaitsCard.stood.harness true
    metaWaits_holds (fun _ h => by cases h) (by kernel_rfl) (fun _ h => by cases h) metaWaits_row_tie rfl ⟨rfl, rfl⟩ (by kernel_rfl) rfl
    (fun f fn hf hfn => by
      obtain rfl : f = 6 := Option.some.inj ((show Tryz.prog.funcNamed "concord/concordlaw06.MetaWaits" = some 6 by kernel_rfl).symm.trans hf) |>.symm
      obtain rfl : fn = Tryz.f6 := (Option.some.inj (Tryz.func6.symm.trans hfn)).symm
      exact ⟨by kernel_rfl, fun j t ht => by
        rw [Tryz.params6] at ht
        have hm : t ∈ Tryz.f6.params.toList := by rw [Tryz.params6]; simpa using Array.mem_of_getElem? ht
        have hall : (Tryz.f6.params.toList.all fun u => !Tryz.prog.wantsStandIn u) = true := by kernel_rfl
        exact (show Tryz.prog.wantsStandIn t = false by simpa using List.all_eq_true.1 hall t hm)⟩)
    (by kernel_rfl)
#print axioms metaWaits_card

end Go.Proofs.YtenhmficiegpiaaGreatDoor
