/-
  BitsRanks: called with any map and any slot, concordlaw03.BitsRanks returns true and changes nothing. No conditions but the tied variable.
-/
import Derived.Test.YtieilbihfbghjaaDoorBtAlive
import Derived.Test.YtieilbihfbghjaaDoorBtRank
import Derived.Test.YtieilbihfbghjaaDoorBtLaid
import Derived.Test.YtieilbihfbghjaaDoorRows
import Derived.Test.YtieilbihfbghjaaDoorCards
import Derived.Test.YtieilbihfbghjaaDoorTie
import Derived.ProofKit
import Derived.OpenShut
import Derived.ChangeOld
import Derived.SevenTiedAt
namespace Go.Proofs.YtieilbihfbghjaaDoor
open Go.ChangeShapes Go.WideShapes Go.ChangeAt Go.RowKit

theorem Glob.drewN {w : World} (h : Glob w) (n : Nat) : Glob (w.drewN n) := h
theorem below_drewN (w : World) (n : Nat) : Below w.heap.size w (w.drewN n) := ⟨rfl, rfl, rfl, Nat.le_refl _, fun _ _ => rfl⟩
theorem inN_of (k : Nat) (h : k < 32) : inN (k : Int) = k := by unfold inN; omega

theorem rk_rank (m k c : Nat) (hk : k < 32) (hm : m < 4294967296) (hc : cnt m k = c) (w : World) :
    Calls Tryd.prog 19 #[.int .u32 m, .int .i64 k] w fun e w' => e = .returned (.int .i64 c) ∧ ∃ n, w' = w.drewN n := by
  have h := bt_rank m (k : Int) hm w
  rwa [inN_of k hk, hc] at h
theorem rk_has (m k : Nat) (b : Bool) (hb : bitB m k = b) (hk : k < 32) (hm : m < 4294967296) (w : World) :
    Calls Tryd.prog 14 #[.int .u32 m, .int .i64 k] w fun e w' => e = .returned (.bool b) ∧ w = w' :=
  bt_has m (k : Int) b (by rw [inN_of k hk]; exact hb) hm w
theorem rk_with (m s t : Nat) (hs : s < 32) (hm : m < 4294967296) (ht : setTo m s true = t) (w : World) :
    Calls Tryd.prog 16 #[.int .u32 m, .int .i64 s] w fun e w' => e = .returned (.int .u32 t) ∧ w = w' := by
  have h := bt_with m (s : Int) hm w
  rwa [inN_of s hs, ht] at h
theorem rk_without (m s t : Nat) (hs : s < 32) (hm : m < 4294967296) (ht : setTo m s false = t) (w : World) :
    Calls Tryd.prog 18 #[.int .u32 m, .int .i64 s] w fun e w' => e = .returned (.int .u32 t) ∧ w = w' := by
  have h := bt_without m (s : Int) hm w
  rwa [inN_of s hs, ht] at h
theorem more_of (m s k c : Nat) (b : Bool) (hb : bitB m s = b) (hk : k ≤ 32) (hs : s < 32) (hc : cnt m k = c) : cnt (setTo m s true) k = c + if s < k then (if b = true then 0 else 1) else 0 := by
  rw [cnt_with m s k hk hs, hc, ← hb]
  unfold bitB
  rcases Nat.mod_two_eq_zero_or_one (m / 2 ^ s) with h | h <;> simp [h]

set_option maxHeartbeats 2000000 in
theorem ranks_any (m : Nat) (slot : Int) (hm : m < 4294967296) (w : World) (hg : Glob w) :
    Calls Tryd.prog 6 #[.int .u32 m, .int .i64 slot] w fun e w' => e = .returned (.bool true) ∧ Below w.heap.size w w' := by
  have G := Lib.hid hg
  obtain ⟨h1, h2⟩ := tmod_in slot
  have hn := in_num slot
  have hs := inN_lt slot
  generalize inN slot = s at hn hs
  obtain ⟨t, ht⟩ : ∃ t, setTo m s true = t := ⟨_, rfl⟩
  obtain ⟨u, hu⟩ : ∃ u, setTo m s false = u := ⟨_, rfl⟩
  have hv : setTo t s false = u := by rw [← ht, setTo_twice m s hm hs, hu]
  have htl : t < 4294967296 := by rw [← ht]; exact setTo_lt m s true hm hs
  obtain ⟨b, hb⟩ : ∃ b, bitB m s = b := ⟨_, rfl⟩
  have B := Lib.hid hb
  have T := Lib.hid ht
  have U := Lib.hid hu
  have V := Lib.hid hv
  clear hg hb ht hu hv
  go_enter Tryd.func6, Tryd.ntmps6
  go_wp2
  go_loopw [5, 6] (fun c i wr => ∃ k d : Nat, k ≤ 32 ∧ i = .int .i64 k ∧ (∃ n : Nat, n = cnt m k ∧ c = .int .i64 n) ∧ wr = w.drewN d) (fun _ i _ => 32 - (intOf i).toNat)
  case atStart => exact ⟨0, 0, by omega, rfl, ⟨0, rfl, rfl⟩, rfl⟩
  case round =>
    obtain ⟨k, d, hk, rfl, ⟨n, hn', rfl⟩, rfl⟩ := hrel
    have nl : n ≤ k := by rw [hn']; exact cnt_le m k
    have X := Lib.hid hn'.symm
    by_cases hlt : k < 32
    · have st := Lib.hid (cnt_succ m k)
      obtain ⟨q, hq⟩ : ∃ q, bitB m k = q := ⟨_, rfl⟩
      have Q := Lib.hid hq
      have R : Hid (n + (if q = true then 1 else 0) = cnt m (k + 1)) := Lib.hid (by
        rw [cnt_succ, ← hq, hn']
        unfold bitB
        rcases Nat.mod_two_eq_zero_or_one (m / 2 ^ k) with h | h <;> simp [h])
      clear hn' hq st
      cases q
      all_goals
        go_wp2_with (first
          | (go_at_call 19; refine (rk_rank m k n hlt hm X.out _).mono ?_; rintro e w1 ⟨rfl, n1, rfl⟩)
          | (go_at_call 14; refine (rk_has m k _ Q.out hlt hm _).mono ?_; rintro e w' ⟨rfl, rfl⟩))
        go_roundw
        case rel => exact ⟨k + 1, _, by omega, by go_num, ⟨_, R.out, by go_num⟩, rfl⟩
        case measure => simp [intOf]; omega
    · clear hn'
      cases b
      all_goals
        go_wp2_with (first
          | (go_at_call 16; refine (rk_with m s t hs hm T.out _).mono ?_; rintro e w' ⟨rfl, rfl⟩)
          | (go_at_call 14; refine (rk_has m s _ B.out hs hm _).mono ?_; rintro e w' ⟨rfl, rfl⟩))
        have M := fun (k c : Nat) hk hc => Lib.hid (more_of m s k c _ B.out hk hs hc)
        go_loopw [9] (fun i wr => ∃ k d : Nat, k ≤ 32 ∧ i = .int .i64 k ∧ wr = w.drewN d) (fun i _ => 32 - (intOf i).toNat)
        case atStart => exact ⟨0, d, by omega, rfl, rfl⟩
        case round =>
          obtain ⟨j, d2, hj, rfl, rfl⟩ := hrel
          by_cases hjl : j < 32
          · obtain ⟨c, hc⟩ : ∃ c, cnt m j = c := ⟨_, rfl⟩
            have cl : c ≤ j := by rw [← hc]; exact cnt_le m j
            have Z := (M j c hj hc).out
            have C := Lib.hid hc
            clear hc
            by_cases hsj : s < j
            · rw [if_pos hsj, T.out] at Z
              have Y := Lib.hid Z
              clear Z
              go_wp2_with fail
              refine (rk_rank m j c hjl hm C.out _).mono ?_
              rintro e w1 ⟨rfl, n1, rfl⟩
              go_wp2_with fail
              refine (rk_rank t j _ hjl htl Y.out _).mono ?_
              rintro e w1 ⟨rfl, n2, rfl⟩
              go_wp2
              go_roundw
              case rel => exact ⟨j + 1, _, by omega, by go_num, rfl⟩
              case measure => simp [intOf]; omega
            · rw [if_neg hsj, T.out] at Z
              have Y := Lib.hid Z
              clear Z
              go_wp2_with fail
              refine (rk_rank m j c hjl hm C.out _).mono ?_
              rintro e w1 ⟨rfl, n1, rfl⟩
              go_wp2_with fail
              refine (rk_rank t j _ hjl htl Y.out _).mono ?_
              rintro e w1 ⟨rfl, n2, rfl⟩
              go_wp2
              go_roundw
              case rel => exact ⟨j + 1, _, by omega, by go_num, rfl⟩
              case measure => simp [intOf]; omega
          · go_wp2_with fail
            refine (rk_without t s u hs htl V.out _).mono ?_
            rintro e w' ⟨rfl, rfl⟩
            go_wp2_with fail
            refine (rk_without m s u hs hm U.out _).mono ?_
            rintro e w' ⟨rfl, rfl⟩
            go_wp2_with (go_at_call 13; refine (alive_any _ (G.out.drewN d2)).mono ?_; rintro e w' ⟨rfl, rfl⟩)
            go_ret
            exact ⟨rfl, below_drewN _ d2⟩

theorem bitsRanks_walk (m slot : Int) (w : World) (w0 : (Lit.int .u32 m).wf = true) (_w1 : (Lit.int .i64 slot).wf = true) (hg : Glob w) :
    Calls Tryd.prog 6 #[.int .u32 m, .int .i64 slot] w fun e w' => e = .returned (.bool true) ∧ Below w.heap.size w w' := by
  obtain ⟨n, rfl, hn⟩ := u32_of w0
  exact ranks_any n slot hn w hg

theorem bitsRanks_own : ownKnob Tryd.prog.godebug = none := by kernel_rfl
theorem bitsRanks_laidOut : laidOutB Tryd.prog = true := by kernel_rfl

set_option maxRecDepth 100000 in
theorem bitsRanks_lifted (os : Os) (started : os.Started) (H : Type) (enc : TypeId × Value → H) :
    ReturnsInHanded {} Tryd.checked os 6 .any (fun w args => (Rows.bitsRanksSpec.pre enc Tryd.prog Tryd.f6 [] false w args ∧ laidMetH Tryd.prog btLaid w) ∧ sizedMet enc Tryd.prog Tryd.f6 (OpenSpec.ofChange Rows.bitsRanksSpec) false w args)
      (Rows.bitsRanksSpec.post enc Tryd.prog Tryd.f6 false true false false) := by
  refine returnsInHanded_of_change_and (C := Tryd.checked) (X := fun w _ => laidMetH Tryd.prog btLaid w) (fun _ _ _ hh h => h.of_heap hh) bitsRanks_own started (by kernel_rfl) Tryd.func6
    (ChangeSpec.witness_shaped (enc := enc) (C := Tryd.checked) (os := os) (X := fun w _ => laidMetH Tryd.prog btLaid w) false (World.doorLaid Tryd.prog 400 os) #[.int .u32 0, .int .i64 0] 8 rfl (bt_shaped os _) (by kernel_rfl) (by kernel_rfl) (by kernel_rfl) (bt_met os _)) ?_
  intro W base args ds gs before hval0 hW hcnd _ hL _
  have hGl := bt_glob hL
  clear hcnd
  have hval : ∀ (j : Nat) t v, Tryd.f6.params[j]? = some t → args[j]? = some v → Value.okWide Tryd.prog W .any base t v := hval0
  have hW' := hW
  obtain ⟨p, q, hA0, hV, rfl, hfz, hnd⟩ := hW
  have hA : DataW.TrodAll enc Tryd.prog W 0 (fun _ => true) true Tryd.f6.params.toList args.toList ds p := hA0
  rw [Tryd.params6] at hA hval
  obtain ⟨v0, vs0, d0, ds0, p0, q0, hargs, rfl, rfl, h0, r0⟩ := trodAll_cons hA
  obtain ⟨v1, vs1, d1, ds1, p1, q1, rfl, rfl, rfl, h1, r1⟩ := trodAll_cons r0
  obtain ⟨rfl, rfl, rfl⟩ := trodAll_nil r1
  obtain rfl : args = #[v0, v1] := by cases args; simp_all
  obtain ⟨rfl, rfl⟩ := trodVars_none hV
  have k0 := h0
  have lt0 : ∀ x ∈ p0, x.block < W.heap.size := by obtain ⟨m, hm⟩ := k0; exact DataW.trod_lt m _ _ _ hm
  obtain ⟨a0, rfl, e0, f0, w0⟩ := open_int Tryd.underlying22 (hval 0 22 v0 rfl rfl) h0
  clear e0 f0
  have k1 := h1
  have lt1 : ∀ x ∈ p1, x.block < W.heap.size := by obtain ⟨m, hm⟩ := k1; exact DataW.trod_lt m _ _ _ hm
  obtain ⟨a1, rfl, e1, f1, w1⟩ := open_int Tryd.underlying3 (hval 1 3 v1 rfl rfl) h1
  clear e1 f1
  clear hA0 hval0
  refine (bitsRanks_walk a0 a1 W w0 w1 hGl).mono fun e W' ⟨he, bel⟩ => ?_
  subst he
  exact ⟨_, rfl, _, _, _, [], _, [], hW', trodAll_mk1 (shut_bool Tryd.underlying4 _), (trodAll_cons_mk (Below.trod bitsRanks_laidOut (by kernel_rfl) (of_decide_eq_true (by kernel_rfl)) k0 bel lt0) (trodAll_cons_mk (Below.trod bitsRanks_laidOut (by kernel_rfl) (of_decide_eq_true (by kernel_rfl)) k1 bel lt1) trodAll_mk0)), rfl, bel.frame _, fun h => by cases h⟩

/-- The statement BitsRanks. -/
theorem bitsRanks_holds : Rows.BitsRanksSaid :=
  OpenClaim.holds_of_wide 6 Tryd.f6 rfl rfl rfl rfl rfl rfl rfl ⟨rfl, rfl, rfl, rfl, rfl⟩ rfl rfl rfl rfl rfl (by kernel_rfl) Tryd.func6 (by kernel_rfl)
    (of_decide_eq_true (by kernel_rfl)) (by unfold Func.isWrapper; first | (rw [if_pos (by decide +kernel)]; kernel_rfl) | (rw [if_neg (by decide +kernel)]; exact ⟨rfl, rfl⟩))
    (fun os started H enc _ => bitsRanks_lifted os started H enc)
#print axioms bitsRanks_holds

/-- The card: the row, what it lists tied to the program's text. -/
theorem bitsRanks_card : Rows.BitsRanksCardSaid :=
  Claim7.holds_tied_plain_at .later [] [.data] true Rows.bitsRanksCard.stood.harness true
    bitsRanks_holds (fun _ h => by cases h) (by kernel_rfl) (fun _ h => by cases h) bitsRanks_row_tie rfl ⟨rfl, rfl⟩ (by kernel_rfl) rfl
    (fun f fn hf hfn => by
      obtain rfl : f = 6 := Option.some.inj ((show Tryd.prog.funcNamed "concord/concordlaw03.BitsRanks" = some 6 by kernel_rfl).symm.trans hf) |>.symm
      obtain rfl : fn = Tryd.f6 := (Option.some.inj (Tryd.func6.symm.trans hfn)).symm
      exact ⟨by kernel_rfl, fun j t ht => by
        rw [Tryd.params6] at ht
        have hm : t ∈ Tryd.f6.params.toList := by rw [Tryd.params6]; simpa using Array.mem_of_getElem? ht
        have hall : (Tryd.f6.params.toList.all fun u => !Tryd.prog.wantsStandIn u) = true := by kernel_rfl
        exact (show Tryd.prog.wantsStandIn t = false by simpa using List.all_eq_true.1 hall t hm)⟩)
    (by kernel_rfl)
#print axioms bitsRanks_card
end Go.Proofs.YtieilbihfbghjaaDoor
