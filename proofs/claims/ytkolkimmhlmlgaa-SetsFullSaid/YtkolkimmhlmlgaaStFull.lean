/-
  The statement SetsFull: called with any cell and any value, concordlaw07.SetsFull returns true and changes nothing. No conditions.
-/
import Derived.Test.YtkolkimmhlmlgaaStAlive
import Derived.Test.YtkolkimmhlmlgaaRows
import Derived.ProofKit
import Derived.OpenShut
import Derived.ShutString
import Derived.ChangeOld
namespace Go.Proofs.Ytkolkimmhlmlgaa
open Go.RowKit Go.Maps Go.Extern.Stop Go.Stop Go.Extern
open Go.ChangeShapes Go.WideShapes Go.ChangeAt

/-- The j-th cell from the first one on. -/
def kc (c : Int) (j : Nat) : Int := IntKind.u64.wrap (c + (j : Int))

theorem wfU_iff (c : Int) : wfU c ↔ 0 ≤ c ∧ c ≤ 18446744073709551615 := by
  show (Lit.wf (.int .u64 c)) = true ↔ _
  simp [Lit.wf, IntKind.min, IntKind.max, IntKind.signed, IntKind.bits]
theorem kc_wf (c : Int) (j : Nat) : wfU (kc c j) := by
  unfold kc
  rw [wfU_iff, IntKind.wrap_u64]
  omega
theorem kc_inj {c : Int} {i j : Nat} (hi : i ≤ 500) (hj : j ≤ 500) (h : kc c i = kc c j) : i = j := by
  unfold kc at h
  rw [IntKind.wrap_u64, IntKind.wrap_u64] at h
  omega
theorem kc_zero {c : Int} (hc : wfU c) : kc c 0 = c := by
  unfold kc
  rw [wfU_iff] at hc
  rw [IntKind.wrap_u64]
  omega

/-- The cells read. -/
def rr (c : Int) (i : Nat) : Tl := (List.range i).map fun j => (kc c j, 1)

theorem rr_succ (c : Int) (i : Nat) : rr c (i + 1) = rr c i ++ [(kc c i, 1)] := by simp [rr, List.range_succ]
theorem rr_len (c : Int) (i : Nat) : (rr c i).length = i := by simp [rr]
theorem rr_none {c : Int} {i j : Nat} (hij : i ≤ j) (hj : j ≤ 500) : look (rr c i) (kc c j) = none := by
  rw [look_none]
  intro h
  simp only [rr, List.map_map, List.mem_map, List.mem_range] at h
  obtain ⟨k, hk, e⟩ := h
  have := kc_inj (by omega) hj e
  omega
theorem rr_some {c : Int} (i : Nat) : look (rr c (i + 1)) (kc c 0) = some 1 := by
  rw [show rr c (i + 1) = (kc c 0, 1) :: (List.range i).map (fun j => (kc c (j + 1), 1)) by simp [rr, List.range_succ_eq_map, List.map_map, Function.comp_def]]
  simp [look]

/-- Behind i rounds. -/
structure Fs (c : Int) (i : Nat) (A : AS) : Prop where
  R : A.R = rr c i
  W : A.W.length = i
  is : ∀ j, j < i → look A.W (kc c j) ≠ none
  no : ∀ j, i ≤ j → j ≤ 500 → look A.W (kc c j) = none
  M : A.M = []

theorem Fs.none (c : Int) : Fs c 0 AS.none := ⟨rfl, rfl, fun _ h => absurd h (Nat.not_lt_zero _), fun _ _ _ => rfl, rfl⟩

theorem Fs.read {c : Int} {i : Nat} {A : AS} (h : Fs c i A) (hi : i < 500) : aRead A (kc c i) 1 = ({ A with R := rr c (i + 1) }, 0, 0) := by
  unfold aRead
  rw [h.R, rr_none (Nat.le_refl i) (by omega), rr_len, rr_succ]
  simp [show ¬ 500 ≤ i by omega]
theorem Fs.write {c v : Int} {i : Nat} {A : AS} (h : Fs c i A) (hi : i < 500) : aWrite { A with R := rr c (i + 1) } (kc c i) v = ({ A with R := rr c (i + 1), W := put A.W (kc c i) v }, 0) := by
  unfold aWrite
  rw [if_neg (fun e => by have := h.W; have := e.2; simp only at this; omega)]
theorem Fs.next {c v : Int} {i : Nat} {A : AS} (h : Fs c i A) (ok : A.Ok) (hi : i < 500) : Fs c (i + 1) { A with R := rr c (i + 1), W := put A.W (kc c i) v } where
  R := rfl
  W := by
    show (put A.W (kc c i) v).length = i + 1
    rw [len_put_new ok.up (h.no i (Nat.le_refl _) (by omega)), h.W]
  is := fun j hj => by
    show look (put A.W (kc c i) v) (kc c j) ≠ Option.none
    rw [look_put]
    split
    · simp
    · rename_i hne
      exact h.is j (by rcases Nat.lt_or_ge j i with h | h; exact h; exact absurd (by rw [show j = i by omega]) hne)
  no := fun j hj hj' => by
    show look (put A.W (kc c i) v) (kc c j) = Option.none
    rw [look_put, if_neg (fun e => by have := kc_inj hj' (by omega) e; omega)]
    exact h.no j (by omega) hj'
  M := h.M

theorem Fs.full_read {c : Int} {A : AS} (h : Fs c 500 A) : aRead A (kc c 500) 1 = (A, 8, 0) := by
  unfold aRead
  rw [h.R, rr_none (Nat.le_refl 500) (Nat.le_refl _), rr_len]
  simp
theorem Fs.full_write {c v : Int} {A : AS} (h : Fs c 500 A) : aWrite A (kc c 500) v = (A, 8) := by
  unfold aWrite
  rw [if_pos ⟨h.no 500 (Nat.le_refl _) (Nat.le_refl _), by rw [h.W]; exact Nat.le_refl _⟩]
theorem Fs.again_read {c : Int} {A : AS} (h : Fs c 500 A) : aRead A (kc c 0) 1 = (A, 0, 0) := by
  unfold aRead
  rw [h.R, rr_some 499]
  simp
theorem Fs.again_write {c v : Int} {A : AS} (h : Fs c 500 A) : aWrite A (kc c 0) v = ({ A with W := put A.W (kc c 0) v }, 0) := by
  unfold aWrite
  rw [if_neg (fun e => h.is 0 (by decide) e.1)]

theorem mark_fit {A : AS} {i : Nat} (h : A.M.length + 1 = i) (hi : i ≤ 20) : aMark A = ({ A with M := A.M ++ [A.W] }, i, 0) := by
  unfold aMark
  rw [if_neg (by omega), h]
theorem mark_deep {A : AS} (h : A.M.length = 20) : aMark A = (A, 0, 10) := by
  unfold aMark
  rw [if_pos (by omega)]

theorem no_err8 {w : World} {v : Value} {a : Int} (h : ErrU w v 8 a) : Calls Try.prog 8 #[v] w fun e w' => e = .returned (.int .i64 8) ∧ w = w' := no_u h
theorem no_err10 {w : World} {v : Value} {a : Int} (h : ErrU w v 10 a) : Calls Try.prog 8 #[v] w fun e w' => e = .returned (.int .i64 10) ∧ w = w' := no_u h

set_option maxRecDepth 100000 in
set_option maxHeartbeats 1000000 in
theorem setsFull_walk (c v : Int) (w : World) (w0 : (Lit.int .u64 c).wf = true) (_w1 : (Lit.int .u64 v).wf = true) :
    Calls Try.prog 4 #[.int .u64 c, .int .u64 v] w fun e w' => e = .returned (.bool true) ∧ Below w.heap.size w w' := by
  go_enter Try.func4, Try.ntmps4
  go_wp2_with fail
  refine (new_on _).mono ?_
  rintro e w1 ⟨s, rfl, h1⟩
  have O1 := Lib.hid h1
  clear h1
  go_wp2_with fail
  go_loopw [6] (fun iv wr => ∃ (i : Nat) (A : AS), iv = .int .u64 i ∧ i ≤ 500 ∧ Fs c i A ∧ On w wr s A) (fun iv _ => 500 - (intOf iv).toNat)
  case atStart => exact ⟨0, _, rfl, Nat.zero_le _, Fs.none c, O1.out⟩
  case round =>
    obtain ⟨i, A, rfl, hi, hF, hO⟩ := hrel
    by_cases hlt : i < 500
    · have b1 : (i : Int) < 500 := by omega
      obtain ⟨q, hq⟩ : ∃ q, kc c i = q := ⟨_, rfl⟩
      have hq1 : IntKind.u64.wrap (c + (i : Int)) = q := hq
      have hqw : wfU q := by rw [← hq]; exact kc_wf c i
      have c1 := read_on hO q 1 hqw
      have e1 := hF.read hlt
      rw [hq] at e1
      rw [e1] at c1
      have e2 := hF.write (v := v) hlt
      have hF2 := hF.next (v := v) hO.ok hlt
      rw [hq] at e2 hF2
      have E2 := Lib.hid e2
      have F2 := Lib.hid hF2
      have C1 := Lib.hid c1
      clear c1 e1 e2 hF2 hF hO hq
      go_wp2_with fail
      refine C1.out.mono ?_
      rintro e w2 ⟨ev, rfl, he, h2⟩
      obtain rfl := he.nil
      have c2 := write_on h2 q v hqw
      rw [E2.out] at c2
      have C2 := Lib.hid c2
      clear c2 h2 he
      go_wp2_with (first | (go_at_call 8; refine (no_nil _).mono ?_; rintro e w' ⟨rfl, rfl⟩))
      refine C2.out.mono ?_
      rintro e w3 ⟨ev, rfl, he, h3⟩
      obtain rfl := he.nil
      have O3 := Lib.hid h3
      clear h3 he
      go_wp2_with (first | (go_at_call 8; refine (no_nil _).mono ?_; rintro e w' ⟨rfl, rfl⟩))
      go_roundw
      case rel => exact ⟨i + 1, _, by go_num, by omega, F2.out, O3.out⟩
      case measure => simp [intOf]; omega
    · obtain rfl : i = 500 := by omega
      have b1 : ¬ ((500 : Nat) : Int) < 500 := by decide
      obtain ⟨q, hq⟩ : ∃ q, kc c 500 = q := ⟨_, rfl⟩
      have hq1 : IntKind.u64.wrap (c + 500) = q := hq
      have hqw : wfU q := by rw [← hq]; exact kc_wf c 500
      have z := kc_zero w0
      have c1 := read_on hO q 1 hqw
      have e1 := hF.full_read
      have e2 := hF.full_write (v := v)
      have e3 := hF.again_read
      obtain ⟨v', hv'⟩ : ∃ v', IntKind.u64.wrap (v + 1) = v' := ⟨_, rfl⟩
      have e4 := hF.again_write (v := v')
      rw [hq] at e1 e2
      rw [z] at e3 e4
      rw [e1] at c1
      have hlen : (put A.W c v').length = 500 := by rw [len_put_there hO.ok.up (by rw [← z]; exact hF.is 0 (by decide)), hF.W]
      have E2 := Lib.hid e2
      have E3 := Lib.hid e3
      have E4 := Lib.hid e4
      have hR : A.R.length = 500 := by rw [hF.R, rr_len]
      have hR' := Lib.hid hR
      have hM' := Lib.hid hF.M
      have hlen' := Lib.hid hlen
      have C1 := Lib.hid c1
      clear c1 e1 e2 e3 e4 hF hO hq z hlen hR hi hlt
      go_wp2_with fail
      refine C1.out.mono ?_
      rintro e w2 ⟨ev, rfl, he, h2⟩
      have N2 := Lib.hid (no_err8 he)
      have c2 := write_on h2 q v hqw
      rw [E2.out] at c2
      have C2 := Lib.hid c2
      clear c2 h2 he
      go_wp2_with (first | (go_at_call 8; refine N2.out.mono ?_; rintro e w' ⟨rfl, rfl⟩))
      refine C2.out.mono ?_
      rintro e w3 ⟨ev, rfl, he, h3⟩
      have N3 := Lib.hid (no_err8 he)
      have c3 := read_on h3 c 1 w0
      rw [E3.out] at c3
      have C3 := Lib.hid c3
      clear c3 h3 he
      go_wp2_with (first | (go_at_call 8; refine N3.out.mono ?_; rintro e w' ⟨rfl, rfl⟩))
      refine C3.out.mono ?_
      rintro e w4 ⟨ev, rfl, he, h4⟩
      obtain rfl := he.nil
      have c4 := write_on h4 c v' w0
      rw [E4.out] at c4
      have C4 := Lib.hid c4
      clear c4 h4 he
      go_wp2_with (first | (go_at_call 8; refine (no_nil _).mono ?_; rintro e w' ⟨rfl, rfl⟩))
      refine C4.out.mono ?_
      rintro e w5 ⟨ev, rfl, he, h5⟩
      obtain rfl := he.nil
      have O5 := Lib.hid h5
      clear h5 he
      go_wp2_with (first | (go_at_call 8; refine (no_nil _).mono ?_; rintro e w' ⟨rfl, rfl⟩))
      go_loopw [7] (fun iv wr => ∃ (i : Nat) (B : AS), iv = .int .i64 i ∧ 1 ≤ i ∧ i ≤ 21 ∧ B.M.length + 1 = i ∧ B.R.length = 500 ∧ B.W.length = 500 ∧ On w wr s B) (fun iv _ => 21 - (intOf iv).toNat)
      case atStart => exact ⟨1, { A with W := put A.W c v' }, rfl, Nat.le_refl _, by decide, by show A.M.length + 1 = 1; rw [hM'.out]; rfl, hR'.out, hlen'.out, O5.out⟩
      case round =>
        obtain ⟨i, B, rfl, hi1, hi, hm, hr, hw, hO⟩ := hrel
        by_cases hlt : i ≤ 20
        · have b2 : (i : Int) ≤ 20 := by omega
          have c6 := mark_on hO
          rw [mark_fit hm hlt] at c6
          have C6 := Lib.hid c6
          have hm' := Lib.hid hm
          have hr' := Lib.hid hr
          have hw' := Lib.hid hw
          have b3 : ((i : Int) != (i : Int)) = false := by simp
          clear c6 hO hm hr hw
          go_wp2_with fail
          refine C6.out.mono ?_
          rintro e w6 ⟨ev, rfl, he, h6⟩
          obtain rfl := he.nil
          have O6 := Lib.hid h6
          clear h6 he
          go_wp2_with (first | (go_at_call 8; refine (no_nil _).mono ?_; rintro e w' ⟨rfl, rfl⟩))
          go_roundw
          case rel => exact ⟨i + 1, { B with M := B.M ++ [B.W] }, by go_num, by omega, by omega, by show (B.M ++ [B.W]).length + 1 = i + 1; simp [hm'.out], hr'.out, hw'.out, O6.out⟩
          case measure => simp [intOf]; omega
        · obtain rfl : i = 21 := by omega
          have b2 : ¬ ((21 : Nat) : Int) ≤ 20 := by decide
          have c6 := mark_on hO
          rw [mark_deep (by omega)] at c6
          have C6 := Lib.hid c6
          have hr' := Lib.hid hr
          have hw' := Lib.hid hw
          clear c6 hO hm hr hw
          go_wp2_with fail
          refine C6.out.mono ?_
          rintro e w6 ⟨ev, rfl, he, h6⟩
          have N6 := Lib.hid (no_err10 he)
          have C7 := Lib.hid (reads_on h6)
          clear h6 he
          go_wp2_with (first | (go_at_call 8; refine N6.out.mono ?_; rintro e w' ⟨rfl, rfl⟩))
          refine C7.out.mono ?_
          rintro e w7 ⟨u, rfl, hu, h7, _⟩
          obtain ⟨o, cap, rfl, _⟩ := row_shape hu
          rw [hr'.out]
          have C8 := Lib.hid (writes_on h7)
          clear hu h7
          go_wp2_with fail
          refine C8.out.mono ?_
          rintro e w8 ⟨u, rfl, hu, h8, _⟩
          obtain ⟨o', cap', rfl, _⟩ := row_shape hu
          rw [hw'.out]
          have K8 := Lib.hid h8.keeps
          clear hu h8
          go_wp2_with (first | (go_at_call 7; refine (alive_any _).mono ?_; rintro e w9 ⟨rfl, k9⟩; have K9 := Lib.hid k9; clear k9))
          go_ret
          exact ⟨rfl, (K8.out.trans_ K9.out).below (Nat.le_refl _) (fun _ _ h => h)⟩

theorem setsFull_own : ownKnob Try.prog.godebug = none := by kernel_rfl
theorem setsFull_laidOut : laidOutB Try.prog = true := by kernel_rfl

set_option maxRecDepth 100000 in
theorem setsFull_lifted (os : Os) (started : os.Started) (H : Type) (enc : TypeId × Value → H) :
    ReturnsInHanded {} Try.checked os 4 .any (Rows.setsFullSpec.pre6 enc Try.prog Try.f4 Rows.setsFullRow.domain false) (Rows.setsFullSpec.post enc Try.prog Try.f4 false true false false) := by
  refine returnsInHanded_of_change (C := Try.checked) setsFull_own started (by kernel_rfl) Try.func4
    (ChangeSpec.witness6 (enc := enc) (C := Try.checked) false ⟨#[], #[.int .u64 0, .int .u64 0], []⟩ 8 (by kernel_rfl) (by kernel_rfl) (by kernel_rfl) (by kernel_rfl)) ?_
  intro W base args ds gs before hval0 hW hcnd _
  clear hcnd
  have hval : ∀ (j : Nat) t v, Try.f4.params[j]? = some t → args[j]? = some v → Value.okWide Try.prog W .any base t v := hval0
  have hW' := hW
  obtain ⟨p, q, hA0, hV, rfl, hfz, hnd⟩ := hW
  have hA : DataW.TrodAll enc Try.prog W 0 (fun _ => true) true Try.f4.params.toList args.toList ds p := hA0
  rw [Try.params4] at hA hval
  obtain ⟨v0, vs0, d0, ds0, p0, q0, hargs, rfl, rfl, h0, r0⟩ := trodAll_cons hA
  obtain ⟨v1, vs1, d1, ds1, p1, q1, rfl, rfl, rfl, h1, r1⟩ := trodAll_cons r0
  obtain ⟨rfl, rfl, rfl⟩ := trodAll_nil r1
  obtain rfl : args = #[v0, v1] := by cases args; simp_all
  obtain ⟨rfl, rfl⟩ := trodVars_none hV
  have k0 := h0
  have lt0 : ∀ x ∈ p0, x.block < W.heap.size := by obtain ⟨m, hm⟩ := k0; exact DataW.trod_lt m _ _ _ hm
  obtain ⟨a0, rfl, e0, f0, w0⟩ := open_int Try.underlying26 (hval 0 26 v0 rfl rfl) h0
  clear e0 f0
  have k1 := h1
  have lt1 : ∀ x ∈ p1, x.block < W.heap.size := by obtain ⟨m, hm⟩ := k1; exact DataW.trod_lt m _ _ _ hm
  obtain ⟨a1, rfl, e1, f1, w1⟩ := open_int Try.underlying26 (hval 1 26 v1 rfl rfl) h1
  clear e1 f1
  clear hA0 hval0
  refine (setsFull_walk a0 a1 W w0 w1).mono fun e W' ⟨he, bel⟩ => ?_
  subst he
  exact ⟨_, rfl, _, _, _, [], _, [], hW', trodAll_mk1 (shut_bool Try.underlying4 _), (trodAll_cons_mk (Below.trod setsFull_laidOut (by kernel_rfl) (of_decide_eq_true (by kernel_rfl)) k0 bel lt0) (trodAll_cons_mk (Below.trod setsFull_laidOut (by kernel_rfl) (of_decide_eq_true (by kernel_rfl)) k1 bel lt1) trodAll_mk0)), rfl, bel.frame _, fun h => by cases h⟩

/-- The statement SetsFull. -/
theorem setsFull_holds : Rows.SetsFullSaid :=
  OpenClaim.holds_of_wide 4 Try.f4 rfl rfl rfl rfl rfl rfl rfl ⟨rfl, rfl, rfl, rfl, rfl⟩ rfl rfl rfl rfl rfl (by kernel_rfl) Try.func4 (by kernel_rfl)
    (of_decide_eq_true (by kernel_rfl)) (by unfold Func.isWrapper; first | (rw [if_pos (by decide +kernel)]; kernel_rfl) | (rw [if_neg (by decide +kernel)]; exact ⟨rfl, rfl⟩))
    (fun os started H enc _ => setsFull_lifted os started H enc)
#print axioms setsFull_holds
end Go.Proofs.Ytkolkimmhlmlgaa
