/-
  BitsPacks: called with any two Metas and any word, concordlaw03.BitsPacks returns true and changes nothing. No conditions but the tied variable.
-/
import Derived.Test.YtieilbihfbghjaaDoorBtAlive
import Derived.Test.YtieilbihfbghjaaDoorBtOut
import Derived.Test.YtieilbihfbghjaaDoorBtLaid
import Derived.Lib.SmallJoins
import Derived.Lib.SmallJoins
import Derived.Test.YtieilbihfbghjaaDoorRows
import Derived.Test.YtieilbihfbghjaaDoorCards
import Derived.Test.YtieilbihfbghjaaDoorTie
import Derived.ProofKit
import Derived.OpenShut
import Derived.ChangeOld
import Derived.SevenTiedAt
namespace Go.Proofs.YtieilbihfbghjaaDoor
open Go.ChangeShapes Go.WideShapes Go.ChangeAt Go.RowKit

theorem Glob.lt {w : World} (h : Glob w) : 0 < w.heap.size := by
  have h0 := h 0 (by decide)
  rcases Nat.lt_or_ge 0 w.heap.size with hlt | hge
  · exact hlt
  · simp [World.cell?, Array.getElem?_eq_none hge] at h0
theorem Glob.keeps {w w' : World} (h : Glob w) (k : Keeps (fun _ => False) w w') : Glob w' := fun i hi => (World.cell?_of_block (w := w) (k.block _ h.lt id)).trans (h i hi)

/-- Two Metas are the same. -/
theorem meta_eq (v o : Int) (c t : Bool) (w : World) : (Op.equalIn 10000 35 (.agg #[.int .i64 v, .int .i64 o, .bool c, .bool t]) (.agg #[.int .i64 v, .int .i64 o, .bool c, .bool t])).run Tryd.prog w = .ok true w := by
  have ht : Tryd.prog.underlying 35 = some (.struct (Tryd.prog.fieldsOf 35)) := by kernel_rfl
  have hp : Tryd.prog.stoodInHeld 35 = false := by kernel_rfl
  rw [run_equalIn_agg w 9999 35 _ _ ht hp]
  simp [go_sem]

/-- The two Metas lie in memory as they came in, and all that was there is as it was. -/
def Two (w V : World) (ma na : Array Value) : Prop := Whole V w.heap.size 35 ma ∧ Whole V (w.heap.size + 1) 35 na ∧ Keeps (fun _ => False) w V ∧ Glob V
theorem Two.keeps {w V V' : World} {ma na : Array Value} (h : Two w V ma na) (k : Keeps (fun _ => False) V V') : Two w V' ma na :=
  ⟨h.1.keeps k id, h.2.1.keeps k id, h.2.2.1.trans_ k, h.2.2.2.keeps k⟩
theorem Two.drew {w V : World} {ma na : Array Value} (h : Two w V ma na) : Two w V.drew ma na := ⟨h.1.drew, h.2.1.drew, h.2.2.1.drew, h.2.2.2⟩
theorem two_made (w : World) (ma na : Array Value) (hg : Glob w) : Two w ((w.alloc (.cells ma 35)).alloc (.cells na 35)) ma na := by
  have k := ((Keeps.refl (fun _ => False) w).alloc (.cells ma 35)).alloc (.cells na 35)
  refine ⟨(Whole.made w _ _).alloc _, ?_, k, hg.keeps k⟩
  have h := Whole.made (w.alloc (.cells ma 35)) 35 na
  simpa using h

theorem two_see {w : World} {v o : Int} {c t : Bool} {na : Array Value} {V : World} (h : Two w V #[.int .i64 v, .int .i64 o, .bool c, .bool t] na) :
    V.cell? ⟨w.heap.size, 0, none⟩ = some (.int .i64 v) ∧ V.cell? ⟨w.heap.size, 1, none⟩ = some (.int .i64 o) ∧ V.cell? ⟨w.heap.size, 2, none⟩ = some (.bool c) ∧ V.cell? ⟨w.heap.size, 3, none⟩ = some (.bool t) ∧ Two w V #[.int .i64 v, .int .i64 o, .bool c, .bool t] na :=
  ⟨h.1.at_ 0, h.1.at_ 1, h.1.at_ 2, h.1.at_ 3, h⟩

set_option maxHeartbeats 4000000 in
theorem packs_any (v o v2 o2 : Int) (c t c2 t2 : Bool) (x : Nat) (hx : x < 18446744073709551616) (w : World) (hg : Glob w) :
    Calls Tryd.prog 8 #[.agg #[.int .i64 v, .int .i64 o, .bool c, .bool t], .agg #[.int .i64 v2, .int .i64 o2, .bool c2, .bool t2], .int .u64 x] w fun e w' => e = .returned (.bool true) ∧ Below w.heap.size w w' := by
  obtain ⟨X, er, f, hm⟩ := out_there v o c t
  obtain ⟨Z, er2, f2, hn⟩ := out_there v2 o2 c2 t2
  obtain ⟨a, b, p, q, hu⟩ := meta_there x hx
  have la := hu.vlt
  have lb := hu.olt
  have hw := meta_word x a b p q hu
  have B0 := fun w => Lib.hid (pack_ok a b p q (by omega) (by omega) w)
  generalize packN a b p q = y at hw B0
  have s0 := Lib.hid (two_made w #[.int .i64 v, .int .i64 o, .bool c, .bool t] #[.int .i64 v2, .int .i64 o2, .bool c2, .bool t2] hg)
  have HM := Lib.hid hm
  have HN := Lib.hid hn
  have HU := Lib.hid hu
  have eqs := meta_eq
  have grd : Tryd.prog.eqGuardType Tryd.prog.depth 35 = false := by kernel_rfl
  clear hm hn hu hg
  go_enter Tryd.func8, Tryd.ntmps8
  go_wp2_with fail
  refine (pack_out v o c t X f er HM.out _).mono ?_
  rintro e w1 ⟨rfl, hK⟩
  have s1 := Lib.hid (s0.out.keeps hK)
  clear hK
  obtain ⟨d0, d1, d2, d3⟩ := four_cells s1.out.1
  go_wp2_with fail
  refine (ref_out v o c t X f er HM.out _).mono ?_
  rintro e w2 ⟨rfl, hK⟩
  have s2 := Lib.hid (s1.out.keeps hK)
  clear hK d0 d1 d2 d3
  obtain ⟨d0, d1, d2, d3⟩ := four_cells s2.out.2.1
  go_wp2_with fail
  refine (pack_out v2 o2 c2 t2 Z f2 er2 HN.out _).mono ?_
  rintro e w3 ⟨rfl, hK⟩
  have s3 := Lib.hid (s2.out.keeps hK)
  clear hK d0 d1 d2 d3
  go_wp2_with fail
  refine (no_out v o c t X f er HM.out _).mono ?_
  rintro e w4 ⟨rfl, hK⟩
  have s4 := Lib.hid (s3.out.keeps hK)
  clear hK
  go_wp2_with fail
  refine (bt_unpack x a b p q HU.out _).mono ?_
  rintro e w5 ⟨rfl, hK⟩
  have s5 := Lib.hid (s4.out.keeps hK)
  clear hK
  go_wp2_with fail
  refine (ref_unpack x a b p q HU.out _).mono ?_
  rintro e w6 ⟨rfl, hK⟩
  have s6 := Lib.hid (s5.out.keeps hK)
  clear hK
  go_wp2_with fail
  refine (bt_unpack x a b p q HU.out _).mono ?_
  rintro e w7 ⟨rfl, hK⟩
  have s7 := Lib.hid (s6.out.keeps hK)
  clear hK
  go_wp2_with fail
  refine ((B0 _).out).mono ?_
  rintro e w8 ⟨rfl, hK⟩
  have s8 := Lib.hid (s7.out.keeps hK)
  clear hK
  go_wp2_with fail
  refine (no_nil _).mono ?_
  rintro e w' ⟨rfl, rfl⟩
  clear s0 s1 s2 s3 s4 s5 s6 s7 B0 HU
  rcases HM.out with ⟨hX, hf, _, _⟩ | ⟨hf, _, a1, b1, hv1, ho1, la1, lb1, hX⟩
  · have q1 : ((f : Int) != 0) = true := by simp [hf]
    have q2 : ((X : Int) == 0) = true := by simp [hX]
    clear hX hf
    go_wp2_with (go_at_call 13; refine (alive_any _ s8.out.2.2.2).mono ?_; rintro e w' ⟨rfl, rfl⟩)
    go_ret
    exact ⟨rfl, s8.out.2.2.1.below (Nat.le_refl _) (fun _ _ h => h)⟩
  · have q1 : ((f : Int) != 0) = false := by simp [hf]
    have MB := Lib.hid (meta_back a1 b1 c t la1 lb1)
    subst hv1 ho1
    rw [← hX] at MB
    have HX := Lib.hid hX
    clear hX hf
    go_wp2_with fail
    refine (no_out v2 o2 c2 t2 Z f2 er2 HN.out _).mono ?_
    rintro e w9 ⟨rfl, hK⟩
    have s9 := Lib.hid (s8.out.keeps hK)
    clear hK
    obtain ⟨d0, d1, d2, d3⟩ := four_cells s9.out.1
    obtain ⟨g0, g1, g2, g3⟩ := four_cells s9.out.2.1
    have see := @two_see w a1 b1 c t #[.int .i64 v2, .int .i64 o2, .bool c2, .bool t2]
    have fin : ∀ (W : World) (h : Two w W #[.int .i64 a1, .int .i64 b1, .bool c, .bool t] #[.int .i64 v2, .int .i64 o2, .bool c2, .bool t2]), Below w.heap.size w W := fun W h => h.2.2.1.below (Nat.le_refl _) (fun _ _ h => h)
    rcases HN.out with ⟨_, hf2, _, _⟩ | ⟨hf2, _, a2, b2, hv2, ho2, la2, lb2, hZ⟩
    · have q2 : ((f2 : Int) == 0) = false := by simp [hf2]
      clear hf2
      go_wp2_with fail
      clear d0 d1 d2 d3 g0 g1 g2 g3
      go_region_held3 (fun V => V.cell? ⟨w.heap.size, 0, none⟩ = some (.int .i64 (a1 : Int)) ∧ V.cell? ⟨w.heap.size, 1, none⟩ = some (.int .i64 (b1 : Int)) ∧ V.cell? ⟨w.heap.size, 2, none⟩ = some (.bool c) ∧ V.cell? ⟨w.heap.size, 3, none⟩ = some (.bool t) ∧ Two w V #[.int .i64 (a1 : Int), .int .i64 (b1 : Int), .bool c, .bool t] #[.int .i64 v2, .int .i64 o2, .bool c2, .bool t2]) (first | exact see s9.out | exact see s9.out.drew | exact hHeld | exact see s10.out | exact see s10.out.drew)
        (first
          | (go_at_call 26; refine (bt_unpack X a1 b1 c t MB.out _).mono ?_; rintro e V ⟨rfl, hK⟩; have s10 := Lib.hid (s9.out.drew.keeps hK); clear hK)
          | (go_at_call 13; refine (alive_any _ ?_).mono ?_; (first | exact s10.out.2.2.2 | exact s10.out.drew.2.2.2 | exact s9.out.2.2.2); rintro e w' ⟨rfl, rfl⟩))
      go_wp2
      go_ret
      exact ⟨rfl, fin _ s10.out⟩
    · have q2 : ((f2 : Int) == 0) = true := by simp [hf2]
      subst hv2 ho2
      clear hf2
      by_cases hlt : a2 < a1
      · have q3 : Z < X := by rw [HX.out, hZ]; exact meta_order a1 b1 a2 b2 c t c2 t2 lb1 lb2 hlt
        clear hZ
        go_wp2_with fail
        clear d0 d1 d2 d3 g0 g1 g2 g3
        go_region_held3 (fun V => V.cell? ⟨w.heap.size, 0, none⟩ = some (.int .i64 (a1 : Int)) ∧ V.cell? ⟨w.heap.size, 1, none⟩ = some (.int .i64 (b1 : Int)) ∧ V.cell? ⟨w.heap.size, 2, none⟩ = some (.bool c) ∧ V.cell? ⟨w.heap.size, 3, none⟩ = some (.bool t) ∧ Two w V #[.int .i64 (a1 : Int), .int .i64 (b1 : Int), .bool c, .bool t] #[.int .i64 (a2 : Int), .int .i64 (b2 : Int), .bool c2, .bool t2]) (first | exact see s9.out | exact see s9.out.drew | exact hHeld | exact see s10.out | exact see s10.out.drew)
          (first
            | (go_at_call 26; refine (bt_unpack X a1 b1 c t MB.out _).mono ?_; rintro e V ⟨rfl, hK⟩; have s10 := Lib.hid (s9.out.drew.keeps hK); clear hK)
            | (go_at_call 13; refine (alive_any _ ?_).mono ?_; (first | exact s10.out.2.2.2 | exact s10.out.drew.2.2.2 | exact s9.out.2.2.2); rintro e w' ⟨rfl, rfl⟩))
        go_wp2
        go_ret
        exact ⟨rfl, fin _ s10.out⟩
      · clear hZ
        go_wp2_with fail
        clear d0 d1 d2 d3 g0 g1 g2 g3
        go_region_held3 (fun V => V.cell? ⟨w.heap.size, 0, none⟩ = some (.int .i64 (a1 : Int)) ∧ V.cell? ⟨w.heap.size, 1, none⟩ = some (.int .i64 (b1 : Int)) ∧ V.cell? ⟨w.heap.size, 2, none⟩ = some (.bool c) ∧ V.cell? ⟨w.heap.size, 3, none⟩ = some (.bool t) ∧ Two w V #[.int .i64 (a1 : Int), .int .i64 (b1 : Int), .bool c, .bool t] #[.int .i64 (a2 : Int), .int .i64 (b2 : Int), .bool c2, .bool t2]) (first | exact see s9.out | exact see s9.out.drew | exact hHeld | exact see s10.out | exact see s10.out.drew)
          (first
            | (go_at_call 26; refine (bt_unpack X a1 b1 c t MB.out _).mono ?_; rintro e V ⟨rfl, hK⟩; have s10 := Lib.hid (s9.out.drew.keeps hK); clear hK)
            | (go_at_call 13; refine (alive_any _ ?_).mono ?_; (first | exact s10.out.2.2.2 | exact s10.out.drew.2.2.2 | exact s9.out.2.2.2); rintro e w' ⟨rfl, rfl⟩))
        go_wp2
        go_ret
        exact ⟨rfl, fin _ s10.out⟩

theorem bitsPacks_walk (v o : Int) (c t : Bool) (v2 o2 : Int) (c2 t2 : Bool) (x : Int) (w : World) (w0 : (Lit.int .u64 x).wf = true) (hg : Glob w) :
    Calls Tryd.prog 8 #[.agg #[.int .i64 v, .int .i64 o, .bool c, .bool t], .agg #[.int .i64 v2, .int .i64 o2, .bool c2, .bool t2], .int .u64 x] w fun e w' => e = .returned (.bool true) ∧ Below w.heap.size w w' := by
  obtain ⟨n, rfl, hn⟩ := u64_of w0
  exact packs_any v o v2 o2 c t c2 t2 n hn w hg

theorem bitsPacks_own : ownKnob Tryd.prog.godebug = none := by kernel_rfl
theorem bitsPacks_laidOut : laidOutB Tryd.prog = true := by kernel_rfl

set_option maxRecDepth 100000 in
theorem bitsPacks_lifted (os : Os) (started : os.Started) (H : Type) (enc : TypeId × Value → H) :
    ReturnsInHanded {} Tryd.checked os 8 .any (fun w args => (Rows.bitsPacksSpec.pre enc Tryd.prog Tryd.f8 [] false w args ∧ laidMetH Tryd.prog btLaid w) ∧ sizedMet enc Tryd.prog Tryd.f8 (OpenSpec.ofChange Rows.bitsPacksSpec) false w args)
      (Rows.bitsPacksSpec.post enc Tryd.prog Tryd.f8 false true false false) := by
  refine returnsInHanded_of_change_and (C := Tryd.checked) (X := fun w _ => laidMetH Tryd.prog btLaid w) (fun _ _ _ hh h => h.of_heap hh) bitsPacks_own started (by kernel_rfl) Tryd.func8
    (ChangeSpec.witness_shaped (enc := enc) (C := Tryd.checked) (os := os) (X := fun w _ => laidMetH Tryd.prog btLaid w) false (World.doorLaid Tryd.prog 400 os) #[.agg #[.int .i64 0, .int .i64 0, .bool false, .bool false], .agg #[.int .i64 0, .int .i64 0, .bool false, .bool false], .int .u64 0] 8 rfl (bt_shaped os _) (by kernel_rfl) (by kernel_rfl) (by kernel_rfl) (bt_met os _)) ?_
  intro W base args ds gs before hval0 hW hcnd _ hL _
  have hGl := bt_glob hL
  clear hcnd
  have hval : ∀ (j : Nat) t v, Tryd.f8.params[j]? = some t → args[j]? = some v → Value.okWide Tryd.prog W .any base t v := hval0
  have hW' := hW
  obtain ⟨p, q, hA0, hV, rfl, hfz, hnd⟩ := hW
  have hA : DataW.TrodAll enc Tryd.prog W 0 (fun _ => true) true Tryd.f8.params.toList args.toList ds p := hA0
  rw [Tryd.params8] at hA hval
  obtain ⟨v0, vs0, d0, ds0, p0, q0, hargs, rfl, rfl, h0, r0⟩ := trodAll_cons hA
  obtain ⟨v1, vs1, d1, ds1, p1, q1, rfl, rfl, rfl, h1, r1⟩ := trodAll_cons r0
  obtain ⟨v2, vs2, d2, ds2, p2, q2, rfl, rfl, rfl, h2, r2⟩ := trodAll_cons r1
  obtain ⟨rfl, rfl, rfl⟩ := trodAll_nil r2
  obtain rfl : args = #[v0, v1, v2] := by cases args; simp_all
  obtain ⟨rfl, rfl⟩ := trodVars_none hV
  have k0 := h0
  have lt0 : ∀ x ∈ p0, x.block < W.heap.size := by obtain ⟨m, hm⟩ := k0; exact DataW.trod_lt m _ _ _ hm
  obtain ⟨b00, b01, b02, b03, y00, y01, y02, y03, m0, rfl, rfl, rfl, t00, t01, t02, t03⟩ := Joins.open_agg4 Tryd.underlying35 (by kernel_rfl) (by kernel_rfl) (hval 0 35 v0 rfl rfl) h0
  obtain ⟨a00, e00, _, _⟩ := DataW.trod_int (k := .i64) (by kernel_rfl) t00
  obtain ⟨a01, e01, _, _⟩ := DataW.trod_int (k := .i64) (by kernel_rfl) t01
  obtain ⟨a02, e02, _⟩ := DataW.trod_bool (by kernel_rfl) t02
  obtain ⟨a03, e03, _⟩ := DataW.trod_bool (by kernel_rfl) t03
  simp at e00 e01 e02 e03
  subst e00 e01 e02 e03
  have k1 := h1
  have lt1 : ∀ x ∈ p1, x.block < W.heap.size := by obtain ⟨m, hm⟩ := k1; exact DataW.trod_lt m _ _ _ hm
  obtain ⟨b10, b11, b12, b13, y10, y11, y12, y13, m1, rfl, rfl, rfl, t10, t11, t12, t13⟩ := Joins.open_agg4 Tryd.underlying35 (by kernel_rfl) (by kernel_rfl) (hval 1 35 v1 rfl rfl) h1
  obtain ⟨a10, e10, _, _⟩ := DataW.trod_int (k := .i64) (by kernel_rfl) t10
  obtain ⟨a11, e11, _, _⟩ := DataW.trod_int (k := .i64) (by kernel_rfl) t11
  obtain ⟨a12, e12, _⟩ := DataW.trod_bool (by kernel_rfl) t12
  obtain ⟨a13, e13, _⟩ := DataW.trod_bool (by kernel_rfl) t13
  simp at e10 e11 e12 e13
  subst e10 e11 e12 e13
  have k2 := h2
  have lt2 : ∀ x ∈ p2, x.block < W.heap.size := by obtain ⟨m, hm⟩ := k2; exact DataW.trod_lt m _ _ _ hm
  obtain ⟨a2, rfl, e2, f2, w2⟩ := open_int Tryd.underlying31 (hval 2 31 v2 rfl rfl) h2
  clear e2 f2
  clear hA0 hval0
  refine (bitsPacks_walk a00 a01 a02 a03 a10 a11 a12 a13 a2 W w2 hGl).mono fun e W' ⟨he, bel⟩ => ?_
  subst he
  exact ⟨_, rfl, _, _, _, [], _, [], hW', trodAll_mk1 (shut_bool Tryd.underlying4 _), (trodAll_cons_mk (Below.trod bitsPacks_laidOut (by kernel_rfl) (of_decide_eq_true (by kernel_rfl)) k0 bel lt0) (trodAll_cons_mk (Below.trod bitsPacks_laidOut (by kernel_rfl) (of_decide_eq_true (by kernel_rfl)) k1 bel lt1) (trodAll_cons_mk (Below.trod bitsPacks_laidOut (by kernel_rfl) (of_decide_eq_true (by kernel_rfl)) k2 bel lt2) trodAll_mk0))), rfl, bel.frame _, fun h => by cases h⟩

/-- The statement BitsPacks. -/
theorem bitsPacks_holds : Rows.BitsPacksSaid :=
  OpenClaim.holds_of_wide 8 Tryd.f8 rfl rfl rfl rfl rfl rfl rfl ⟨rfl, rfl, rfl, rfl, rfl⟩ rfl rfl rfl rfl rfl (by kernel_rfl) Tryd.func8 (by kernel_rfl)
    (of_decide_eq_true (by kernel_rfl)) (by unfold Func.isWrapper; first | (rw [if_pos (by decide +kernel)]; kernel_rfl) | (rw [if_neg (by decide +kernel)]; exact ⟨rfl, rfl⟩))
    (fun os started H enc _ => bitsPacks_lifted os started H enc)
#print axioms bitsPacks_holds

/-- The card: the row, what it lists tied to the program's text. -/
theorem bitsPacks_card : Rows.BitsPacksCardSaid :=
  Claim7.holds_tied_plain_at .later [] [.data] true Rows.bitsPacksCard.stood.harness true
    bitsPacks_holds (fun _ h => by cases h) (by kernel_rfl) (fun _ h => by cases h) bitsPacks_row_tie rfl ⟨rfl, rfl⟩ (by kernel_rfl) rfl
    (fun f fn hf hfn => by
      obtain rfl : f = 8 := Option.some.inj ((show Tryd.prog.funcNamed "concord/concordlaw03.BitsPacks" = some 8 by kernel_rfl).symm.trans hf) |>.symm
      obtain rfl : fn = Tryd.f8 := (Option.some.inj (Tryd.func8.symm.trans hfn)).symm
      exact ⟨by kernel_rfl, fun j t ht => by
        rw [Tryd.params8] at ht
        have hm : t ∈ Tryd.f8.params.toList := by rw [Tryd.params8]; simpa using Array.mem_of_getElem? ht
        have hall : (Tryd.f8.params.toList.all fun u => !Tryd.prog.wantsStandIn u) = true := by kernel_rfl
        exact (show Tryd.prog.wantsStandIn t = false by simpa using List.all_eq_true.1 hall t hm)⟩)
    (by kernel_rfl)
#print axioms bitsPacks_card
end Go.Proofs.YtieilbihfbghjaaDoor
