/-
  ModelSizes, for any program's states that keep 'Face': called with any kinds, calls and collection it answers true, and changes nothing that was there.
-/
import Derived.Test.YtnlogilbiifmiaaDoorMoPair
import Derived.Lib.SmallJoins
import Derived.Deep.RegionHeld3
namespace Go.Proofs.YtnlogilbiifmiaaDoor
open Go.RowKit Go.Maps Go.Extern.Stop Go.Stop Go.Extern

theorem rng_all {W : Tl} {a b : Int} (h : ∀ p ∈ W, a ≤ p.1 ∧ p.1 ≤ b) : rng W a b = W.length := by
  unfold rng
  rw [List.filter_eq_self.2 fun p hp => by simpa using h p hp]
theorem up_le {W : Tl} (h : UpW W) {i j : Nat} {p q : Int × Int} (hp : W[i]? = some p) (hq : W[j]? = some q) (hij : i ≤ j) : p.1 ≤ q.1 := by
  rcases Nat.lt_or_ge i j with g | g
  · have := up_at h hp hq g; omega
  · obtain rfl : i = j := by omega
    rw [hp] at hq
    injection hq with hq
    rw [hq]; exact Int.le_refl _
theorem ceil_next {W : Tl} (h : UpW W) {i : Nat} {p q : Int × Int} (hp : W[i]? = some p) (hq : W[i + 1]? = some q) : ceil W (p.1 + 1) = some q.1 :=
  ceil_first (i := i + 1) (fun j r hj hr => by have := up_le h hr hp (by omega); omega) hq (by have := up_at h hp hq (by omega); omega)
theorem ceil_here {W : Tl} {p : Int × Int} (hp : W[0]? = some p) : ceil W p.1 = some p.1 :=
  ceil_first (i := 0) (fun _ _ hj _ => absurd hj (Nat.not_lt_zero _)) hp (Int.le_refl _)
theorem wrap_next {a b : Int} (ha : wfI a) (hb : wfI b) (h : a < b) : wrap64 (a + 1) = a + 1 := by
  have h1 := bounds_i64 ha
  have h2 := bounds_i64 hb
  unfold wrap64
  omega
theorem mCeil_at {A : M8} {c : Int} (h : A.there c) (hk : A.kind c = 3) (k : Int) : mCeil A c k = ((ceil (A.col c) k).getD 0, (ceil (A.col c) k).isSome, 0) := by
  unfold mCeil
  rw [if_pos h, if_pos hk]
theorem mRange_at {A : M8} {c : Int} (h : A.there c) (hk : A.kind c = 3) (x y : Int) : mRange A c x y = (rng (A.col c) x y, 0) := by
  unfold mRange
  rw [if_pos h, if_pos hk]
theorem size_on8 {PM : PMem} {w0 w : World} {s : Nat} {A : M8} (F : Face PM) (h : On8 PM w0 w s A) (c : Int) (hc : A.there c) :
    Calls Tryd.prog 22 #[.pointer (some ⟨s, 0, none⟩), .int .i64 c] w fun e w' => e = .returned (.tuple #[.int .i64 ((A.col c).length : Nat), .nilIface]) ∧ Keeps (fun _ => False) w w' := by
  obtain ⟨X, h1, h2, h3⟩ := h
  exact F.size_ h1 c hc

set_option maxRecDepth 100000 in
set_option maxHeartbeats 4000000 in
theorem sizes_any8 {PM : PMem} (F : Face PM) {w : World} {a0 : Option Addr} {len0 cap0 : Nat} {K : List Int} {a1 : Option Addr} {len1 cap1 : Nat} {L : List Act8} (c : Int) (hK : IntL w a0 len0 K) (hL : Act8L w a1 len1 cap1 L) (hg : Glob w) :
    Calls Tryd.prog 5 #[.slice a0 len0 cap0, .slice a1 len1 cap1, .int .i64 c] w fun e w' => e = .returned (.bool true) ∧ Keeps (fun _ => False) w w' := by
  by_cases hno : (20 < len0 ∨ 60 < len1) ∨ (mNew K).1 = false
  · have CP := Lib.hid (play_no8 (cap0 := cap0) (a1 := a1) (cap1 := cap1) F hK hno)
    clear hK hL hg hno
    go_enter Tryd.func5, Tryd.ntmps5
    go_wp2_with fail
    refine CP.out.mono ?_
    rintro e w1 ⟨rfl, hK⟩
    have K1 := Lib.hid hK
    clear hK
    go_wp2_with (first
      | (go_at_call 7; refine (alive_any8 F _).mono ?_; rintro e w2 ⟨rfl, k5⟩; have K5 := Lib.hid (K1.out.trans k5 fun _ _ => id); clear k5))
    go_ret
    exact ⟨rfl, K5.out⟩
  have h20 : len0 ≤ 20 := by rcases Nat.lt_or_ge 20 len0 with h | h; exact absurd (.inl (.inl h)) hno; exact h
  have h60 : len1 ≤ 60 := by rcases Nat.lt_or_ge 60 len1 with h | h; exact absurd (.inl (.inr h)) hno; exact h
  have hm : (mNew K).1 = true := by cases h : (mNew K).1 with | true => rfl | false => exact absurd (.inr h) hno
  have CP := Lib.hid (play_yes8 (cap0 := cap0) F hK hL h20 h60 hm hg)
  have hn := hK.len
  have n8 := mNew_len hm
  have HK := Lib.hid hK
  have fl : (len0 : Int) ≤ 9223372036854775807 := by omega
  clear hK hL hg hno h60 hm h20
  go_enter Tryd.func5, Tryd.ntmps5
  go_wp2_with fail
  refine CP.out.mono ?_
  rintro e w1 ⟨s, A, rfl, hO, hAK, hAL, hAW⟩
  have O1 := Lib.hid hO
  have K1 := Lib.hid hO.keeps
  have AK := Lib.hid (And.intro hAK hAL)
  have AW := Lib.hid hAW
  clear hO hAK hAL hAW
  by_cases h0 : len0 = 0
  · subst h0
    go_wp2_with (first
      | (go_at_call 7; refine (alive_any8 F _).mono ?_; rintro e w2 ⟨rfl, k5⟩; have K5 := Lib.hid (K1.out.trans k5 fun _ _ => id); clear k5))
    go_ret
    exact ⟨rfl, K5.out⟩
  have hz : ((len0 : Int) == 0) = false := by simp; omega
  have hz' : ¬ (len0 : Int) = 0 := by omega
  obtain ⟨k, hk, hkn⟩ := mod_in (c := c) (n := (len0 : Int)) (by omega) (by omega)
  go_upto_region 5 with fail
  try rw [hk]
  have kn : k < len0 := by omega
  have kl : k < A.L.length := by have := AK.out.2; omega
  have hth : A.there (k : Int) := ⟨by omega, by omega⟩
  have hok := O1.out.ok F
  obtain ⟨kb, ko, ha, hcs⟩ := HK.out.at_ (by omega)
  subst ha
  obtain ⟨kx, hkx⟩ : ∃ x, K[k]? = some x := ⟨_, List.getElem?_eq_getElem (by omega)⟩
  have KC := Lib.hid (hcs k kx hkx)
  have hkind : A.kind (k : Int) = kx := by
    unfold M8.kind
    rw [AK.out.1, Int.toNat_natCast, List.getD_eq_getElem?_getD, hkx]
    rfl
  obtain ⟨W, hW⟩ : ∃ W, A.col (k : Int) = W := ⟨_, rfl⟩
  obtain ⟨hup, hfew⟩ := hok.col hth
  have hwf := AW.out.col (k : Int)
  have CL := list_on8 F O1.out (k : Int) hth
  have CZ := fun V (K : Keeps (fun _ => False) w1 V) => size_on8 F (O1.out.same F K) (k : Int) hth
  have CC := fun V (K : Keeps (fun _ => False) w1 V) (h : kx = 3) at_ => ceil_on8 F (O1.out.same F K) (k : Int) at_ (mCeil_at hth (hkind.trans h) at_)
  have CG := fun V (K : Keeps (fun _ => False) w1 V) (h : kx = 3) x y => range_on8 F (O1.out.same F K) (k : Int) x y (mRange_at hth (hkind.trans h) x y)
  rw [hW] at CL hup hfew hwf
  simp only [hW] at CZ CC CG
  obtain ⟨n, hn'⟩ : ∃ n, W.length = n := ⟨_, rfl⟩
  simp only [hn'] at CZ
  have CL := Lib.hid CL
  have CZ := Lib.hid CZ
  have CC := Lib.hid CC
  have CG := Lib.hid CG
  have UP := Lib.hid hup
  have WF := Lib.hid hwf
  have HN := Lib.hid hn'
  have n100 : n ≤ 100 := by omega
  clear hk hcs hkx hkind hth hW hkn hok hup hfew hwf hn'
  go_wp2_with fail
  refine CL.out.mono ?_
  rintro e w2 ⟨u, rfl, hu, _, hK⟩
  have U2 := Lib.hid hu
  have K2 := Lib.hid hK
  obtain ⟨uo, uc, rfl, huo⟩ := prow_cells hu HN.out
  clear hu hK
  go_wp2_with fail
  refine (CZ.out _ K2.out).mono ?_
  rintro e w3 ⟨rfl, hK⟩
  have K3 := Lib.hid (K2.out.trans hK fun _ _ => id)
  have hcell : 0 < n → ∃ g, uo = some ⟨g, 0, none⟩ ∧ ∀ (i : Nat) (p : Int × Int), W[i]? = some p → ∀ V, Keeps (fun _ => False) w3 V → V.cell? ⟨g, i * 2, none⟩ = some (.int .i64 p.1) := fun h => by
    obtain ⟨g, e, hc⟩ := huo h
    exact ⟨g, e, fun i p hp V KV => (KV.cell (cell_lt ((hK.cell (cell_lt (hc i p hp).1) id).trans (hc i p hp).1)) id).trans ((hK.cell (cell_lt (hc i p hp).1) id).trans (hc i p hp).1)⟩
  have HC := Lib.hid hcell
  clear hK huo hcell
  go_wp2_with (first
    | (go_at_call 10; refine (no_nil _).mono ?_; rintro e w' ⟨rfl, rfl⟩))
  go_loopw [70] (fun iv wr => ∃ i : Nat, iv = .int .i64 i ∧ i ≤ n ∧ Keeps (fun _ => False) w3 wr) (fun iv _ => n - (intOf iv).toNat)
  case atStart => exact ⟨0, rfl, Nat.zero_le _, Keeps.refl _ _⟩
  case round =>
    obtain ⟨i, rfl, hi, hK⟩ := hrel
    have KR := Lib.hid hK
    clear hK
    by_cases hlt : i < n
    · have b1 : (i : Int) < (n : Int) := by omega
      obtain ⟨g, rfl, hc⟩ := HC.out (by omega)
      obtain ⟨d, v, hd⟩ : ∃ d v, W[i]? = some (d, v) := ⟨_, _, List.getElem?_eq_getElem (by have := HN.out; omega)⟩
      have d0 := hc i _ hd _ KR.out.drew
      simp only at d0
      cases i with
      | zero =>
        clear hc
        go_wp2_with fail
        go_region
        go_wp2_with fail
        go_roundw
        case rel => exact ⟨1, by go_num, by omega, KR.out.drew⟩
        case measure => simp [intOf]; omega
      | succ j =>
        obtain ⟨d', v', hd'⟩ : ∃ d v, W[j]? = some (d, v) := ⟨_, _, List.getElem?_eq_getElem (by have := HN.out; omega)⟩
        have d1 := hc j _ hd' _ KR.out.drew
        simp only at d1
        have hlt' : d' < d := up_at UP.out hd' hd (by omega)
        have hb : decide (d ≤ d') = false := decide_eq_false (by omega)
        have b2 : (j : Int) < (n : Int) := by omega
        have b3 : 0 < (j : Int) + 1 := by omega
        clear hc
        go_wp2_with fail
        go_region
        go_wp2_with fail
        go_roundw
        case rel => exact ⟨j + 1 + 1, by go_num, by omega, KR.out.drew⟩
        case measure => simp [intOf]; omega
    · obtain rfl : i = n := by omega
      have b1 : ¬ (i : Int) < (i : Int) := by omega
      have KX := Lib.hid ((K1.out.trans K3.out fun _ _ => id).trans KR.out fun _ _ => id)
      have kcr := (KX.out.cell (cell_lt KC.out) id).trans KC.out
      have hkl : (k : Int) < (len0 : Int) := by omega
      by_cases h3 : kx = 3
      · have hb3 : (kx != 3) = false := by simp [h3]
        rcases Nat.eq_zero_or_pos i with hi0 | hi0
        · subst hi0
          have hW0 : W = [] := List.eq_nil_of_length_eq_zero HN.out
          have C0 := CC.out wr (K3.out.trans KR.out fun _ _ => id) h3 0
          rw [hW0] at C0
          have C0 := Lib.hid C0
          clear hW0
          go_wp2_with fail
          refine C0.out.mono ?_
          rintro e w4 ⟨ev, a, rfl, _, _, hK⟩
          have K4 := Lib.hid (KX.out.trans hK fun _ _ => id)
          clear hK
          go_wp2_with (first
            | (go_at_call 7; refine (alive_any8 F _).mono ?_; rintro e w9 ⟨rfl, k5⟩; have K9 := Lib.hid (K4.out.trans k5 fun _ _ => id); clear k5))
          go_ret
          exact ⟨rfl, K9.out⟩
        · obtain ⟨m, hm⟩ : ∃ m, i = m + 1 := ⟨i - 1, by omega⟩
          obtain ⟨g, rfl, hc⟩ := HC.out (by omega)
          obtain ⟨d0, v0, hd0⟩ : ∃ d v, W[0]? = some (d, v) := ⟨_, _, List.getElem?_eq_getElem (by have := HN.out; omega)⟩
          obtain ⟨dm, vm, hdm⟩ : ∃ d v, W[m]? = some (d, v) := ⟨_, _, List.getElem?_eq_getElem (by have := HN.out; omega)⟩
          have hall : rng W d0 dm = i := by
            rw [← HN.out]
            refine rng_all fun p hp => ?_
            obtain ⟨j, hj⟩ := List.getElem?_of_mem hp
            have hjl := (List.getElem?_eq_some_iff.1 hj).1
            have := HN.out
            exact ⟨up_le UP.out hd0 hj (Nat.zero_le _), up_le UP.out hj hdm (by omega)⟩
          have S0 := Lib.hid (fun V (K : Keeps (fun _ => False) wr V) => (⟨hc 0 _ hd0 V (KR.out.trans K fun _ _ => id), hc m _ hdm V (KR.out.trans K fun _ _ => id)⟩ : V.cell? ⟨g, 0, none⟩ = some (.int .i64 d0) ∧ V.cell? ⟨g, m * 2, none⟩ = some (.int .i64 dm)))
          have CG0 := Lib.hid (fun V (K : Keeps (fun _ => False) wr V) => by
            have := CG.out V ((K3.out.trans KR.out fun _ _ => id).trans K fun _ _ => id) h3 d0 dm
            rw [hall] at this
            exact this)
          have HCc := Lib.hid hc
          have HD0 := Lib.hid (ceil_here hd0)
          have HD0' := Lib.hid hd0
          clear hc hd0 hdm hall
          have bm : (m : Int) < (i : Int) := by omega
          have bm0 : (0 : Int) < (i : Int) := by omega
          have HM := Lib.hid hm
          clear hm
          have hi0' : ((i : Int) == 0) = false := by simp; omega
          go_wp2_with fail
          have hs : (i : Int) - 1 = (m : Int) := by have := HM.out; omega
          have bw : IntKind.i64.wrap ((i : Int) - 1) = (m : Int) := by have := HM.out; rw [IntKind.wrap_i64]; omega
          have bw2 : IntKind.i64.wrap (m : Int) = (m : Int) := by have := HM.out; rw [IntKind.wrap_i64]; omega
          have bm2 : ¬ ((m : Int) < 0) := by have := HM.out; omega
          have bm3 : (0 : Int) ≤ (m : Int) := by have := HM.out; omega
          have s0 := Lib.hid (S0.out _ (Keeps.refl _ _).drew)
          go_region_held3 (fun V => V.cell? ⟨g, 0, none⟩ = some (.int .i64 d0) ∧ V.cell? ⟨g, m * 2, none⟩ = some (.int .i64 dm)) (first | exact sA.out | exact s0.out)
            (first
              | (go_at_call 24; refine (CG0.out _ (Keeps.refl _ _).drew).mono ?_; rintro e w4 ⟨ev, a, rfl, hT, _, hK⟩; obtain rfl := hT.nil; have K4 := Lib.hid ((Keeps.refl (fun _ => False) wr).drew.trans hK fun _ _ => id); have sA := Lib.hid (S0.out _ ((Keeps.refl (fun _ => False) wr).drew.trans hK fun _ _ => id)); clear hT hK))
          have c0 := (S0.out w4 K4.out).1
          go_wp2_with (first
            | (go_at_call 10; refine (no_nil _).mono ?_; rintro e w' ⟨rfl, rfl⟩))
          obtain ⟨wo, rfl⟩ : ∃ wo : World, wo = wr := ⟨_, rfl⟩
          go_loopw [141, 18] (fun iv av wx => ∃ (q : Nat) (at_ : Int), iv = .int .i64 q ∧ av = .int .i64 at_ ∧ q ≤ m ∧ (∀ p, W[q]? = some p → ceil W at_ = some p.1) ∧ Keeps (fun _ => False) wo wx) (fun iv _ _ => i - (intOf iv).toNat)
          case atStart => exact ⟨0, d0, rfl, rfl, Nat.zero_le _, fun p hp => by rw [HD0'.out] at hp; injection hp with hp; rw [← hp]; exact HD0.out, K4.out⟩
          case round =>
            clear c0
            obtain ⟨q, at_, rfl, rfl, hi, hce, hK⟩ := hrel
            obtain ⟨d, v, hd⟩ : ∃ d v, W[q]? = some (d, v) := ⟨_, _, List.getElem?_eq_getElem (by have := HN.out; have := HM.out; omega)⟩
            have hcd := hce _ hd
            have C2 := CC.out wr ((K3.out.trans KR.out fun _ _ => id).trans hK fun _ _ => id) h3 at_
            rw [hcd] at C2
            have C2 := Lib.hid C2
            have KQ := Lib.hid hK
            have HD := Lib.hid hd
            have b1 : (q : Int) < (i : Int) := by have := HM.out; omega
            clear hcd hce hd hK
            go_wp2_with fail
            refine C2.out.mono ?_
            rintro e w5 ⟨ev, a, rfl, _, _, hK⟩
            have K5 := Lib.hid (KQ.out.trans hK fun _ _ => id)
            have c5 := HCc.out q _ HD.out w5 (KR.out.trans K5.out fun _ _ => id)
            simp only at c5
            clear hK
            by_cases him : q = m
            · subst him
              have hb : ((q : Int) == (q : Int)) = true := by simp
              go_wp2_with (first
                | (go_at_call 7; refine (alive_any8 F _).mono ?_; rintro e w9 ⟨rfl, k5⟩; have K9 := Lib.hid ((KX.out.trans K5.out fun _ _ => id).trans k5 fun _ _ => id); clear k5))
              go_ret
              exact ⟨rfl, K9.out⟩
            · have hb : ((q : Int) == (m : Int)) = false := by simp; omega
              obtain ⟨d', v', hd'⟩ : ∃ d v, W[q + 1]? = some (d, v) := ⟨_, _, List.getElem?_eq_getElem (by have := HN.out; have := HM.out; omega)⟩
              have hnx := ceil_next UP.out HD.out hd'
              have hw := wrap_next (WF.out _ (List.mem_of_getElem? HD.out)) (WF.out _ (List.mem_of_getElem? hd')) (up_at UP.out HD.out hd' (by omega))
              simp only at hnx hw
              have HNX := Lib.hid (And.intro hnx hd')
              clear hnx hd'
              go_wp2_with fail
              go_roundw
              case rel => exact ⟨q + 1, d + 1, by go_num, by first | rfl | rw [hw], by omega, fun p hp => by rw [HNX.out.2] at hp; injection hp with hp; rw [← hp]; exact HNX.out.1, K5.out⟩
              case measure => simp [intOf]; omega
      · have hb3 : (kx != 3) = true := by simpa using h3
        go_wp2_with (first
          | (go_at_call 7; refine (alive_any8 F _).mono ?_; rintro e w9 ⟨rfl, k5⟩; have K9 := Lib.hid (KX.out.trans k5 fun _ _ => id); clear k5))
        go_ret
        exact ⟨rfl, K9.out⟩
end Go.Proofs.YtnlogilbiifmiaaDoor
