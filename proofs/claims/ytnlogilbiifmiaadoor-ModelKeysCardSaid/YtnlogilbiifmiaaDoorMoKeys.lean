/-
  ModelKeys, for any program's states that keep 'Face': called with any kinds, calls, collection, keys and value it answers true, and changes nothing that was there.
-/
import Derived.Test.YtnlogilbiifmiaaDoorMoPair
namespace Go.Proofs.YtnlogilbiifmiaaDoor
open Go.RowKit Go.Maps Go.Extern.Stop Go.Stop Go.Extern

set_option maxRecDepth 100000 in
set_option maxHeartbeats 4000000 in
theorem keys_any8 {PM : PMem} (F : Face PM) {w : World} {a0 : Option Addr} {len0 cap0 : Nat} {K : List Int} {a1 : Option Addr} {len1 cap1 : Nat} {L : List Act8} (c key value other : Int) (hK : IntL w a0 len0 K) (hL : Act8L w a1 len1 cap1 L) (hkey : wfI key) (hother : wfI other) (hg : Glob w) :
    Calls Tryd.prog 4 #[.slice a0 len0 cap0, .slice a1 len1 cap1, .int .i64 c, .int .i64 key, .int .i64 value, .int .i64 other] w fun e w' => e = .returned (.bool true) ∧ Keeps (fun _ => False) w w' := by
  by_cases hno : (20 < len0 ∨ 60 < len1) ∨ (mNew K).1 = false
  · have CP := Lib.hid (play_no8 (cap0 := cap0) (a1 := a1) (cap1 := cap1) F hK hno)
    clear hK hL hg hno
    go_enter Tryd.func4, Tryd.ntmps4
    go_wp2_with fail
    refine CP.out.mono ?_
    rintro e w1 ⟨rfl, hK⟩
    have K1 := Lib.hid hK
    clear hK
    go_wp2_with (first
      | (go_at_call 7; refine (alive_any8 F _).mono ?_; rintro e w2 ⟨rfl, k5⟩; have K5 := Lib.hid (K1.out.trans k5 fun _ _ => id); clear k5))
    go_ret
    exact ⟨rfl, K5.out⟩
  have h20 : len0 ≤ 20 := by rcases Nat.lt_or_ge 20 len0 with h | h; exact absurd (.inl (.inl h)) hno; exact h
  have h60 : len1 ≤ 60 := by rcases Nat.lt_or_ge 60 len1 with h | h; exact absurd (.inl (.inr h)) hno; exact h
  have hm : (mNew K).1 = true := by cases h : (mNew K).1 with | true => rfl | false => exact absurd (.inr h) hno
  have CP := Lib.hid (play_yes8 (cap0 := cap0) F hK hL h20 h60 hm hg)
  have hn := hK.len
  have n8 := mNew_len hm
  have HK := Lib.hid hK
  have fl : (len0 : Int) ≤ 9223372036854775807 := by omega
  clear hK hL hg hno h60 hm h20
  go_enter Tryd.func4, Tryd.ntmps4
  go_wp2_with fail
  refine CP.out.mono ?_
  rintro e w1 ⟨s, A, rfl, hO, hAK, hAL, _⟩
  have O1 := Lib.hid hO
  have K1 := Lib.hid hO.keeps
  have AK := Lib.hid (And.intro hAK hAL)
  clear hO hAK hAL
  by_cases h0 : len0 = 0
  · subst h0
    go_wp2_with (first
      | (go_at_call 7; refine (alive_any8 F _).mono ?_; rintro e w2 ⟨rfl, k5⟩; have K5 := Lib.hid (K1.out.trans k5 fun _ _ => id); clear k5))
    go_ret
    exact ⟨rfl, K5.out⟩
  have hz : ((len0 : Int) == 0) = false := by simp; omega
  have hz' : ¬ (len0 : Int) = 0 := by omega
  obtain ⟨k, hk, hkn⟩ := mod_in (c := c) (n := (len0 : Int)) (by omega) (by omega)
  go_upto_region 5 with fail
  try rw [hk]
  have kn : k < len0 := by omega
  have kl : k < A.L.length := by have := AK.out.2; omega
  have hth : A.there (k : Int) := ⟨by omega, by omega⟩
  have ok := Lib.hid (O1.out.ok F)
  obtain ⟨kb, ko, ha, hcs⟩ := HK.out.at_ (by omega)
  subst ha
  obtain ⟨kx, hkx⟩ : ∃ x, K[k]? = some x := ⟨_, List.getElem?_eq_getElem (by omega)⟩
  have KC := Lib.hid (hcs k kx hkx)
  have hkind : A.kind (k : Int) = kx := by
    unfold M8.kind
    rw [AK.out.1, Int.toNat_natCast, List.getD_eq_getElem?_getD, hkx]
    rfl
  obtain ⟨W, hW⟩ : ∃ W, A.col (k : Int) = W := ⟨_, rfl⟩
  have TH := Lib.hid hth
  have HW := Lib.hid hW
  have HKD := Lib.hid hkind
  obtain ⟨x, hx⟩ : ∃ x, (look W other).getD 0 = x := ⟨_, rfl⟩
  obtain ⟨b, hb⟩ : ∃ b, (look W other).isSome = b := ⟨_, rfl⟩
  have eg : mGet A (k : Int) other = (x, b, 0) := by rw [mGet_there hth, hW, hx, hb]
  have XB := Lib.hid (And.intro hx hb)
  have EG := Lib.hid eg
  clear hk hcs hkx hkind hth hW hx hb eg hkn
  go_wp2_with fail
  refine (copy_on8 F O1.out).mono ?_
  rintro e w2 ⟨o, rfl, hP⟩
  have P2 := Lib.hid hP
  clear hP
  go_wp2_with fail
  refine (get_on8 F P2.out.left (k : Int) other hother EG.out).mono ?_
  rintro e w3 ⟨ev, a, rfl, _, _, hK⟩
  have P3 := Lib.hid (P2.out.same F hK)
  clear hK
  go_wp2_with fail
  obtain ⟨vv, hvv⟩ : ∃ vv, mVal A (k : Int) value = vv := ⟨_, rfl⟩
  by_cases hfull : look W key = none ∧ 100 ≤ W.length
  · have ep : mPut A (k : Int) key value = (A, 8) := by unfold mPut; rw [if_pos TH.out, HW.out, if_pos hfull]
    have EP := Lib.hid ep
    clear hfull ep hvv
    refine (put_pair8 F P3.out (k : Int) key value hkey EP.out).mono ?_
    rintro e w4 ⟨ev, a, rfl, hT, hP⟩
    have T4 := Lib.hid hT
    have P4 := Lib.hid hP
    clear hT hP
    go_wp2_with (first
      | (go_at_call 10; refine (no_u T4.out).mono ?_; rintro e w' ⟨rfl, rfl⟩)
      | (go_at_call 18; refine (same_pair8 F P4.out).mono ?_; rintro e w5 ⟨b5, rfl, hb5, hK⟩; obtain rfl := hb5.2 rfl; have K5 := Lib.hid (P4.out.keeps.trans hK fun _ _ => id); clear hK hb5)
      | (go_at_call 7; refine (alive_any8 F _).mono ?_; rintro e w6 ⟨rfl, k5⟩; have K6 := Lib.hid (K5.out.trans k5 fun _ _ => id); clear k5))
    go_ret
    exact ⟨rfl, K6.out⟩
  have ep : mPut A (k : Int) key value = (A.setC (k : Int) (put W key vv), 0) := by unfold mPut; rw [if_pos TH.out, HW.out, if_neg hfull, hvv]
  obtain ⟨B, hB⟩ : ∃ B, A.setC (k : Int) (put W key vv) = B := ⟨_, rfl⟩
  rw [hB] at ep
  have EP := Lib.hid ep
  have THB : B.there (k : Int) := by rw [← hB]; exact there_setC.2 TH.out
  have hcol : ∀ j : Int, 0 ≤ j → B.col j = if j = (k : Int) then put W key vv else A.col j := fun j hj => by rw [← hB]; exact col_setC TH.out j hj
  have hcB := hcol (k : Int) (by omega)
  rw [if_pos rfl] at hcB
  have eg1 : mGet B (k : Int) key = (vv, true, 0) := by rw [mGet_there THB, hcB, look_put, if_pos rfl]; rfl
  obtain ⟨x2, b2, eg2, hx2⟩ : ∃ x2 b2, mGet B (k : Int) other = (x2, b2, 0) ∧ (other ≠ key → x2 = x ∧ b2 = b) := by
    refine ⟨_, _, mGet_there THB other, fun hne => ?_⟩
    rw [hcB, look_put, if_neg hne]
    exact XB.out
  have ed : mDel B (k : Int) key = (B.setC (k : Int) (del (put W key vv) key), 0) := by unfold mDel; rw [if_pos THB, hcB]
  obtain ⟨C, hC⟩ : ∃ C, B.setC (k : Int) (del (put W key vv) key) = C := ⟨_, rfl⟩
  rw [hC] at ed
  have THC : C.there (k : Int) := by rw [← hC]; exact there_setC.2 THB
  have hcC : C.col (k : Int) = del (put W key vv) key := by rw [← hC, col_setC THB _ (by omega), if_pos rfl]
  have eg3 : mGet C (k : Int) key = (0, false, 0) := by rw [mGet_there THC, hcC, look_del, if_pos rfl]; rfl
  have thB : ∀ j : Int, B.there j ↔ A.there j := fun j => by rw [← hB]; exact there_setC
  have E1 := Lib.hid eg1
  have E2 := Lib.hid eg2
  have HX2 := Lib.hid hx2
  have ED := Lib.hid ed
  have E3 := Lib.hid eg3
  have HC := Lib.hid hcol
  have TB := Lib.hid thB
  have HVV := Lib.hid hvv
  clear hfull ep hB THB hcol hcB eg1 eg2 hx2 ed hC THC hcC eg3 thB hvv
  refine (put_pair8 F P3.out (k : Int) key value hkey EP.out).mono ?_
  rintro e w4 ⟨ev, a, rfl, hT, hP⟩
  obtain rfl := hT.nil
  have P4 := Lib.hid hP
  have kc4 := (hP.keeps.cell (cell_lt KC.out) id).trans KC.out
  have hkl : (k : Int) < (len0 : Int) := by omega
  clear hT hP
  have C2 : (kx = 2 ∧ vv = 1) ∨ ((kx == 2) = false ∧ vv = value) := by
    have h := HVV.out
    unfold mVal at h
    rw [HKD.out] at h
    by_cases e : kx = 2
    · rw [if_pos e] at h; exact .inl ⟨e, h.symm⟩
    · rw [if_neg e] at h; exact .inr ⟨by simpa using e, h.symm⟩
  clear HVV
  rcases C2 with ⟨rfl, rfl⟩ | ⟨hkx, rfl⟩
  all_goals
    go_upto_region 13 with (first
      | (go_at_call 10; refine (no_nil _).mono ?_; rintro e w' ⟨rfl, rfl⟩))
    clear kc4
    go_wp2_with fail
    refine (get_on8 F P4.out.left (k : Int) key hkey E1.out).mono ?_
    rintro e w5 ⟨ev, a, rfl, _, _, hK⟩
    have P5 := Lib.hid (P4.out.same F hK)
    clear hK
    go_wp2_with fail
    refine (get_on8 F P5.out.left (k : Int) other hother E2.out).mono ?_
    rintro e w6 ⟨ev, a, rfl, _, _, hK⟩
    have P6 := Lib.hid (P5.out.same F hK)
    clear hK
    have C3 : (other != key) = false ∨ ((other != key) = true ∧ x2 = x ∧ b2 = b) := by
      by_cases e : other = key
      · exact .inl (by simp [e])
      · obtain ⟨h1, h2⟩ := HX2.out e
        exact .inr ⟨by simpa using e, h1, h2⟩
    rcases C3 with hok | ⟨hok, rfl, rfl⟩
    all_goals
      cases b2
      all_goals
       go_wp2_with fail
       go_loopw [131] (fun iv wr => ∃ i : Nat, iv = .int .i64 i ∧ i ≤ len0 ∧ Pair8 PM w wr s B o A) (fun iv _ => len0 - (intOf iv).toNat)
       case atStart => exact ⟨0, rfl, Nat.zero_le _, P6.out⟩
       case round =>
         obtain ⟨i, rfl, hi, hP⟩ := hrel
         have PR := Lib.hid hP
         clear hP
         by_cases hlt : i < len0
         · have b2 : (i : Int) < (len0 : Int) := by omega
           have thA : A.there (i : Int) := ⟨by omega, by have := AK.out.2; omega⟩
           have CA := Lib.hid (fun V (K : Keeps (fun _ => False) wr V) => list_on8 F (PR.out.same F K).right (i : Int) thA)
           have CB := Lib.hid (list_on8 F PR.out.left (i : Int) ((TB.out _).2 thA))
           have few := ((ok.out).col thA).2
           have few' : (A.col (i : Int)).length ≤ 100000 := by omega
           have hBA : (i : Int) ≠ (k : Int) → B.col (i : Int) = A.col (i : Int) := fun hne => by rw [HC.out _ (by omega), if_neg hne]
           have HBA := Lib.hid hBA
           clear thA few hBA
           go_wp2_with fail
           refine CB.out.mono ?_
           rintro e w7 ⟨u, rfl, hu, _, hK⟩
           have U := Lib.hid hu
           have K7 := Lib.hid hK
           clear hu hK
           go_wp2_with fail
           refine (CA.out _ K7.out).mono ?_
           rintro e w8 ⟨u', rfl, hu, _, hK⟩
           have U8 := Lib.hid (ownsRow_keeps U.out hK fun _ _ => id)
           have U' := Lib.hid hu
           have K8 := Lib.hid (K7.out.trans hK fun _ _ => id)
           have P8 := Lib.hid (PR.out.same F K8.out)
           clear hu hK
           by_cases hik : i = k
           · have hb : ((i : Int) != (k : Int)) = false := by simp [hik]
             go_wp2_with fail
             go_roundw
             case rel => exact ⟨i + 1, by go_num, by omega, P8.out⟩
             case measure => simp [intOf]; omega
           · have hb : ((i : Int) != (k : Int)) = true := by simp; omega
             have UE := Lib.hid (show PRow w8 u (A.col (i : Int)) from by have := U8.out; rw [HBA.out (by omega)] at this; exact this)
             go_wp2_with (first
               | (go_at_call 20; refine (pr_self UE.out U'.out few').mono ?_; rintro e w9 ⟨rfl, hK⟩; have P9 := Lib.hid (P8.out.same F hK); clear hK))
             go_roundw
             case rel => exact ⟨i + 1, by go_num, by omega, P9.out⟩
             case measure => simp [intOf]; omega
         · obtain rfl : i = len0 := by omega
           have b2 : ¬ (i : Int) < (i : Int) := by omega
           go_wp2_with fail
           refine (del_pair8 F PR.out (k : Int) key hkey ED.out).mono ?_
           rintro e w7 ⟨ev, a, rfl, hT, hP⟩
           obtain rfl := hT.nil
           have P7 := Lib.hid hP
           clear hT hP
           go_wp2_with fail
           refine (get_on8 F P7.out.left (k : Int) key hkey E3.out).mono ?_
           rintro e w8 ⟨ev, a, rfl, _, _, hK⟩
           have K8 := Lib.hid (P7.out.keeps.trans hK fun _ _ => id)
           clear hK
           go_wp2_with (first
             | (go_at_call 10; refine (no_nil _).mono ?_; rintro e w' ⟨rfl, rfl⟩)
             | (go_at_call 7; refine (alive_any8 F _).mono ?_; rintro e w9 ⟨rfl, k5⟩; have K9 := Lib.hid (K8.out.trans k5 fun _ _ => id); clear k5))
           go_ret
           exact ⟨rfl, K9.out⟩
end Go.Proofs.YtnlogilbiifmiaaDoor
