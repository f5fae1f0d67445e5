/-
  The document's state: Del and Put, by contract (printed by gen/mkmorefput.py).
-/
import Derived.Test.YtnlogilbiifmiaaDoorMoRefSet
namespace Go.Proofs.YtnlogilbiifmiaaDoor
open Go.RowKit Go.Maps Go.Extern.Stop Go.Stop Go.Extern

theorem RSet.mid {w wc w' : World} {r : Nat} {A0 A : M8} {Y : Nat → Prop} (h : RM w r A0 Y) (k : Keeps (fun _ => False) w wc) (hs : RSet wc w' r A Y w.heap.size) : RMid w w' r A Y := by
  obtain ⟨Y', h1, h2, h3⟩ := hs
  exact ⟨Y', h1, h2, (k.mono fun _ _ => False.elim : Keeps Y w wc).trans h3 fun x _ e => by rw [e]; exact h.inY⟩
theorem Mine.alloc {α : Type} {K : RK α} {w0 w : World} {v : Value} {l : List α} (h : Mine K w0 w v l) (o : Obj) : Mine K w0 (w.alloc o) v l := h.same ((Keeps.refl _ w).alloc o)
theorem prow_lit {w : World} {b : Nat} {p : Int × Int} (h : Whole w b 54 #[.int .i64 p.1, .int .i64 p.2]) : PRow w (.slice (some ⟨b, 0, none⟩) 1 1) [p] :=
  ⟨rfl, .inr ⟨b, 1, _, rfl, Nat.zero_le _, h, Nat.le_refl _, (by decide : 1 ≤ maxLen), rfl, rfl⟩⟩
theorem made_next (w : World) (o : Obj) (t : TypeId) (cs : Array Value) : Whole ((w.alloc o).alloc (.cells cs t)) (w.heap.size + 1) t cs := by
  have := Whole.made (w.alloc o) t cs
  rwa [World.size_alloc] at this

set_option maxRecDepth 100000 in
set_option maxHeartbeats 2000000 in
theorem rdel8 {w : World} {r : Nat} {A : M8} {Y : Nat → Prop} (h : RM w r A Y) (hok : A.Ok) (c key : Int) :
    Calls Tryd.prog 33 #[.pointer (some ⟨r, 0, none⟩), .int .i64 c, .int .i64 key] w fun e w' => e = .returned (.int .i64 ((mDel A c key).2 : Nat)) ∧ RMid w w' r (mDel A c key).1 Y := by
  have CT := there_any h hok c
  by_cases ht : A.there c
  · rw [decide_eq_true ht] at CT
    have CT := Lib.hid CT
    obtain ⟨k, rfl, hk⟩ := nat_of_there ht
    obtain ⟨W, hW⟩ : ∃ W, A.col (k : Int) = W := ⟨_, rfl⟩
    have ea : mDel A (k : Int) key = (A.setC (k : Int) (del W key), 0) := by unfold mDel; rw [if_pos ht, hW]
    rw [hW] at hk
    have hkl : k < A.L.length := (List.getElem?_eq_some_iff.1 hk).1
    have few := (hok.ups W (List.mem_of_getElem? hk)).2
    obtain ⟨g, m, cap, o, n, cc, hA⟩ := h.colAt hk
    have hn' := Lib.hid hA.len
    have fewn : n ≤ 100 := by have := hA.len; omega
    have km' : (k : Int) < (m : Int) := by have := hA.lt; omega
    obtain ⟨o', c', e, ho⟩ := prow_cells hA.row hA.len
    injection e with e1 e2 e3
    subst e1
    rw [ea]
    have HA := Lib.hid hA
    have c1 := hA.outer
    have c2 := hA.inner
    have H0 := Lib.hid h
    have ok := Lib.hid hok
    clear h ht hk hA ea e3 e2 few hok
    go_enter Tryd.func33, Tryd.ntmps33
    go_wp2_with (first | (go_at_call 51; refine CT.out.mono ?_; rintro e w' ⟨rfl, rfl⟩))
    go_loopw [7, 8] (fun lv iv wr => ∃ (i : Nat) (lo : Option Addr) (kk lc : Nat), iv = .int .i64 i ∧ lv = .slice lo kk lc ∧ i ≤ n ∧ kk ≤ i ∧ (del (W.take i) key).length = kk ∧ Mine pairK w wr (.slice lo kk lc) (del (W.take i) key) ∧ Keeps (fun _ => False) w wr) (fun lv iv _ => n - (intOf iv).toNat)
    case atStart => exact ⟨0, none, 0, 0, rfl, rfl, Nat.zero_le _, Nat.le_refl _, rfl, ⟨World.ownsRow_nil .., fun g hg => by simp [Value.ownBlock] at hg⟩, Keeps.refl _ _⟩
    case round =>
      clear c1 c2
      obtain ⟨i, lo, kk, lc, rfl, rfl, hi, hkk, hlk, hM, hK⟩ := hrel
      have lk := Lib.hid hlk
      replace lk := lk.out
      have M1 := Lib.hid hM
      have K1 := Lib.hid hK
      have d1 := (HA.out.same hK).outer
      have d2 := (HA.out.same hK).inner
      by_cases hlt : i < n
      · have b1 : (i : Int) < (n : Int) := by omega
        obtain ⟨g', rfl, hc⟩ := ho (by omega)
        obtain ⟨d, u, hd⟩ : ∃ d u, W[i]? = some (d, u) := ⟨_, _, List.getElem?_eq_getElem (by rw [hn'.out]; exact hlt)⟩
        obtain ⟨q0, q1⟩ := hc i _ hd
        have d3 := (hK.cell (cell_lt q0) id).trans q0
        have d4 := (hK.cell (cell_lt q1) id).trans q1
        simp only at d3 d4
        have DT := Lib.hid (del_take (k := key) hd)
        clear hM hK q0 q1 hc hd ho
        by_cases he : d = key
        · subst he
          have hb : (d != d) = false := by simp
          clear hlk
          go_wp2_with fail
          go_roundw
          case rel =>
            have e0 := DT.out
            rw [if_pos rfl, List.append_nil] at e0
            exact ⟨i + 1, lo, kk, lc, by go_num, rfl, by omega, by omega, by rw [e0]; exact lk, by rw [e0]; exact M1.out, K1.out⟩
          case measure => simp [intOf]; omega
        · have hb : (d != key) = true := by simpa using he
          go_wp2_with (first
            | (at_builtin; refine wpList_append_row pairK rfl _ _ rfl w _ (del (W.take i) key) [(d, u)] rfl (M1.out.alloc _) (K1.out.alloc _) _ rfl (prow_lit (p := (d, u)) (Whole.made wr 54 #[.int .i64 ((d, u)).1, .int .i64 ((d, u)).2])) (kk + 1) (by simp [lk]) (by omega) ?_; intro ao2 ac2 w2 hM hK hK3; have M2 := Lib.hid hM; have K2 := Lib.hid hK; clear hM hK hK3))
          go_roundw
          case rel =>
            have e0 := DT.out
            rw [if_neg he] at e0
            exact ⟨i + 1, ao2, kk + 1, ac2, by go_num, rfl, by omega, by omega, by rw [e0, List.length_append, lk]; rfl, by rw [e0]; exact M2.out, K2.out⟩
          case measure => simp [intOf]; omega
      · obtain rfl : i = n := by omega
        have b1 : ¬ (i : Int) < (i : Int) := by omega
        have ME := Lib.hid (show Mine pairK w wr (.slice lo kk lc) (del W key) from by
          have := M1.out
          rw [List.take_of_length_le (by rw [hn'.out]; exact Nat.le_refl _)] at this
          exact this)
        have KE := K1
        clear hM hK ho hlk
        go_wp2_with (first | (go_at_call 53; refine (rset8 (H0.out.same KE.out) ok.out hkl (v := (lo, kk, lc)) ME.out.1 KE.out.size ME.out.2).mono ?_; rintro e w9 ⟨rfl, hS⟩; have S9 := Lib.hid (RSet.mid H0.out KE.out hS); clear hS))
        go_ret
        exact ⟨rfl, S9.out⟩
  · rw [decide_eq_false ht] at CT
    have CT := Lib.hid CT
    have ea : mDel A c key = (A, 3) := by unfold mDel; rw [if_neg ht]
    rw [ea]
    have H0 := Lib.hid h
    clear h ht ea
    go_enter Tryd.func33, Tryd.ntmps33
    go_wp2_with (first | (go_at_call 51; refine CT.out.mono ?_; rintro e w' ⟨rfl, rfl⟩))
    go_ret
    exact ⟨rfl, RMid.same H0.out (Keeps.refl _ _)⟩

set_option maxRecDepth 100000 in
set_option maxHeartbeats 4000000 in
theorem rput8 {w : World} {r : Nat} {A : M8} {Y : Nat → Prop} (h : RM w r A Y) (hok : A.Ok) (c key v : Int) :
    Calls Tryd.prog 32 #[.pointer (some ⟨r, 0, none⟩), .int .i64 c, .int .i64 key, .int .i64 v] w fun e w' => e = .returned (.int .i64 ((mPut A c key v).2 : Nat)) ∧ RMid w w' r (mPut A c key v).1 Y := by
  have CT := there_any h hok c
  by_cases ht : A.there c
  · rw [decide_eq_true ht] at CT
    have CT := Lib.hid CT
    obtain ⟨k, rfl, hk⟩ := nat_of_there ht
    obtain ⟨kg, km, kcap, k1, k2, k3⟩ := kind_facts h hok ht
    obtain ⟨W, hW⟩ : ∃ W, A.col (k : Int) = W := ⟨_, rfl⟩
    have hk0 := hk
    rw [hW] at hk
    have hkl : k < A.L.length := (List.getElem?_eq_some_iff.1 hk).1
    obtain ⟨up, few⟩ := hok.ups W (List.mem_of_getElem? hk)
    obtain ⟨g, m, cap, o, n, cc, hA⟩ := h.colAt hk
    have hn' := Lib.hid hA.len
    have fewn : n ≤ 100 := by have := hA.len; omega
    have km' : (k : Int) < (m : Int) := by have := hA.lt; omega
    obtain ⟨o', c', e, ho⟩ := prow_cells hA.row hA.len
    injection e with e1 e2 e3
    subst e1
    have cf := find8_any hA (by omega) key
    obtain ⟨z, hz⟩ : ∃ z, (plc W key : Int) - 1 = z := ⟨_, rfl⟩
    rw [hz] at cf
    have CF := Lib.hid cf
    have HA := Lib.hid hA
    have c1 := hA.outer
    have c2 := hA.inner
    have H0 := Lib.hid h
    have ok := Lib.hid hok
    have UP := Lib.hid up
    have hlen := hA.len
    by_cases hfull : look W key = none ∧ 100 ≤ W.length
    · have ea : mPut A (k : Int) key v = (A, 8) := by unfold mPut; rw [if_pos ht, hW, if_pos hfull]
      rw [ea]
      have b1 : z < 0 := by rw [← hz, plc_zero.2 hfull.1]; decide
      have b2 : (100 : Int) ≤ (n : Int) := by have := hfull.2; omega
      clear h ht hk hk0 hA ea e3 e2 few hok cf hz ho up hfull hlen
      go_enter Tryd.func32, Tryd.ntmps32
      go_wp2_with (first | (go_at_call 51; refine CT.out.mono ?_; rintro e w' ⟨rfl, rfl⟩) | (go_at_call 52; refine CF.out.mono ?_; rintro e w' ⟨rfl, rfl⟩))
      go_ret
      exact ⟨rfl, RMid.same H0.out (Keeps.refl _ _)⟩
    have ea : mPut A (k : Int) key v = (A.setC (k : Int) (put W key (mVal A (k : Int) v)), 0) := by unfold mPut; rw [if_pos ht, hW, if_neg hfull]
    rw [ea]
    obtain ⟨vv, hvv⟩ : ∃ vv, mVal A (k : Int) v = vv := ⟨_, rfl⟩
    rw [hvv]
    have hsome : z < 0 → ¬ (100 : Int) ≤ (n : Int) := fun hz0 h5 => hfull ⟨plc_zero.1 (by omega), by omega⟩
    obtain ⟨x, hx⟩ : ∃ x, A.kind (k : Int) = x := ⟨_, rfl⟩
    unfold mVal at hvv
    rw [hx] at k3 hvv
    have C4 : (z < 0 ∧ ¬ (100 : Int) ≤ (n : Int)) ∨ ¬ z < 0 := by
      by_cases e : z < 0
      · exact .inl ⟨e, hsome e⟩
      · exact .inr e
    clear h ht hk hk0 hA ea e3 e2 few hok cf hz up hfull hlen hx hsome
    by_cases hx2 : x = 2
    · subst hx2
      obtain rfl : vv = 1 := hvv.symm
      clear hvv
      rcases C4 with ⟨bz1, bz2⟩ | bz1
      all_goals
        go_enter Tryd.func32, Tryd.ntmps32
        go_wp2_with (first | (go_at_call 51; refine CT.out.mono ?_; rintro e w' ⟨rfl, rfl⟩) | (go_at_call 52; refine CF.out.mono ?_; rintro e w' ⟨rfl, rfl⟩))
        go_loopw [9, 10, 11] (fun lv pv iv wr => ∃ (i : Nat) (lo : Option Addr) (kk lc : Nat) (p : Bool), iv = .int .i64 i ∧ lv = .slice lo kk lc ∧ pv = .bool p ∧ i ≤ n ∧ kk ≤ i + 1 ∧ (wl (W.take i) key 1 p).length = kk ∧ Mine pairK w wr (.slice lo kk lc) (wl (W.take i) key 1 p) ∧ Keeps (fun _ => False) w wr ∧ wp_ (W.take i) key p) (fun _ _ iv _ => n - (intOf iv).toNat)
        case atStart => exact ⟨0, none, 0, 0, false, rfl, rfl, rfl, Nat.zero_le _, Nat.zero_le _, rfl, ⟨World.ownsRow_nil .., fun g hg => by simp [Value.ownBlock] at hg⟩, Keeps.refl _ _, fun _ x hx => by simp at hx, fun h => by cases h⟩
        case round =>
          clear c1 c2
          obtain ⟨i, lo, kk, lc, p, rfl, rfl, rfl, hi, hkk, hlk, hM, hK, hp⟩ := hrel
          have M1 := Lib.hid hM
          have K1 := Lib.hid hK
          have P1 := Lib.hid hp
          have d1 := (HA.out.same hK).outer
          have d2 := (HA.out.same hK).inner
          have nB : ¬ (Value.slice lo kk lc).ownBlock = some wr.heap.size := fun e => by have := (World.ownsRow.lt hM.1 _ e).2; omega
          have lk := hlk
          have hlk' := Lib.hid hlk
          by_cases hlt : i < n
          · have b1 : (i : Int) < (n : Int) := by omega
            obtain ⟨g', rfl, hc⟩ := ho (by omega)
            obtain ⟨d, u, hd⟩ : ∃ d u, W[i]? = some (d, u) := ⟨_, _, List.getElem?_eq_getElem (by rw [hn'.out]; exact hlt)⟩
            obtain ⟨q0, q1⟩ := hc i _ hd
            have d3 := (hK.cell (cell_lt q0) id).trans q0
            have d4 := (hK.cell (cell_lt q1) id).trans q1
            simp only at d3 d4
            have HT := Lib.hid (take_add hd)
            have HB := Lib.hid (show ∀ x ∈ W.take i, x.1 < d from fun x hx => by
              obtain ⟨j, hj, rfl⟩ := List.getElem_of_mem hx
              have hj' : j < i := by rw [List.length_take] at hj; omega
              rw [List.getElem_take]
              exact up_at UP.out (List.getElem?_eq_getElem (by rw [hn'.out]; omega)) hd hj')
            clear hM hK q0 q1 hc hd ho hlk hp
            rcases Int.lt_trichotomy d key with hdc | hdc | hdc
            · -- ahead of the key: nothing is put yet
              have hpf : p = false := by
                cases p with
                | false => rfl
                | true =>
                  obtain ⟨x, hx, hcx⟩ := P1.out.2 rfl
                  have := HB.out x hx
                  omega
              subst hpf
              have e1 : decide (key ≤ d) = false := decide_eq_false (by omega)
              have e2 : (d != key) = true := by simp; omega
              go_wp2_with (first | (at_builtin; refine wpList_append_row pairK rfl _ _ rfl w _ (wl (W.take i) key 1 false) [(d, u)] rfl ((M1.out.alloc _).alloc _) ((K1.out.alloc _).alloc _) _ rfl (prow_lit (p := (d, u)) (made_next wr _ 54 #[.int .i64 ((d, u)).1, .int .i64 ((d, u)).2])) (kk + 1) (by simp [lk]) (by omega) ?_; intro ao2 ac2 w2 hM hK hK3; have M2 := Lib.hid hM; have K2 := Lib.hid hK; clear hM hK hK3))
              go_roundw
              case rel => exact ⟨i + 1, ao2, kk + 1, ac2, false, by go_num, rfl, rfl, by omega, by omega, by rw [HT.out]; show (W.take i ++ [(d, u)]).length = _; rw [List.length_append]; exact congrArg (· + 1) hlk'.out, by rw [HT.out]; exact M2.out, K2.out, fun _ x hx => by
                rw [HT.out] at hx
                rcases List.mem_append.1 hx with hx | hx
                · exact P1.out.1 rfl x hx
                · simp at hx; subst hx; exact hdc, fun h => by cases h⟩
              case measure => simp [intOf]; omega
            · -- the key itself
              subst hdc
              have hpf : p = false := by
                cases p with
                | false => rfl
                | true =>
                  obtain ⟨x, hx, hcx⟩ := P1.out.2 rfl
                  have := HB.out x hx
                  omega
              subst hpf
              have e1 : d ≤ d := by omega
              have e2 : (d != d) = false := by simp
              go_wp2_with (first | (at_builtin; refine wpList_append_row pairK rfl _ _ rfl w _ (wl (W.take i) d 1 false) [(d, 1)] rfl ((M1.out.alloc _).alloc _) ((K1.out.alloc _).alloc _) _ rfl (prow_lit (p := (d, 1)) (made_next wr _ 54 #[.int .i64 ((d, 1)).1, .int .i64 ((d, 1)).2])) (kk + 1) (by simp [lk]) (by omega) ?_; intro ao2 ac2 w2 hM hK hK3; have M2 := Lib.hid hM; have K2 := Lib.hid hK; have z4 : w2.cell? ⟨wr.heap.size, 0, none⟩ = some (.int .i64 d) := (((Whole.made wr 54 #[.int .i64 d, .int .i64 u]).alloc _).keeps hK3 nB).at_ 0; have z5 : w2.cell? ⟨wr.heap.size, 1, none⟩ = some (.int .i64 u) := (((Whole.made wr 54 #[.int .i64 d, .int .i64 u]).alloc _).keeps hK3 nB).at_ 1; clear hM hK hK3))
              go_roundw
              case rel => exact ⟨i + 1, ao2, kk + 1, ac2, true, by go_num, rfl, rfl, by omega, by omega, by
                rw [HT.out]
                show (put (W.take i ++ [(d, u)]) d 1).length = _
                rw [put_eq HB.out, List.length_append]
                exact congrArg (· + 1) hlk'.out, by
                rw [HT.out]
                show Mine pairK w w2 _ (put (W.take i ++ [(d, u)]) d 1)
                rw [put_eq HB.out]
                exact M2.out, K2.out, (fun h => by cases h), fun _ => ⟨(d, u), by rw [HT.out]; simp, e1⟩⟩
              case measure => simp [intOf]; omega
            · have e1 : key ≤ d := by omega
              have e2 : (d != key) = true := by simp; omega
              cases p with
              | true =>
                go_wp2_with (first | (at_builtin; refine wpList_append_row pairK rfl _ _ rfl w _ (wl (W.take i) key 1 true) [(d, u)] rfl ((M1.out.alloc _).alloc _) ((K1.out.alloc _).alloc _) _ rfl (prow_lit (p := (d, u)) (made_next wr _ 54 #[.int .i64 ((d, u)).1, .int .i64 ((d, u)).2])) (kk + 1) (by simp [lk]) (by omega) ?_; intro ao2 ac2 w2 hM hK hK3; have M2 := Lib.hid hM; have K2 := Lib.hid hK; clear hM hK hK3))
                go_roundw
                case rel => exact ⟨i + 1, ao2, kk + 1, ac2, true, by go_num, rfl, rfl, by omega, by omega, by
                  rw [HT.out]
                  show (put (W.take i ++ [(d, u)]) key 1).length = _
                  rw [put_gt hdc, List.length_append]
                  exact congrArg (· + 1) hlk'.out, by
                  rw [HT.out]
                  show Mine pairK w w2 _ (put (W.take i ++ [(d, u)]) key 1)
                  rw [put_gt hdc]
                  exact M2.out, K2.out, (fun h => by cases h), fun _ => ⟨(d, u), by rw [HT.out]; simp, e1⟩⟩
                case measure => simp [intOf]; omega
              | false =>
                have hkk' : kk ≤ i := by
                  have h1 : (W.take i).length = kk := hlk'.out
                  rw [List.length_take] at h1
                  omega
                go_wp2_with (first
                  | (at_builtin; refine wpList_append_row pairK rfl _ _ rfl w _ ((wl (W.take i) key 1 false) ++ [(key, 1)]) [(d, u)] rfl (M2.out.alloc _) (K2.out.alloc _) _ rfl (prow_lit (p := (d, u)) (Whole.made w2 54 #[.int .i64 ((d, u)).1, .int .i64 ((d, u)).2])) (kk + 1 + 1) (by simp [lk]) (by omega) ?_; intro ao3 ac3 w3 hM hK hK3; have M3 := Lib.hid hM; have K3 := Lib.hid hK; clear hM hK hK3)
                  | (at_builtin; refine wpList_append_row pairK rfl _ _ rfl w _ (wl (W.take i) key 1 false) [(key, 1)] rfl ((M1.out.alloc _).alloc _) ((K1.out.alloc _).alloc _) _ rfl (prow_lit (p := (key, 1)) (made_next wr _ 54 #[.int .i64 ((key, 1)).1, .int .i64 ((key, 1)).2])) (kk + 1) (by simp [lk]) (by omega) ?_; intro ao2 ac2 w2 hM hK hK3; have M2 := Lib.hid hM; have K2 := Lib.hid hK; have z4 : w2.cell? ⟨wr.heap.size, 0, none⟩ = some (.int .i64 d) := (((Whole.made wr 54 #[.int .i64 d, .int .i64 u]).alloc _).keeps hK3 nB).at_ 0; have z5 : w2.cell? ⟨wr.heap.size, 1, none⟩ = some (.int .i64 u) := (((Whole.made wr 54 #[.int .i64 d, .int .i64 u]).alloc _).keeps hK3 nB).at_ 1; clear hM hK hK3))
                go_roundw
                case rel => exact ⟨i + 1, ao3, kk + 1 + 1, ac3, true, by go_num, rfl, rfl, by omega, by omega, by
                  rw [HT.out]
                  show (put (W.take i ++ [(d, u)]) key 1).length = _
                  rw [put_gt hdc, put_all (P1.out.1 rfl), List.length_append, List.length_append]
                  exact congrArg (· + 1 + 1) hlk'.out, by
                  rw [HT.out]
                  show Mine pairK w w3 _ (put (W.take i ++ [(d, u)]) key 1)
                  rw [put_gt hdc, put_all (P1.out.1 rfl)]
                  exact M3.out, K3.out, (fun h => by cases h), fun _ => ⟨(d, u), by rw [HT.out]; simp, e1⟩⟩
                case measure => simp [intOf]; omega
          · obtain rfl : i = n := by omega
            have b1 : ¬ (i : Int) < (i : Int) := by omega
            have ht : W.take i = W := List.take_of_length_le (by rw [hn'.out]; exact Nat.le_refl _)
            rw [ht] at M1 P1 lk
            clear hM hK hp ho hlk hlk'
            cases p with
            | true =>
              have ME := Lib.hid (show Mine pairK w wr (.slice lo kk lc) (put W key 1) from M1.out)
              have KE := K1
              go_wp2_with (first | (go_at_call 53; refine (rset8 (H0.out.same KE.out) ok.out hkl (v := (lo, kk, lc)) ME.out.1 KE.out.size ME.out.2).mono ?_; rintro e w9 ⟨rfl, hS⟩; have S9 := Lib.hid (RSet.mid H0.out KE.out hS); clear hS))
              go_ret
              exact ⟨rfl, S9.out⟩
            | false =>
              go_wp2_with (first
                | (go_at_call 53; refine (rset8 (H0.out.same KE.out) ok.out hkl (v := (ao2, kk + 1, ac2)) ME.out.1 KE.out.size ME.out.2).mono ?_; rintro e w9 ⟨rfl, hS⟩; have S9 := Lib.hid (RSet.mid H0.out KE.out hS); clear hS)
                | (at_builtin; refine wpList_append_row pairK rfl _ _ rfl w _ (wl W key 1 false) [(key, 1)] rfl (M1.out.alloc _) (K1.out.alloc _) _ rfl (prow_lit (p := (key, 1)) (Whole.made wr 54 #[.int .i64 ((key, 1)).1, .int .i64 ((key, 1)).2])) (kk + 1) (by simp [lk]) (by omega) ?_; intro ao2 ac2 w2 hM hK hK3; have M2 := Lib.hid hM; have K2 := Lib.hid hK; have ME := Lib.hid (show Mine pairK w w2 (.slice ao2 (kk + 1) ac2) (put W key 1) from by rw [put_all (P1.out.1 rfl)]; exact hM); have KE := Lib.hid hK; clear hM hK hK3))
              go_ret
              exact ⟨rfl, S9.out⟩
    · rw [if_neg hx2] at hvv
      subst hvv
      have hb2 : (x == 2) = false := by simpa using hx2
      clear hx2
      rcases C4 with ⟨bz1, bz2⟩ | bz1
      all_goals
        go_enter Tryd.func32, Tryd.ntmps32
        go_wp2_with (first | (go_at_call 51; refine CT.out.mono ?_; rintro e w' ⟨rfl, rfl⟩) | (go_at_call 52; refine CF.out.mono ?_; rintro e w' ⟨rfl, rfl⟩))
        go_loopw [9, 10, 11] (fun lv pv iv wr => ∃ (i : Nat) (lo : Option Addr) (kk lc : Nat) (p : Bool), iv = .int .i64 i ∧ lv = .slice lo kk lc ∧ pv = .bool p ∧ i ≤ n ∧ kk ≤ i + 1 ∧ (wl (W.take i) key v p).length = kk ∧ Mine pairK w wr (.slice lo kk lc) (wl (W.take i) key v p) ∧ Keeps (fun _ => False) w wr ∧ wp_ (W.take i) key p) (fun _ _ iv _ => n - (intOf iv).toNat)
        case atStart => exact ⟨0, none, 0, 0, false, rfl, rfl, rfl, Nat.zero_le _, Nat.zero_le _, rfl, ⟨World.ownsRow_nil .., fun g hg => by simp [Value.ownBlock] at hg⟩, Keeps.refl _ _, fun _ x hx => by simp at hx, fun h => by cases h⟩
        case round =>
          clear c1 c2
          obtain ⟨i, lo, kk, lc, p, rfl, rfl, rfl, hi, hkk, hlk, hM, hK, hp⟩ := hrel
          have M1 := Lib.hid hM
          have K1 := Lib.hid hK
          have P1 := Lib.hid hp
          have d1 := (HA.out.same hK).outer
          have d2 := (HA.out.same hK).inner
          have nB : ¬ (Value.slice lo kk lc).ownBlock = some wr.heap.size := fun e => by have := (World.ownsRow.lt hM.1 _ e).2; omega
          have lk := hlk
          have hlk' := Lib.hid hlk
          by_cases hlt : i < n
          · have b1 : (i : Int) < (n : Int) := by omega
            obtain ⟨g', rfl, hc⟩ := ho (by omega)
            obtain ⟨d, u, hd⟩ : ∃ d u, W[i]? = some (d, u) := ⟨_, _, List.getElem?_eq_getElem (by rw [hn'.out]; exact hlt)⟩
            obtain ⟨q0, q1⟩ := hc i _ hd
            have d3 := (hK.cell (cell_lt q0) id).trans q0
            have d4 := (hK.cell (cell_lt q1) id).trans q1
            simp only at d3 d4
            have HT := Lib.hid (take_add hd)
            have HB := Lib.hid (show ∀ x ∈ W.take i, x.1 < d from fun x hx => by
              obtain ⟨j, hj, rfl⟩ := List.getElem_of_mem hx
              have hj' : j < i := by rw [List.length_take] at hj; omega
              rw [List.getElem_take]
              exact up_at UP.out (List.getElem?_eq_getElem (by rw [hn'.out]; omega)) hd hj')
            clear hM hK q0 q1 hc hd ho hlk hp
            rcases Int.lt_trichotomy d key with hdc | hdc | hdc
            · -- ahead of the key: nothing is put yet
              have hpf : p = false := by
                cases p with
                | false => rfl
                | true =>
                  obtain ⟨x, hx, hcx⟩ := P1.out.2 rfl
                  have := HB.out x hx
                  omega
              subst hpf
              have e1 : decide (key ≤ d) = false := decide_eq_false (by omega)
              have e2 : (d != key) = true := by simp; omega
              go_wp2_with (first | (at_builtin; refine wpList_append_row pairK rfl _ _ rfl w _ (wl (W.take i) key v false) [(d, u)] rfl ((M1.out.alloc _).alloc _) ((K1.out.alloc _).alloc _) _ rfl (prow_lit (p := (d, u)) (made_next wr _ 54 #[.int .i64 ((d, u)).1, .int .i64 ((d, u)).2])) (kk + 1) (by simp [lk]) (by omega) ?_; intro ao2 ac2 w2 hM hK hK3; have M2 := Lib.hid hM; have K2 := Lib.hid hK; clear hM hK hK3))
              go_roundw
              case rel => exact ⟨i + 1, ao2, kk + 1, ac2, false, by go_num, rfl, rfl, by omega, by omega, by rw [HT.out]; show (W.take i ++ [(d, u)]).length = _; rw [List.length_append]; exact congrArg (· + 1) hlk'.out, by rw [HT.out]; exact M2.out, K2.out, fun _ x hx => by
                rw [HT.out] at hx
                rcases List.mem_append.1 hx with hx | hx
                · exact P1.out.1 rfl x hx
                · simp at hx; subst hx; exact hdc, fun h => by cases h⟩
              case measure => simp [intOf]; omega
            · -- the key itself
              subst hdc
              have hpf : p = false := by
                cases p with
                | false => rfl
                | true =>
                  obtain ⟨x, hx, hcx⟩ := P1.out.2 rfl
                  have := HB.out x hx
                  omega
              subst hpf
              have e1 : d ≤ d := by omega
              have e2 : (d != d) = false := by simp
              go_wp2_with (first | (at_builtin; refine wpList_append_row pairK rfl _ _ rfl w _ (wl (W.take i) d v false) [(d, v)] rfl ((M1.out.alloc _).alloc _) ((K1.out.alloc _).alloc _) _ rfl (prow_lit (p := (d, v)) (made_next wr _ 54 #[.int .i64 ((d, v)).1, .int .i64 ((d, v)).2])) (kk + 1) (by simp [lk]) (by omega) ?_; intro ao2 ac2 w2 hM hK hK3; have M2 := Lib.hid hM; have K2 := Lib.hid hK; have z4 : w2.cell? ⟨wr.heap.size, 0, none⟩ = some (.int .i64 d) := (((Whole.made wr 54 #[.int .i64 d, .int .i64 u]).alloc _).keeps hK3 nB).at_ 0; have z5 : w2.cell? ⟨wr.heap.size, 1, none⟩ = some (.int .i64 u) := (((Whole.made wr 54 #[.int .i64 d, .int .i64 u]).alloc _).keeps hK3 nB).at_ 1; clear hM hK hK3))
              go_roundw
              case rel => exact ⟨i + 1, ao2, kk + 1, ac2, true, by go_num, rfl, rfl, by omega, by omega, by
                rw [HT.out]
                show (put (W.take i ++ [(d, u)]) d v).length = _
                rw [put_eq HB.out, List.length_append]
                exact congrArg (· + 1) hlk'.out, by
                rw [HT.out]
                show Mine pairK w w2 _ (put (W.take i ++ [(d, u)]) d v)
                rw [put_eq HB.out]
                exact M2.out, K2.out, (fun h => by cases h), fun _ => ⟨(d, u), by rw [HT.out]; simp, e1⟩⟩
              case measure => simp [intOf]; omega
            · have e1 : key ≤ d := by omega
              have e2 : (d != key) = true := by simp; omega
              cases p with
              | true =>
                go_wp2_with (first | (at_builtin; refine wpList_append_row pairK rfl _ _ rfl w _ (wl (W.take i) key v true) [(d, u)] rfl ((M1.out.alloc _).alloc _) ((K1.out.alloc _).alloc _) _ rfl (prow_lit (p := (d, u)) (made_next wr _ 54 #[.int .i64 ((d, u)).1, .int .i64 ((d, u)).2])) (kk + 1) (by simp [lk]) (by omega) ?_; intro ao2 ac2 w2 hM hK hK3; have M2 := Lib.hid hM; have K2 := Lib.hid hK; clear hM hK hK3))
                go_roundw
                case rel => exact ⟨i + 1, ao2, kk + 1, ac2, true, by go_num, rfl, rfl, by omega, by omega, by
                  rw [HT.out]
                  show (put (W.take i ++ [(d, u)]) key v).length = _
                  rw [put_gt hdc, List.length_append]
                  exact congrArg (· + 1) hlk'.out, by
                  rw [HT.out]
                  show Mine pairK w w2 _ (put (W.take i ++ [(d, u)]) key v)
                  rw [put_gt hdc]
                  exact M2.out, K2.out, (fun h => by cases h), fun _ => ⟨(d, u), by rw [HT.out]; simp, e1⟩⟩
                case measure => simp [intOf]; omega
              | false =>
                have hkk' : kk ≤ i := by
                  have h1 : (W.take i).length = kk := hlk'.out
                  rw [List.length_take] at h1
                  omega
                go_wp2_with (first
                  | (at_builtin; refine wpList_append_row pairK rfl _ _ rfl w _ ((wl (W.take i) key v false) ++ [(key, v)]) [(d, u)] rfl (M2.out.alloc _) (K2.out.alloc _) _ rfl (prow_lit (p := (d, u)) (Whole.made w2 54 #[.int .i64 ((d, u)).1, .int .i64 ((d, u)).2])) (kk + 1 + 1) (by simp [lk]) (by omega) ?_; intro ao3 ac3 w3 hM hK hK3; have M3 := Lib.hid hM; have K3 := Lib.hid hK; clear hM hK hK3)
                  | (at_builtin; refine wpList_append_row pairK rfl _ _ rfl w _ (wl (W.take i) key v false) [(key, v)] rfl ((M1.out.alloc _).alloc _) ((K1.out.alloc _).alloc _) _ rfl (prow_lit (p := (key, v)) (made_next wr _ 54 #[.int .i64 ((key, v)).1, .int .i64 ((key, v)).2])) (kk + 1) (by simp [lk]) (by omega) ?_; intro ao2 ac2 w2 hM hK hK3; have M2 := Lib.hid hM; have K2 := Lib.hid hK; have z4 : w2.cell? ⟨wr.heap.size, 0, none⟩ = some (.int .i64 d) := (((Whole.made wr 54 #[.int .i64 d, .int .i64 u]).alloc _).keeps hK3 nB).at_ 0; have z5 : w2.cell? ⟨wr.heap.size, 1, none⟩ = some (.int .i64 u) := (((Whole.made wr 54 #[.int .i64 d, .int .i64 u]).alloc _).keeps hK3 nB).at_ 1; clear hM hK hK3))
                go_roundw
                case rel => exact ⟨i + 1, ao3, kk + 1 + 1, ac3, true, by go_num, rfl, rfl, by omega, by omega, by
                  rw [HT.out]
                  show (put (W.take i ++ [(d, u)]) key v).length = _
                  rw [put_gt hdc, put_all (P1.out.1 rfl), List.length_append, List.length_append]
                  exact congrArg (· + 1 + 1) hlk'.out, by
                  rw [HT.out]
                  show Mine pairK w w3 _ (put (W.take i ++ [(d, u)]) key v)
                  rw [put_gt hdc, put_all (P1.out.1 rfl)]
                  exact M3.out, K3.out, (fun h => by cases h), fun _ => ⟨(d, u), by rw [HT.out]; simp, e1⟩⟩
                case measure => simp [intOf]; omega
          · obtain rfl : i = n := by omega
            have b1 : ¬ (i : Int) < (i : Int) := by omega
            have ht : W.take i = W := List.take_of_length_le (by rw [hn'.out]; exact Nat.le_refl _)
            rw [ht] at M1 P1 lk
            clear hM hK hp ho hlk hlk'
            cases p with
            | true =>
              have ME := Lib.hid (show Mine pairK w wr (.slice lo kk lc) (put W key v) from M1.out)
              have KE := K1
              go_wp2_with (first | (go_at_call 53; refine (rset8 (H0.out.same KE.out) ok.out hkl (v := (lo, kk, lc)) ME.out.1 KE.out.size ME.out.2).mono ?_; rintro e w9 ⟨rfl, hS⟩; have S9 := Lib.hid (RSet.mid H0.out KE.out hS); clear hS))
              go_ret
              exact ⟨rfl, S9.out⟩
            | false =>
              go_wp2_with (first
                | (go_at_call 53; refine (rset8 (H0.out.same KE.out) ok.out hkl (v := (ao2, kk + 1, ac2)) ME.out.1 KE.out.size ME.out.2).mono ?_; rintro e w9 ⟨rfl, hS⟩; have S9 := Lib.hid (RSet.mid H0.out KE.out hS); clear hS)
                | (at_builtin; refine wpList_append_row pairK rfl _ _ rfl w _ (wl W key v false) [(key, v)] rfl (M1.out.alloc _) (K1.out.alloc _) _ rfl (prow_lit (p := (key, v)) (Whole.made wr 54 #[.int .i64 ((key, v)).1, .int .i64 ((key, v)).2])) (kk + 1) (by simp [lk]) (by omega) ?_; intro ao2 ac2 w2 hM hK hK3; have M2 := Lib.hid hM; have K2 := Lib.hid hK; have ME := Lib.hid (show Mine pairK w w2 (.slice ao2 (kk + 1) ac2) (put W key v) from by rw [put_all (P1.out.1 rfl)]; exact hM); have KE := Lib.hid hK; clear hM hK hK3))
              go_ret
              exact ⟨rfl, S9.out⟩
  · rw [decide_eq_false ht] at CT
    have CT := Lib.hid CT
    have ea : mPut A c key v = (A, 3) := by unfold mPut; rw [if_neg ht]
    rw [ea]
    have H0 := Lib.hid h
    clear h ht ea
    go_enter Tryd.func32, Tryd.ntmps32
    go_wp2_with (first | (go_at_call 51; refine CT.out.mono ?_; rintro e w' ⟨rfl, rfl⟩))
    go_ret
    exact ⟨rfl, RMid.same H0.out (Keeps.refl _ _)⟩
end Go.Proofs.YtnlogilbiifmiaaDoor
