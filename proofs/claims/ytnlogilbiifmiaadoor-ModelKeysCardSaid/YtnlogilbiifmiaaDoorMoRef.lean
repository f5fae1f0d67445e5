/-
  The document's state: what only reads (There, Find, Get, Ceil, Range), by contract.
-/
import Derived.Test.YtnlogilbiifmiaaDoorMoRow
import Derived.OwnWalk
import Derived.Deep.DeepCutAuto
import Derived.Deep.CutBlock
namespace Go.Proofs.YtnlogilbiifmiaaDoor
open Go.RowKit Go.Maps Go.Extern.Stop Go.Stop Go.Extern

/-- Where a collection's list stands. -/
structure ColAt (w : World) (r g m cap k : Nat) (o : Option Addr) (n cc : Nat) (W : Tl) : Prop where
  outer : w.cell? ⟨r, 1, none⟩ = some (.slice (some ⟨g, 0, none⟩) m cap)
  inner : w.cell? ⟨g, k, none⟩ = some (.slice o n cc)
  row : PRow w (.slice o n cc) W
  len : W.length = n
  lt : k < m
theorem ColAt.same {w w' : World} {r g m cap k : Nat} {o : Option Addr} {n cc : Nat} {W : Tl} (h : ColAt w r g m cap k o n cc W) (K : Keeps (fun _ => False) w w') : ColAt w' r g m cap k o n cc W :=
  ⟨(K.cell (cell_lt h.outer) id).trans h.outer, (K.cell (cell_lt h.inner) id).trans h.inner, ownsRow_keeps h.row K fun _ _ => id, h.len, h.lt⟩

section
variable {w : World} {r : Nat} {A : M8} {Y : Nat → Prop}

theorem RM.colAt (h : RM w r A Y) {k : Nat} {W : Tl} (hc : A.L[k]? = some W) : ∃ g m cap o n cc, ColAt w r g m cap k o n cc W := by
  obtain ⟨vK, vL, ws, h⟩ := h
  obtain ⟨g, cap, o, cc, rfl, h2, h3, h4, _⟩ := h.col hc
  exact ⟨g, _, cap, o, _, cc, h.blk.at_ 1, h2, h3, rfl, h4⟩
theorem RM.kindAt (h : RM w r A Y) {k : Nat} {x : Int} (hc : A.K[k]? = some x) : ∃ g m cap, w.cell? ⟨r, 0, none⟩ = some (.slice (some ⟨g, 0, none⟩) m cap) ∧ k < m ∧ w.cell? ⟨g, k, none⟩ = some (.int .i64 x) := by
  obtain ⟨vK, vL, ws, h⟩ := h
  have hlt := (List.getElem?_eq_some_iff.1 hc).1
  obtain ⟨o, cap, rfl, ho⟩ := irow_cells h.kinds rfl
  obtain ⟨g, rfl, hcs⟩ := ho (by omega)
  exact ⟨g, _, cap, h.blk.at_ 0, hlt, hcs k x hc⟩

theorem there_any (h : RM w r A Y) (ok : A.Ok) (c : Int) :
    Calls Tryd.prog 51 #[.pointer (some ⟨r, 0, none⟩), .int .i64 c] w fun e w' => e = .returned (.bool (decide (A.there c))) ∧ w = w' := by
  obtain ⟨vK, vL, ws, h⟩ := h
  obtain ⟨n, hn⟩ : ∃ n, A.L.length = n := ⟨_, rfl⟩
  have hl := h.len
  obtain ⟨o, cap, rfl, ho⟩ := lrow_cells h.lists (hl.trans hn)
  have c1 : w.cell? ⟨r, 1, none⟩ = some (.slice o n cap) := h.blk.at_ 1
  have few := ok.few
  rw [hn] at few
  by_cases h0 : 0 ≤ c
  · by_cases h1 : c < (n : Int)
    · have hd : decide (A.there c) = true := decide_eq_true ⟨h0, by rw [hn]; exact h1⟩
      rw [hd]
      clear h ho hl hn hd
      go_enter Tryd.func51, Tryd.ntmps51
      go_wp2_with fail
      go_ret
      exact ⟨rfl, rfl⟩
    · have hd : decide (A.there c) = false := decide_eq_false fun h => h1 (by rw [← hn]; exact h.2)
      rw [hd]
      clear h ho hl hn hd
      go_enter Tryd.func51, Tryd.ntmps51
      go_wp2_with fail
      go_ret
      exact ⟨rfl, rfl⟩
  · have hd : decide (A.there c) = false := decide_eq_false fun h => h0 h.1
    rw [hd]
    clear h ho hl hn hd
    go_enter Tryd.func51, Tryd.ntmps51
    go_wp2_with fail
    go_ret
    exact ⟨rfl, rfl⟩

set_option maxRecDepth 100000 in
theorem find8_any {g m cap k : Nat} {o : Option Addr} {n cc : Nat} {W : Tl} (h : ColAt w r g m cap k o n cc W) (few : n ≤ 100000) (key : Int) :
    Calls Tryd.prog 52 #[.pointer (some ⟨r, 0, none⟩), .int .i64 (k : Int), .int .i64 key] w fun e w' => e = .returned (.int .i64 ((plc W key : Int) - 1)) ∧ w = w' := by
  have c1 := h.outer
  have c2 := h.inner
  have hn' := Lib.hid h.len
  have km : (k : Int) < (m : Int) := by have := h.lt; omega
  obtain ⟨o', c', e, ho⟩ := prow_cells h.row h.len
  injection e with e1 e2 e3
  subst e1
  obtain ⟨z, hz⟩ : ∃ z, (plc W key : Int) - 1 = z := ⟨_, rfl⟩
  rw [hz]
  have hz' := Lib.hid hz
  clear h hz e3 e2
  go_enter Tryd.func52, Tryd.ntmps52
  go_wp2_with fail
  go_loop [7] (fun iv => ∃ i : Nat, iv = .int .i64 i ∧ i ≤ n ∧ ∀ (j : Nat) (p : Int × Int), j < i → W[j]? = some p → p.1 ≠ key) (fun iv => n - (intOf iv).toNat)
  case atStart => exact ⟨0, rfl, Nat.zero_le _, fun j p h => absurd h (Nat.not_lt_zero _)⟩
  case round =>
    obtain ⟨i, rfl, hi, hk⟩ := hrel
    have K := Lib.hid hk
    clear hk
    by_cases hlt : i < n
    · have b1 : (i : Int) < (n : Int) := by omega
      obtain ⟨g, rfl, hc⟩ := ho (by omega)
      obtain ⟨d, u, hd⟩ : ∃ d u, W[i]? = some (d, u) := ⟨_, _, List.getElem?_eq_getElem (by rw [hn'.out]; exact hlt)⟩
      have d0 := (hc i _ hd).1
      have hd' := Lib.hid hd
      simp only at d0
      clear hc hd ho
      by_cases he : d = key
      · subst he
        have hr : z = (i : Int) := by rw [← hz'.out, (plc_first K.out hd'.out).1]; omega
        subst hr
        go_wp2_with fail
        go_ret
        exact ⟨rfl, rfl⟩
      · have hb : (d == key) = false := by simpa using he
        clear he
        go_wp2_with fail
        go_round
        case rel =>
          refine ⟨i + 1, by go_num, by omega, fun j p hj hp => ?_⟩
          rcases Nat.lt_or_ge j i with h | h
          · exact K.out j p h hp
          · obtain rfl : j = i := by omega
            rw [hd'.out] at hp
            injection hp with hp
            rw [← hp]
            simpa using hb
        case measure => simp [intOf]; omega
    · obtain rfl : i = n := by omega
      have b1 : ¬ (i : Int) < (i : Int) := by omega
      have hr : z = -1 := by
        rw [← hz'.out, (plc_no fun j p hp => K.out j p (by have := (List.getElem?_eq_some_iff.1 hp).1; have := hn'.out; omega) hp).1]
        rfl
      subst hr
      clear ho
      go_wp2_with fail
      go_ret
      exact ⟨rfl, rfl⟩

theorem nat_of_there {c : Int} (h : A.there c) : ∃ k : Nat, c = (k : Int) ∧ A.L[k]? = some (A.col c) := ⟨c.toNat, by have := h.1; omega, M8.col_at h⟩

set_option maxRecDepth 100000 in
theorem rget8 (h : RM w r A Y) (ok : A.Ok) (c key : Int) :
    Calls Tryd.prog 31 #[.pointer (some ⟨r, 0, none⟩), .int .i64 c, .int .i64 key] w fun e w' => e = .returned (.tuple #[.int .i64 (mGet A c key).1, .bool (mGet A c key).2.1, .int .i64 ((mGet A c key).2.2 : Nat)]) ∧ w = w' := by
  have CT := there_any h ok c
  by_cases ht : A.there c
  · rw [decide_eq_true ht] at CT
    have CT := Lib.hid CT
    obtain ⟨k, rfl, hk⟩ := nat_of_there ht
    obtain ⟨W, hW⟩ : ∃ W, A.col (k : Int) = W := ⟨_, rfl⟩
    rw [hW] at hk
    have few := (ok.ups W (List.mem_of_getElem? hk)).2
    obtain ⟨g, m, cap, o, n, cc, hA⟩ := h.colAt hk
    have hl := hA.len
    have CF := find8_any hA (by omega) key
    have c1 := hA.outer
    have c2 := hA.inner
    have km : (k : Int) < (m : Int) := by have := hA.lt; omega
    cases hlk : look W key with
    | none =>
      have ea : mGet A (k : Int) key = (0, false, 0) := by unfold mGet; rw [if_pos ht, hW, hlk]; rfl
      rw [plc_zero.2 hlk] at CF
      have CF := Lib.hid (show Calls Tryd.prog 52 #[.pointer (some ⟨r, 0, none⟩), .int .i64 (k : Int), .int .i64 key] w fun e w' => e = .returned (.int .i64 (-1)) ∧ w = w' from CF)
      rw [ea]
      clear h ht hk hA ea hlk
      go_enter Tryd.func31, Tryd.ntmps31
      go_wp2_with (first
        | (go_at_call 51; refine CT.out.mono ?_; rintro e w' ⟨rfl, rfl⟩)
        | (go_at_call 52; refine CF.out.mono ?_; rintro e w' ⟨rfl, rfl⟩))
      go_ret3
      exact ⟨rfl, rfl⟩
    | some u =>
      have ea : mGet A (k : Int) key = (u, true, 0) := by unfold mGet; rw [if_pos ht, hW, hlk]; rfl
      have hp : plc W key ≠ 0 := fun e => by rw [plc_zero.1 e] at hlk; cases hlk
      obtain ⟨u', hu, hu'⟩ := plc_at hp
      rw [hlk] at hu'
      injection hu' with hu'
      subst hu'
      obtain ⟨j, hj⟩ : ∃ j, plc W key - 1 = j := ⟨_, rfl⟩
      have hj1 : (plc W key : Int) - 1 = (j : Int) := by omega
      rw [hj] at hu
      have hjn : j < n := by have := (List.getElem?_eq_some_iff.1 hu).1; omega
      obtain ⟨o', c', e, ho⟩ := prow_cells hA.row hA.len
      injection e with e1 e2 e3
      subst e1
      obtain ⟨g', rfl, hcs⟩ := ho (by omega)
      have hv := (hcs j _ hu).2
      have jb : (j : Int) < (n : Int) := by omega
      rw [hj1] at CF
      have CF := Lib.hid CF
      rw [ea]
      have jn : decide ((j : Int) < 0) = false := decide_eq_false (by omega)
      simp only at hv
      clear h ht hk hA ea hlk hcs ho hp hu hj hj1 e3 e2
      go_enter Tryd.func31, Tryd.ntmps31
      go_wp2_with (first
        | (go_at_call 51; refine CT.out.mono ?_; rintro e w' ⟨rfl, rfl⟩)
        | (go_at_call 52; refine CF.out.mono ?_; rintro e w' ⟨rfl, rfl⟩))
      go_ret3
      exact ⟨rfl, rfl⟩
  · rw [decide_eq_false ht] at CT
    have CT := Lib.hid CT
    have ea : mGet A c key = (0, false, 3) := by unfold mGet; rw [if_neg ht]
    rw [ea]
    clear h ht ea
    go_enter Tryd.func31, Tryd.ntmps31
    go_wp2_with (first
      | (go_at_call 51; refine CT.out.mono ?_; rintro e w' ⟨rfl, rfl⟩))
    go_ret3
    exact ⟨rfl, rfl⟩

/-- What a call of an ordered collection stands on. -/
theorem kind_facts (h : RM w r A Y) (ok : A.Ok) {k : Nat} (ht : A.there (k : Int)) : ∃ kg km kcap, w.cell? ⟨r, 0, none⟩ = some (.slice (some ⟨kg, 0, none⟩) km kcap) ∧ (k : Int) < (km : Int) ∧ w.cell? ⟨kg, k, none⟩ = some (.int .i64 (A.kind (k : Int))) := by
  have := M8.kind_at ok ht
  rw [Int.toNat_natCast] at this
  obtain ⟨g, m, cap, h1, h2, h3⟩ := h.kindAt this
  exact ⟨g, m, cap, h1, by omega, h3⟩

set_option maxRecDepth 100000 in
theorem rceil8 (h : RM w r A Y) (ok : A.Ok) (c key : Int) :
    Calls Tryd.prog 34 #[.pointer (some ⟨r, 0, none⟩), .int .i64 c, .int .i64 key] w fun e w' => e = .returned (.tuple #[.int .i64 (mCeil A c key).1, .bool (mCeil A c key).2.1, .int .i64 ((mCeil A c key).2.2 : Nat)]) ∧ w = w' := by
  have CT := there_any h ok c
  by_cases ht : A.there c
  · rw [decide_eq_true ht] at CT
    have CT := Lib.hid CT
    obtain ⟨k, rfl, hk⟩ := nat_of_there ht
    obtain ⟨kg, km, kcap, k1, k2, k3⟩ := kind_facts h ok ht
    by_cases hkd : A.kind (k : Int) = 3
    · rw [hkd] at k3
      obtain ⟨W, hW⟩ : ∃ W, A.col (k : Int) = W := ⟨_, rfl⟩
      have ea : mCeil A (k : Int) key = ((ceil W key).getD 0, (ceil W key).isSome, 0) := by unfold mCeil; rw [if_pos ht, if_pos hkd, hW]
      rw [hW] at hk
      have few := (ok.ups W (List.mem_of_getElem? hk)).2
      obtain ⟨g, m, cap, o, n, cc, hA⟩ := h.colAt hk
      have c1 := hA.outer
      have c2 := hA.inner
      have hn' := Lib.hid hA.len
      have fewn : n ≤ 100 := by have := hA.len; omega
      have km' : (k : Int) < (m : Int) := by have := hA.lt; omega
      obtain ⟨o', c', e, ho⟩ := prow_cells hA.row hA.len
      injection e with e1 e2 e3
      subst e1
      rw [ea]
      obtain ⟨z, hz⟩ : ∃ z, ceil W key = z := ⟨_, rfl⟩
      rw [hz]
      have hz' := Lib.hid hz
      clear h ht hk hA ea hkd hz e3 e2 few
      go_enter Tryd.func34, Tryd.ntmps34
      go_wp2_with (first | (go_at_call 51; refine CT.out.mono ?_; rintro e w' ⟨rfl, rfl⟩))
      go_loop [9] (fun iv => ∃ i : Nat, iv = .int .i64 i ∧ i ≤ n ∧ ∀ (j : Nat) (p : Int × Int), j < i → W[j]? = some p → p.1 < key) (fun iv => n - (intOf iv).toNat)
      case atStart => exact ⟨0, rfl, Nat.zero_le _, fun j p h => absurd h (Nat.not_lt_zero _)⟩
      case round =>
        obtain ⟨i, rfl, hi, hk⟩ := hrel
        have K := Lib.hid hk
        clear hk
        by_cases hlt : i < n
        · have b1 : (i : Int) < (n : Int) := by omega
          obtain ⟨g, rfl, hc⟩ := ho (by omega)
          obtain ⟨d, u, hd⟩ : ∃ d u, W[i]? = some (d, u) := ⟨_, _, List.getElem?_eq_getElem (by rw [hn'.out]; exact hlt)⟩
          have d0 := (hc i _ hd).1
          have hd' := Lib.hid hd
          simp only at d0
          clear hc hd ho
          by_cases he : key ≤ d
          · have hr : z = some d := by rw [← hz'.out, ceil_first K.out hd'.out he]
            subst hr
            go_wp2_with fail
            go_ret3
            exact ⟨rfl, rfl⟩
          · go_wp2_with fail
            go_round
            case rel =>
              refine ⟨i + 1, by go_num, by omega, fun j p hj hp => ?_⟩
              rcases Nat.lt_or_ge j i with h | h
              · exact K.out j p h hp
              · obtain rfl : j = i := by omega
                rw [hd'.out] at hp
                injection hp with hp
                rw [← hp]
                show d < key
                omega
            case measure => simp [intOf]; omega
        · obtain rfl : i = n := by omega
          have b1 : ¬ (i : Int) < (i : Int) := by omega
          have hr : z = none := by rw [← hz'.out, ceil_no fun j p hp => K.out j p (by have := (List.getElem?_eq_some_iff.1 hp).1; have := hn'.out; omega) hp]
          subst hr
          clear ho
          go_wp2_with fail
          go_ret3
          exact ⟨rfl, rfl⟩
    · have ea : mCeil A (k : Int) key = (0, false, 17) := by unfold mCeil; rw [if_pos ht, if_neg hkd]
      rw [ea]
      obtain ⟨x, hx⟩ : ∃ x, A.kind (k : Int) = x := ⟨_, rfl⟩
      rw [hx] at k3 hkd
      have hb : (x != 3) = true := by simp [hkd]
      clear h ht hk ea hx hkd
      go_enter Tryd.func34, Tryd.ntmps34
      go_wp2_with (first | (go_at_call 51; refine CT.out.mono ?_; rintro e w' ⟨rfl, rfl⟩))
      go_ret3
      exact ⟨rfl, rfl⟩
  · rw [decide_eq_false ht] at CT
    have CT := Lib.hid CT
    have ea : mCeil A c key = (0, false, 3) := by unfold mCeil; rw [if_neg ht]
    rw [ea]
    clear h ht ea
    go_enter Tryd.func34, Tryd.ntmps34
    go_wp2_with (first | (go_at_call 51; refine CT.out.mono ?_; rintro e w' ⟨rfl, rfl⟩))
    go_ret3
    exact ⟨rfl, rfl⟩

set_option maxRecDepth 100000 in
theorem rrange8 (h : RM w r A Y) (ok : A.Ok) (c a b : Int) :
    Calls Tryd.prog 35 #[.pointer (some ⟨r, 0, none⟩), .int .i64 c, .int .i64 a, .int .i64 b] w fun e w' => e = .returned (.tuple #[.int .i64 ((mRange A c a b).1 : Nat), .int .i64 ((mRange A c a b).2 : Nat)]) ∧ w = w' := by
  have CT := there_any h ok c
  by_cases ht : A.there c
  · rw [decide_eq_true ht] at CT
    have CT := Lib.hid CT
    obtain ⟨k, rfl, hk⟩ := nat_of_there ht
    obtain ⟨kg, km, kcap, k1, k2, k3⟩ := kind_facts h ok ht
    by_cases hkd : A.kind (k : Int) = 3
    · rw [hkd] at k3
      obtain ⟨W, hW⟩ : ∃ W, A.col (k : Int) = W := ⟨_, rfl⟩
      have ea : mRange A (k : Int) a b = (rng W a b, 0) := by unfold mRange; rw [if_pos ht, if_pos hkd, hW]
      rw [hW] at hk
      have few := (ok.ups W (List.mem_of_getElem? hk)).2
      obtain ⟨g, m, cap, o, n, cc, hA⟩ := h.colAt hk
      have c1 := hA.outer
      have c2 := hA.inner
      have hn' := Lib.hid hA.len
      have fewn : n ≤ 100 := by have := hA.len; omega
      have km' : (k : Int) < (m : Int) := by have := hA.lt; omega
      obtain ⟨o', c', e, ho⟩ := prow_cells hA.row hA.len
      injection e with e1 e2 e3
      subst e1
      rw [ea]
      clear h ht hk hA ea hkd e3 e2 few
      go_enter Tryd.func35, Tryd.ntmps35
      go_wp2_with (first | (go_at_call 51; refine CT.out.mono ?_; rintro e w' ⟨rfl, rfl⟩))
      go_loop [10, 11] (fun nv iv => ∃ (i q : Nat), iv = .int .i64 i ∧ nv = .int .i64 q ∧ i ≤ n ∧ q ≤ i ∧ q = rng (W.take i) a b) (fun nv iv => n - (intOf iv).toNat)
      case atStart => exact ⟨0, 0, rfl, rfl, Nat.zero_le _, Nat.le_refl _, rfl⟩
      case round =>
        obtain ⟨i, q, rfl, rfl, hi, hqi, hk⟩ := hrel
        have K := Lib.hid hk
        clear hk
        by_cases hlt : i < n
        · have b1 : (i : Int) < (n : Int) := by omega
          obtain ⟨g, rfl, hc⟩ := ho (by omega)
          obtain ⟨d, u, hd⟩ : ∃ d u, W[i]? = some (d, u) := ⟨_, _, List.getElem?_eq_getElem (by rw [hn'.out]; exact hlt)⟩
          have d0 := (hc i _ hd).1
          have hd' := Lib.hid hd
          have K2 := Lib.hid (rng_take (a := a) (b := b) hd)
          simp only at d0
          clear hc hd ho
          by_cases h1 : a ≤ d
          · by_cases h2 : d ≤ b
            · go_wp2_with fail
              go_round
              case rel => exact ⟨i + 1, q + 1, by go_num, by go_num, by omega, by omega, by rw [K2.out, ← K.out, if_pos ⟨h1, h2⟩]⟩
              case measure => simp [intOf]; omega
            · go_wp2_with fail
              go_round
              case rel => exact ⟨i + 1, q, by go_num, rfl, by omega, by omega, by rw [K2.out, ← K.out, if_neg fun h => h2 h.2]; rfl⟩
              case measure => simp [intOf]; omega
          · go_wp2_with fail
            go_round
            case rel => exact ⟨i + 1, q, by go_num, rfl, by omega, by omega, by rw [K2.out, ← K.out, if_neg fun h => h1 h.1]; rfl⟩
            case measure => simp [intOf]; omega
        · obtain rfl : i = n := by omega
          have b1 : ¬ (i : Int) < (i : Int) := by omega
          have hr : q = rng W a b := by rw [K.out, List.take_of_length_le (by rw [hn'.out]; exact Nat.le_refl _)]
          clear ho
          go_wp2_with fail
          go_ret2
          exact ⟨rfl, rfl⟩
    · have ea : mRange A (k : Int) a b = (0, 17) := by unfold mRange; rw [if_pos ht, if_neg hkd]
      rw [ea]
      obtain ⟨x, hx⟩ : ∃ x, A.kind (k : Int) = x := ⟨_, rfl⟩
      rw [hx] at k3 hkd
      have hb : (x != 3) = true := by simp [hkd]
      clear h ht hk ea hx hkd
      go_enter Tryd.func35, Tryd.ntmps35
      go_wp2_with (first | (go_at_call 51; refine CT.out.mono ?_; rintro e w' ⟨rfl, rfl⟩))
      go_ret2
      exact ⟨rfl, rfl⟩
  · rw [decide_eq_false ht] at CT
    have CT := Lib.hid CT
    have ea : mRange A c a b = (0, 3) := by unfold mRange; rw [if_neg ht]
    rw [ea]
    clear h ht ea
    go_enter Tryd.func35, Tryd.ntmps35
    go_wp2_with (first | (go_at_call 51; refine CT.out.mono ?_; rintro e w' ⟨rfl, rfl⟩))
    go_ret2
    exact ⟨rfl, rfl⟩
end
end Go.Proofs.YtnlogilbiifmiaaDoor
