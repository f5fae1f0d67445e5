/-
  slices.Equal of rows of ints, maps.Equal of two collections' maps, slices.EqualFunc of rows of maps by it: by contract.
-/
import Derived.Test.YtnlogilbiifmiaaMdList
import Derived.Test.YtnlogilbiifmiaaMdKinds
import Derived.Test.YtnlogilbiifmiaaMdMapLay
namespace Go.Proofs.Ytnlogilbiifmiaa
open Go.RowKit Go.Maps Go.Extern.Stop Go.Stop Go.Extern

/-! ### plainly -/
theorem list_eq {α : Type} {l m : List α} {n : Nat} (hl : l.length = n) (hm : m.length = n) : l = m ↔ ∀ k, k < n → l[k]? = m[k]? :=
  ⟨fun e k _ => by rw [e], fun h => List.ext_getElem? fun k => by
    rcases Nat.lt_or_ge k n with hk | hk
    · exact h k hk
    · rw [List.getElem?_eq_none (by omega), List.getElem?_eq_none (by omega)]⟩
theorem tl_of_keys {W : Tl} (h : UpW W) : W = (W.map (·.1)).map fun k => (k, (look W k).getD 0) := by
  refine List.ext_getElem? fun i => ?_
  rw [List.getElem?_map, List.getElem?_map]
  cases hi : W[i]? with
  | none => rfl
  | some p =>
    have := look_at h hi
    simp [this]
theorem tl_ext {W V : Tl} (hW : UpW W) (hV : UpW V) (h : ∀ k, look W k = look V k) : W = V := by
  have e1 : look W = look V := funext h
  have hk : W.map (·.1) = V.map (·.1) := Up.unique hW hV ((look_keys hW).perm (by rw [e1]; exact look_keys hV))
  rw [tl_of_keys hW, tl_of_keys hV, hk, e1]
theorem tl_sub {W V : Tl} (hW : UpW W) (hV : UpW V) (hl : W.length = V.length) (h : ∀ k v, look W k = some v → look V k = some v) : W = V := by
  refine tl_ext hW hV fun k => ?_
  cases hk : look W k with
  | some v => rw [h k v hk]
  | none =>
    cases hk2 : look V k with
    | none => rfl
    | some u =>
      exfalso
      have nW := look_none.1 hk
      have mV := look_mem.1 (show (look V k).isSome = true by rw [hk2]; rfl)
      have := subset_length (a := k :: W.map fun p : Int × Int => p.1) (b := V.map fun p : Int × Int => p.1) (List.nodup_cons.2 ⟨nW, Up.nodup hW⟩) fun x hx => by
        rcases List.mem_cons.1 hx with rfl | hx
        · exact mV
        · have h1 := look_mem.2 hx
          obtain ⟨v, hv⟩ := Option.isSome_iff_exists.1 h1
          exact look_mem.1 (by rw [h x v hv]; rfl)
      simp at this
      omega

/-! ### slices.Equal -/
theorem cellsI_get (l : List Int) (i : Nat) (p : Int) (h : l[i]? = some p) : (intK.cs l)[i]? = some (.int .i64 p) := by
  show (l.map fun x => Value.int .i64 x)[i]? = _
  rw [List.getElem?_map, h]; rfl
theorem eqi_len (w : World) (l m : List Int) (v v' : Value) (h : IRow w v l) (h' : IRow w v' m) (hne : l.length ≠ m.length) :
    Calls Try.prog 23 #[v, v'] w fun e w' => e = .returned (.bool false) ∧ w' = w := by
  obtain ⟨a, c, rfl, _⟩ := row_shape h
  obtain ⟨a', c', rfl, _⟩ := row_shape h'
  have hb : ((l.length : Int) != m.length) = true := by simp; omega
  clear h h'
  generalize l.length = n at *
  generalize m.length = n' at *
  go_enter Try.func23, Try.ntmps23
  go_wp2
  go_ret
  exact ⟨rfl, rfl⟩

set_option maxRecDepth 100000 in
theorem eqi_any {w : World} {l m : List Int} {v v' : Value} (h : IRow w v l) (h' : IRow w v' m) (few : l.length ≤ 100000) :
    Calls Try.prog 23 #[v, v'] w fun e w' => e = .returned (.bool (decide (l = m))) ∧ Keeps (fun _ => False) w w' := by
  by_cases hne : l.length ≠ m.length
  · rw [decide_eq_false (fun e => hne (by rw [e]))]
    exact (eqi_len w l m v v' h h' hne).mono fun _ _ ⟨h1, h2⟩ => ⟨h1, by rw [h2]; exact Keeps.refl _ _⟩
  obtain ⟨n, hn⟩ : ∃ n, l.length = n := ⟨_, rfl⟩
  have hm : m.length = n := by omega
  obtain ⟨a, c, rfl, ha⟩ := row_shape h
  obtain ⟨a', c', rfl, ha'⟩ := row_shape h'
  rw [hn] at ha few
  rw [hm] at ha'
  have h1 := Lib.hid h
  have h2 := Lib.hid h'
  have hlm := Lib.hid (list_eq hn hm)
  have hn' := Lib.hid hn
  have hm' := Lib.hid hm
  have hb : ((n : Int) != n) = false := by simp
  obtain ⟨r, hr⟩ : ∃ r, decide (l = m) = r := ⟨_, rfl⟩
  rw [hn, hm, hr]
  have hr' := Lib.hid hr
  clear hne hr h h' hn hm
  go_enter Try.func23, Try.ntmps23
  go_wp2_with fail
  go_loopw [13] (fun iv wr => ∃ i : Nat, iv = .int .i64 i ∧ i ≤ n ∧ (∀ k, k < i → l[k]? = m[k]?) ∧ Keeps (fun _ => False) w wr) (fun iv _ => n - (intOf iv).toNat)
  case atStart => exact ⟨0, rfl, Nat.zero_le _, fun k h => absurd h (Nat.not_lt_zero _), Keeps.refl _ _⟩
  case round =>
    obtain ⟨i, rfl, hi, hk, hK⟩ := hrel
    have K1 := Lib.hid hK
    have k1 := Lib.hid hk
    clear hK hk
    by_cases hin : i < n
    · have hin' : (i : Int) < (n : Int) := by omega
      obtain ⟨b, rfl⟩ := ha (by omega)
      obtain ⟨b', rfl⟩ := ha' (by omega)
      obtain ⟨t1, ht⟩ : ∃ t1, l[i]? = some t1 := ⟨_, List.getElem?_eq_getElem (by rw [hn'.out]; exact hin)⟩
      obtain ⟨u1, hu⟩ : ∃ u1, m[i]? = some u1 := ⟨_, List.getElem?_eq_getElem (by rw [hm'.out]; exact hin)⟩
      have K2 := K1.out.drew
      have q1 := World.ownsRow.cellAt h1.out
      have q2 := World.ownsRow.cellAt h2.out
      have z1 := hn'.out
      have z2 := hm'.out
      have w1 := (q1 i (by show i < l.length * 1; omega)).trans (cellsI_get _ i _ ht)
      have w3 := (q2 i (by show i < m.length * 1; omega)).trans (cellsI_get _ i _ hu)
      have x1 := (K2.cell (cell_lt w1) id).trans w1
      have y1 := (K2.cell (cell_lt w3) id).trans w3
      have ht' := Lib.hid ht
      have hu' := Lib.hid hu
      clear K2 q1 q2 w1 w3 ht hu z1 z2
      by_cases he : t1 = u1
      · subst he
        have hb1 : (t1 != t1) = false := by simp
        go_wp2_with fail
        go_region
        go_wp2_with fail
        go_roundw
        case rel =>
          have k2 : ∀ k, k < i + 1 → l[k]? = m[k]? := fun k hk => by
            rcases Nat.lt_or_ge k i with h | h
            · exact k1.out k h
            · obtain rfl : k = i := by omega
              rw [ht'.out, hu'.out]
          exact ⟨i + 1, by go_num, by omega, k2, K1.out.drew⟩
        case measure => simp [intOf]; omega
      · have hb1 : (t1 != u1) = true := by simpa using he
        have hr2 : r = false := by
          rw [← hr'.out]
          exact decide_eq_false fun e => he (by
            have := hlm.out.1 e i (by omega)
            rw [ht'.out, hu'.out] at this
            injection this)
        subst hr2
        clear he
        go_wp2_with fail
        go_region
        go_wp2_with fail
        go_ret
        exact ⟨rfl, K1.out.drew⟩
    · have hr2 : r = true := by
        rw [← hr'.out]
        exact decide_eq_true (hlm.out.2 fun k hk => k1.out k (by omega))
      subst hr2
      have hin' : ¬ (i : Int) < (n : Int) := by omega
      go_wp2_with fail
      go_ret
      exact ⟨rfl, K1.out⟩

/-! ### maps.Equal -/
/-- '==' of two ints, on data. -/
def eqD : DataW Unit → DataW Unit → Bool
  | .lit (.int .i64 a), .lit (.int .i64 b) => a == b
  | _, _ => false
theorem eqD_int (a b : Int) : eqD (iE.dat a) (iE.dat b) = (a == b) := rfl

theorem neq_i (W : World) (x y : Value) (xd yd : DataW Unit) (xp yp : List MemPlace) (hx : iE.R x = some (xd, xp)) (hy : iE.R y = some (yd, yp)) :
    (binOp .neq 3 x y).run Try.prog W = .ok (.bool (!eqD xd yd)) W ∧ ∀ (a b : Operand), (eqGuard .neq 3 a b x y).run Try.prog W = .ok () W := by
  obtain ⟨a, rfl, h1⟩ := iE.inv _ _ hx
  obtain ⟨b, rfl, h2⟩ := iE.inv _ _ hy
  obtain rfl : xd = iE.dat a := congrArg Prod.fst h1
  obtain rfl : yd = iE.dat b := congrArg Prod.fst h2
  have uI := Try.underlying3
  refine ⟨?_, fun p q => ?_⟩
  · rw [eqD_int]
    show (binOp .neq 3 (.int .i64 a) (.int .i64 b)).run Try.prog W = _
    simp [go_sem, binOp]
    rfl
  · show (eqGuard .neq 3 p q (.int .i64 a) (.int .i64 b)).run Try.prog W = _
    rw [eqGuard_at_int]; rfl

theorem equal_says {w : World} {b n : Nat} {D1 D2 : DataW Unit} {W V : Tl} (h : w.ownsMap Try.prog 3 iE.R b n D1) (h1 : Reads iE D1 (look W)) (h2 : Reads iE D2 (look V)) (s1 : Maps.size D1 = W.length) (s2 : Maps.size D2 = V.length) (hW : UpW W) (hV : UpW V) :
    Lib.equalFuncD eqD D1 D2 = decide (W = V) := by
  obtain ⟨es, rfl, hp, hkeys⟩ := h.entries (int_keyed Try.underlying3)
  have key : ∀ p ∈ es, ∃ k v, p.1 = ik k ∧ p.2 = iE.dat v ∧ look W k = some v := by
    intro p hpm
    have hk : ∃ k, p.1 = ik k := by
      obtain ⟨es0, clock, _, F, _, hD⟩ := h
      injection hD with hD
      rw [hD] at hpm
      obtain ⟨x, hx, rfl⟩ := List.mem_map.1 (mem_sorted.1 hpm)
      obtain ⟨y, hy⟩ := F.reads x hx
      obtain ⟨a, _, ha, _⟩ := Maps.keyOf_int_inv Try.underlying3 (WideElems.rd_key hy)
      exact ⟨a, by rw [WideElems.rg_of hy]; exact ha⟩
    obtain ⟨k, hk⟩ := hk
    have e1 : (DataW.map es).atKey p.1 .nil = p.2 := WideAt.atKey_mem .nil (hkeys p hpm) hp hpm
    have e2 : has (DataW.map es) (ik k) = true := by
      rw [has_eq, List.any_eq_true]
      exact ⟨p, hpm, by rw [hk]; exact WideAt.sameKey_self (ik_key k)⟩
    rw [(h1 k).1] at e2
    obtain ⟨v, hv⟩ := Option.isSome_iff_exists.1 e2
    refine ⟨k, v, hk, ?_, hv⟩
    have e3 := (h1 k).2 .nil
    rw [hv] at e3
    rw [← e1, hk, e3]
  unfold Lib.equalFuncD
  by_cases e : W = V
  · subst e
    rw [decide_eq_true rfl, decide_eq_true (by rw [s1, s2]), Bool.true_and]
    show es.all (Lib.goodD eqD D2) = true
    rw [List.all_eq_true]
    intro p hpm
    obtain ⟨k, v, hk, hv, hl⟩ := key p hpm
    have e4 := (h2 k).2 .nil
    rw [hl] at e4
    unfold Lib.goodD
    rw [hk, hv, (h2 k).1, hl, e4, eqD_int]
    simp
  · rw [decide_eq_false e]
    by_cases hs : W.length = V.length
    · rw [decide_eq_true (by rw [s1, s2, hs]), Bool.true_and]
      show es.all (Lib.goodD eqD D2) = false
      rw [Bool.eq_false_iff]
      intro hall
      rw [List.all_eq_true] at hall
      refine e (tl_sub hW hV hs fun k v hkv => ?_)
      have e2 : has (DataW.map es) (ik k) = true := by rw [(h1 k).1, hkv]; rfl
      rw [has_eq, List.any_eq_true] at e2
      obtain ⟨p, hpm, hsk⟩ := e2
      have hk := WideAt.sameKey_eq hsk
      obtain ⟨k', v', hk', hv', hl'⟩ := key p hpm
      obtain rfl : k = k' := by
        by_cases ek : k = k'
        · exact ek
        · exact absurd (hk.symm.trans hk') (ik_ne ek)
      obtain rfl : v = v' := by rw [hkv] at hl'; injection hl'
      have hg := hall p hpm
      unfold Lib.goodD at hg
      rw [hk', hv', (h2 k).1] at hg
      simp only [Bool.and_eq_true] at hg
      obtain ⟨g1, g2⟩ := hg
      obtain ⟨u, hu⟩ := Option.isSome_iff_exists.1 g1
      have e4 := (h2 k).2 .nil
      rw [hu] at e4
      rw [e4, eqD_int] at g2
      rw [hu, (by simpa using g2 : v = u)]
    · rw [decide_eq_false (by rw [s1, s2]; exact hs), Bool.false_and]

theorem meq_any {w : World} {b d : Nat} {W V : Tl} (h : MH w b (look W)) (h' : MH w d (look V)) (hW : UpW W) (hV : UpW V) :
    Calls Try.prog 25 #[.map (some b), .map (some d)] w fun e w' => e = .returned (.bool (decide (W = V))) ∧ Keeps (fun _ => False) w w' := by
  obtain ⟨D1, n1, o1, z1, r1⟩ := h
  obtain ⟨D2, n2, o2, z2, r2⟩ := h'
  have s1 : Maps.size D1 = W.length := by
    have := HoldsM.size_eq (K := 3) (E := iE) Try.underlying3 o1 r1 (W.map (·.1)) (look_keys hW).1 (look_keys hW).2
    simpa using this
  have s2 : Maps.size D2 = V.length := by
    have := HoldsM.size_eq (K := 3) (E := iE) Try.underlying3 o2 r2 (V.map (·.1)) (look_keys hV).1 (look_keys hV).2
    simpa using this
  have hc := AnyEq.maps_Equal mequalA (int_keyed Try.underlying3) iE.R iE.R eqD b d n1 n2 D1 D2 w o1 o2 (.int .i64 0) Try.zeroValue3 (iE.dat 0) [] rfl neq_i
  rw [equal_says o1 r1 r2 s1 s2 hW hV] at hc
  exact hc.mono fun e w' ⟨h1, h2⟩ => ⟨h1, (Keeps.refl (fun _ => False) w).grown h2 fun k hk _ => by cases hk⟩
end Go.Proofs.Ytnlogilbiifmiaa
