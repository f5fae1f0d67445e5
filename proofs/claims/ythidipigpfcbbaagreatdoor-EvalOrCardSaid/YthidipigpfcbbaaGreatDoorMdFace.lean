/-
  slices.Equal of rows of ints, maps.Equal of two collections' maps, slices.EqualFunc of rows of maps by it: by contract.
  slices.EqualFunc of two rows of maps by maps.Equal; Same of the program's states by contract (printed by gen/mkmdsame.py).
  The program's states answer as 'Face' asks.
-/
import Derived.Test.YthidipigpfcbbaaGreatDoorMdList
import Derived.Test.YthidipigpfcbbaaGreatDoorMdNew
import Derived.Test.YthidipigpfcbbaaGreatDoorMdCopy
import Derived.Test.YthidipigpfcbbaaGreatDoorWdTail
import Derived.Test.YthidipigpfcbbaaGreatDoorMdCeil

namespace Go.Proofs.YthidipigpfcbbaaGreatDoor
open Go.RowKit Go.Maps Go.Extern.Stop Go.Stop Go.Extern

/-! ### plainly -/
theorem list_eq {α : Type} {l m : List α} {n : Nat} (hl : l.length = n) (hm : m.length = n) : l = m ↔ ∀ k, k < n → l[k]? = m[k]? :=
  ⟨fun e k _ => by rw [e], fun h => List.ext_getElem? fun k => by
    rcases Nat.lt_or_ge k n with hk | hk
    · exact h k hk
    · rw [List.getElem?_eq_none (by omega), List.getElem?_eq_none (by omega)]⟩
theorem tl_of_keys {W : Tl} (h : UpW W) : W = (W.map (·.1)).map fun k => (k, (look W k).getD 0) := by
  refine List.ext_getElem? fun i => ?_
  rw [List.getElem?_map, List.getElem?_map]
  cases hi : W[i]? with
  | none => rfl
  | some p =>
    have := look_at h hi
    simp [this]
theorem tl_ext {W V : Tl} (hW : UpW W) (hV : UpW V) (h : ∀ k, look W k = look V k) : W = V := by
  have e1 : look W = look V := funext h
  have hk : W.map (·.1) = V.map (·.1) := Up.unique hW hV ((look_keys hW).perm (by rw [e1]; exact look_keys hV))
  rw [tl_of_keys hW, tl_of_keys hV, hk, e1]
theorem tl_sub {W V : Tl} (hW : UpW W) (hV : UpW V) (hl : W.length = V.length) (h : ∀ k v, look W k = some v → look V k = some v) : W = V := by
  refine tl_ext hW hV fun k => ?_
  cases hk : look W k with
  | some v => rw [h k v hk]
  | none =>
    cases hk2 : look V k with
    | none => rfl
    | some u =>
      exfalso
      have nW := look_none.1 hk
      have mV := look_mem.1 (show (look V k).isSome = true by rw [hk2]; rfl)
      have := subset_length (a := k :: W.map fun p : Int × Int => p.1) (b := V.map fun p : Int × Int => p.1) (List.nodup_cons.2 ⟨nW, Up.nodup hW⟩) fun x hx => by
        rcases List.mem_cons.1 hx with rfl | hx
        · exact mV
        · have h1 := look_mem.2 hx
          obtain ⟨v, hv⟩ := Option.isSome_iff_exists.1 h1
          exact look_mem.1 (by rw [h x v hv]; rfl)
      simp at this
      omega

/-! ### slices.Equal -/
theorem cellsI_get (l : List Int) (i : Nat) (p : Int) (h : l[i]? = some p) : (intK.cs l)[i]? = some (.int .i64 p) := by
  show (l.map fun x => Value.int .i64 x)[i]? = _
  rw [List.getElem?_map, h]; rfl
theorem eqi_len (w : World) (l m : List Int) (v v' : Value) (h : IRow w v l) (h' : IRow w v' m) (hne : l.length ≠ m.length) :
    Calls Tryz.prog 32 #[v, v'] w fun e w' => e = .returned (.bool false) ∧ w' = w := by
  obtain ⟨a, c, rfl, _⟩ := row_shape h
  obtain ⟨a', c', rfl, _⟩ := row_shape h'
  have hb : ((l.length : Int) != m.length) = true := by simp; omega
  clear h h'
  generalize l.length = n at *
  generalize m.length = n' at *
  go_enter Tryz.func32, Tryz.ntmps32
  go_wp2
  go_ret
  exact ⟨rfl, rfl⟩

set_option maxRecDepth 100000 in
theorem eqi_any {w : World} {l m : List Int} {v v' : Value} (h : IRow w v l) (h' : IRow w v' m) (few : l.length ≤ 1000000) :
    Calls Tryz.prog 32 #[v, v'] w fun e w' => e = .returned (.bool (decide (l = m))) ∧ Keeps (fun _ => False) w w' := by
  by_cases hne : l.length ≠ m.length
  · rw [decide_eq_false (fun e => hne (by rw [e]))]
    exact (eqi_len w l m v v' h h' hne).mono fun _ _ ⟨h1, h2⟩ => ⟨h1, by rw [h2]; exact Keeps.refl _ _⟩
  obtain ⟨n, hn⟩ : ∃ n, l.length = n := ⟨_, rfl⟩
  have hm : m.length = n := by omega
  obtain ⟨a, c, rfl, ha⟩ := row_shape h
  obtain ⟨a', c', rfl, ha'⟩ := row_shape h'
  rw [hn] at ha few
  rw [hm] at ha'
  have h1 := Lib.hid h
  have h2 := Lib.hid h'
  have hlm := Lib.hid (list_eq hn hm)
  have hn' := Lib.hid hn
  have hm' := Lib.hid hm
  have hb : ((n : Int) != n) = false := by simp
  obtain ⟨r, hr⟩ : ∃ r, decide (l = m) = r := ⟨_, rfl⟩
  rw [hn, hm, hr]
  have hr' := Lib.hid hr
  clear hne hr h h' hn hm
  go_enter Tryz.func32, Tryz.ntmps32
  go_wp2_with fail
  go_loopw [13] (fun iv wr => ∃ i : Nat, iv = .int .i64 i ∧ i ≤ n ∧ (∀ k, k < i → l[k]? = m[k]?) ∧ Keeps (fun _ => False) w wr) (fun iv _ => n - (intOf iv).toNat)
  case atStart => exact ⟨0, rfl, Nat.zero_le _, fun k h => absurd h (Nat.not_lt_zero _), Keeps.refl _ _⟩
  case round =>
    obtain ⟨i, rfl, hi, hk, hK⟩ := hrel
    have K1 := Lib.hid hK
    have k1 := Lib.hid hk
    clear hK hk
    by_cases hin : i < n
    · have hin' : (i : Int) < (n : Int) := by omega
      obtain ⟨b, rfl⟩ := ha (by omega)
      obtain ⟨b', rfl⟩ := ha' (by omega)
      obtain ⟨t1, ht⟩ : ∃ t1, l[i]? = some t1 := ⟨_, List.getElem?_eq_getElem (by rw [hn'.out]; exact hin)⟩
      obtain ⟨u1, hu⟩ : ∃ u1, m[i]? = some u1 := ⟨_, List.getElem?_eq_getElem (by rw [hm'.out]; exact hin)⟩
      have K2 := K1.out.drew
      have q1 := World.ownsRow.cellAt h1.out
      have q2 := World.ownsRow.cellAt h2.out
      have z1 := hn'.out
      have z2 := hm'.out
      have w1 := (q1 i (by show i < l.length * 1; omega)).trans (cellsI_get _ i _ ht)
      have w3 := (q2 i (by show i < m.length * 1; omega)).trans (cellsI_get _ i _ hu)
      have x1 := (K2.cell (cell_lt w1) id).trans w1
      have y1 := (K2.cell (cell_lt w3) id).trans w3
      have ht' := Lib.hid ht
      have hu' := Lib.hid hu
      clear K2 q1 q2 w1 w3 ht hu z1 z2
      by_cases he : t1 = u1
      · subst he
        have hb1 : (t1 != t1) = false := by simp
        go_wp2_with fail
        go_region
        go_wp2_with fail
        go_roundw
        case rel =>
          have k2 : ∀ k, k < i + 1 → l[k]? = m[k]? := fun k hk => by
            rcases Nat.lt_or_ge k i with h | h
            · exact k1.out k h
            · obtain rfl : k = i := by omega
              rw [ht'.out, hu'.out]
          exact ⟨i + 1, by go_num, by omega, k2, K1.out.drew⟩
        case measure => simp [intOf]; omega
      · have hb1 : (t1 != u1) = true := by simpa using he
        have hr2 : r = false := by
          rw [← hr'.out]
          exact decide_eq_false fun e => he (by
            have := hlm.out.1 e i (by omega)
            rw [ht'.out, hu'.out] at this
            injection this)
        subst hr2
        clear he
        go_wp2_with fail
        go_region
        go_wp2_with fail
        go_ret
        exact ⟨rfl, K1.out.drew⟩
    · have hr2 : r = true := by
        rw [← hr'.out]
        exact decide_eq_true (hlm.out.2 fun k hk => k1.out k (by omega))
      subst hr2
      have hin' : ¬ (i : Int) < (n : Int) := by omega
      go_wp2_with fail
      go_ret
      exact ⟨rfl, K1.out⟩

/-! ### maps.Equal -/
/-- '==' of two ints, on data. -/
def eqD : DataW Unit → DataW Unit → Bool
  | .lit (.int .i64 a), .lit (.int .i64 b) => a == b
  | _, _ => false
theorem eqD_int (a b : Int) : eqD (iE.dat a) (iE.dat b) = (a == b) := rfl

theorem neq_i (W : World) (x y : Value) (xd yd : DataW Unit) (xp yp : List MemPlace) (hx : iE.R x = some (xd, xp)) (hy : iE.R y = some (yd, yp)) :
    (binOp .neq 3 x y).run Tryz.prog W = .ok (.bool (!eqD xd yd)) W ∧ ∀ (a b : Operand), (eqGuard .neq 3 a b x y).run Tryz.prog W = .ok () W := by
  obtain ⟨a, rfl, h1⟩ := iE.inv _ _ hx
  obtain ⟨b, rfl, h2⟩ := iE.inv _ _ hy
  obtain rfl : xd = iE.dat a := congrArg Prod.fst h1
  obtain rfl : yd = iE.dat b := congrArg Prod.fst h2
  have uI := Tryz.underlying3
  refine ⟨?_, fun p q => ?_⟩
  · rw [eqD_int]
    show (binOp .neq 3 (.int .i64 a) (.int .i64 b)).run Tryz.prog W = _
    simp [go_sem, binOp]
    rfl
  · show (eqGuard .neq 3 p q (.int .i64 a) (.int .i64 b)).run Tryz.prog W = _
    rw [eqGuard_at_int]; rfl

theorem equal_says {w : World} {b n : Nat} {D1 D2 : DataW Unit} {W V : Tl} (h : w.ownsMap Tryz.prog 3 iE.R b n D1) (h1 : Reads iE D1 (look W)) (h2 : Reads iE D2 (look V)) (s1 : Maps.size D1 = W.length) (s2 : Maps.size D2 = V.length) (hW : UpW W) (hV : UpW V) :
    Lib.equalFuncD eqD D1 D2 = decide (W = V) := by
  obtain ⟨es, rfl, hp, hkeys⟩ := h.entries (int_keyed Tryz.underlying3)
  have key : ∀ p ∈ es, ∃ k v, p.1 = ik k ∧ p.2 = iE.dat v ∧ look W k = some v := by
    intro p hpm
    have hk : ∃ k, p.1 = ik k := by
      obtain ⟨es0, clock, _, F, _, hD⟩ := h
      injection hD with hD
      rw [hD] at hpm
      obtain ⟨x, hx, rfl⟩ := List.mem_map.1 (mem_sorted.1 hpm)
      obtain ⟨y, hy⟩ := F.reads x hx
      obtain ⟨a, _, ha, _⟩ := Maps.keyOf_int_inv Tryz.underlying3 (WideElems.rd_key hy)
      exact ⟨a, by rw [WideElems.rg_of hy]; exact ha⟩
    obtain ⟨k, hk⟩ := hk
    have e1 : (DataW.map es).atKey p.1 .nil = p.2 := WideAt.atKey_mem .nil (hkeys p hpm) hp hpm
    have e2 : has (DataW.map es) (ik k) = true := by
      rw [has_eq, List.any_eq_true]
      exact ⟨p, hpm, by rw [hk]; exact WideAt.sameKey_self (ik_key k)⟩
    rw [(h1 k).1] at e2
    obtain ⟨v, hv⟩ := Option.isSome_iff_exists.1 e2
    refine ⟨k, v, hk, ?_, hv⟩
    have e3 := (h1 k).2 .nil
    rw [hv] at e3
    rw [← e1, hk, e3]
  unfold Lib.equalFuncD
  by_cases e : W = V
  · subst e
    rw [decide_eq_true rfl, decide_eq_true (by rw [s1, s2]), Bool.true_and]
    show es.all (Lib.goodD eqD D2) = true
    rw [List.all_eq_true]
    intro p hpm
    obtain ⟨k, v, hk, hv, hl⟩ := key p hpm
    have e4 := (h2 k).2 .nil
    rw [hl] at e4
    unfold Lib.goodD
    rw [hk, hv, (h2 k).1, hl, e4, eqD_int]
    simp
  · rw [decide_eq_false e]
    by_cases hs : W.length = V.length
    · rw [decide_eq_true (by rw [s1, s2, hs]), Bool.true_and]
      show es.all (Lib.goodD eqD D2) = false
      rw [Bool.eq_false_iff]
      intro hall
      rw [List.all_eq_true] at hall
      refine e (tl_sub hW hV hs fun k v hkv => ?_)
      have e2 : has (DataW.map es) (ik k) = true := by rw [(h1 k).1, hkv]; rfl
      rw [has_eq, List.any_eq_true] at e2
      obtain ⟨p, hpm, hsk⟩ := e2
      have hk := WideAt.sameKey_eq hsk
      obtain ⟨k', v', hk', hv', hl'⟩ := key p hpm
      obtain rfl : k = k' := by
        by_cases ek : k = k'
        · exact ek
        · exact absurd (hk.symm.trans hk') (ik_ne ek)
      obtain rfl : v = v' := by rw [hkv] at hl'; injection hl'
      have hg := hall p hpm
      unfold Lib.goodD at hg
      rw [hk', hv', (h2 k).1] at hg
      simp only [Bool.and_eq_true] at hg
      obtain ⟨g1, g2⟩ := hg
      obtain ⟨u, hu⟩ := Option.isSome_iff_exists.1 g1
      have e4 := (h2 k).2 .nil
      rw [hu] at e4
      rw [e4, eqD_int] at g2
      rw [hu, (by simpa using g2 : v = u)]
    · rw [decide_eq_false (by rw [s1, s2]; exact hs), Bool.false_and]

theorem meq_any {w : World} {b d : Nat} {W V : Tl} (h : MH w b (look W)) (h' : MH w d (look V)) (hW : UpW W) (hV : UpW V) :
    Calls Tryz.prog 34 #[.map (some b), .map (some d)] w fun e w' => e = .returned (.bool (decide (W = V))) ∧ Keeps (fun _ => False) w w' := by
  obtain ⟨D1, n1, o1, z1, r1⟩ := h
  obtain ⟨D2, n2, o2, z2, r2⟩ := h'
  have s1 : Maps.size D1 = W.length := by
    have := HoldsM.size_eq (K := 3) (E := iE) Tryz.underlying3 o1 r1 (W.map (·.1)) (look_keys hW).1 (look_keys hW).2
    simpa using this
  have s2 : Maps.size D2 = V.length := by
    have := HoldsM.size_eq (K := 3) (E := iE) Tryz.underlying3 o2 r2 (V.map (·.1)) (look_keys hV).1 (look_keys hV).2
    simpa using this
  have hc := AnyEq.maps_Equal mequalA (int_keyed Tryz.underlying3) iE.R iE.R eqD b d n1 n2 D1 D2 w o1 o2 (.int .i64 0) Tryz.zeroValue3 (iE.dat 0) [] rfl neq_i
  rw [equal_says o1 r1 r2 s1 s2 hW hV] at hc
  exact hc.mono fun e w' ⟨h1, h2⟩ => ⟨h1, (Keeps.refl (fun _ => False) w).grown h2 fun k hk _ => by cases hk⟩
end Go.Proofs.YthidipigpfcbbaaGreatDoor

namespace Go.Proofs.YthidipigpfcbbaaGreatDoor
open Go.RowKit Go.Maps Go.Extern.Stop Go.Stop Go.Extern

/-- Rows of maps, with what each map has. -/
structure Colls (w : World) (v : Value) (bs : List Nat) (L : List Tl) : Prop where
  row : collK.Row w v bs
  len : bs.length = L.length
  each : ∀ (i b : Nat) (W : Tl), bs[i]? = some b → L[i]? = some W → MH w b (look W)
  ups : ∀ W ∈ L, UpW W
theorem Colls.keeps {w w' : World} {v : Value} {bs : List Nat} {L : List Tl} (h : Colls w v bs L) (k : Keeps (fun _ => False) w w') : Colls w' v bs L :=
  ⟨ownsRow_keeps h.row k fun _ _ => id, h.len, fun i b W hb hW => (h.each i b W hb hW).keeps k id, h.ups⟩
theorem Colls.at_ {w : World} {v : Value} {bs : List Nat} {L : List Tl} (h : Colls w v bs L) {i : Nat} (hi : i < L.length) : ∃ g b c W, v = .slice (some ⟨g, 0, none⟩) L.length c ∧ L[i]? = some W ∧ w.cell? ⟨g, i, none⟩ = some (.map (some b)) ∧ MH w b (look W) ∧ UpW W := by
  obtain ⟨o, c, rfl, ho⟩ := row_shape h.row
  have hi' : i < bs.length := by rw [h.len]; exact hi
  obtain ⟨g, rfl⟩ := ho (by omega)
  obtain ⟨b, hb⟩ : ∃ b, bs[i]? = some b := ⟨_, List.getElem?_eq_getElem hi'⟩
  obtain ⟨W, hW⟩ : ∃ W, L[i]? = some W := ⟨_, List.getElem?_eq_getElem hi⟩
  refine ⟨g, b, c, W, by rw [h.len], hW, ?_, h.each i b W hb hW, h.ups W (List.mem_of_getElem? hW)⟩
  refine (World.ownsRow.cellAt h.row i (by show i < bs.length * 1; omega)).trans ?_
  show (bs.map fun x => Value.map (some x))[i]? = _
  rw [List.getElem?_map, hb]; rfl
theorem Colls.shape {w : World} {v : Value} {bs : List Nat} {L : List Tl} (h : Colls w v bs L) : ∃ o c, v = .slice o L.length c := by
  obtain ⟨o, c, rfl, _⟩ := row_shape h.row
  exact ⟨o, c, by rw [h.len]⟩

theorem eqf_len (w : World) (bs ds : List Nat) (L M : List Tl) (v v' : Value) (h : Colls w v bs L) (h' : Colls w v' ds M) (hne : L.length ≠ M.length) :
    Calls Tryz.prog 33 #[v, v', .func (.func 34) #[] #[]] w fun e w' => e = .returned (.bool false) ∧ w' = w := by
  obtain ⟨a, c, rfl⟩ := h.shape
  obtain ⟨a', c', rfl⟩ := h'.shape
  have hb : ((L.length : Int) != M.length) = true := by simp; omega
  clear h h'
  generalize L.length = n at *
  generalize M.length = n' at *
  go_enter Tryz.func33, Tryz.ntmps33
  go_wp2
  go_ret
  exact ⟨rfl, rfl⟩

set_option maxRecDepth 100000 in
set_option maxHeartbeats 1000000 in
theorem eqf_any {w : World} {bs ds : List Nat} {L M : List Tl} {v v' : Value} (h : Colls w v bs L) (h' : Colls w v' ds M) (few : L.length ≤ 1000000) :
    Calls Tryz.prog 33 #[v, v', .func (.func 34) #[] #[]] w fun e w' => e = .returned (.bool (decide (L = M))) ∧ Keeps (fun _ => False) w w' := by
  by_cases hne : L.length ≠ M.length
  · rw [decide_eq_false (fun e => hne (by rw [e]))]
    exact (eqf_len w bs ds L M v v' h h' hne).mono fun _ _ ⟨h1, h2⟩ => ⟨h1, by rw [h2]; exact Keeps.refl _ _⟩
  obtain ⟨n, hn⟩ : ∃ n, L.length = n := ⟨_, rfl⟩
  have hm : M.length = n := by omega
  have a1 : ∀ i, i < n → _ := fun i hi => h.at_ (i := i) (by rw [hn]; exact hi)
  have a2 : ∀ i, i < n → _ := fun i hi => h'.at_ (i := i) (by rw [hm]; exact hi)
  rw [hn] at a1
  rw [hm] at a2
  obtain ⟨o1, c1, e1⟩ := h.shape
  obtain ⟨o2, c2, e2⟩ := h'.shape
  rw [hn] at e1 few
  rw [hm] at e2
  subst e1
  subst e2
  have A1 := Lib.hid a1
  have A2 := Lib.hid a2
  have hlm := Lib.hid (list_eq hn hm)
  have hb : ((n : Int) != n) = false := by simp
  obtain ⟨r, hr⟩ : ∃ r, decide (L = M) = r := ⟨_, rfl⟩
  rw [hr]
  have hr' := Lib.hid hr
  clear hne hr h h' hn hm a1 a2
  go_enter Tryz.func33, Tryz.ntmps33
  go_wp2_with fail
  go_loopw [17] (fun iv wr => ∃ i : Nat, iv = .int .i64 i ∧ i ≤ n ∧ (∀ k, k < i → L[k]? = M[k]?) ∧ Keeps (fun _ => False) w wr) (fun iv _ => n - (intOf iv).toNat)
  case atStart => exact ⟨0, rfl, Nat.zero_le _, fun k h => absurd h (Nat.not_lt_zero _), Keeps.refl _ _⟩
  case round =>
    obtain ⟨i, rfl, hi, hk, hK⟩ := hrel
    have K1 := Lib.hid hK
    have k1 := Lib.hid hk
    clear hK hk
    by_cases hin : i < n
    · have hin' : (i : Int) < (n : Int) := by omega
      obtain ⟨g, b, c, W, hv, hW, x1, m1, u1⟩ := A1.out i hin
      obtain ⟨g', b', c', V, hv', hV, y1, m2, u2⟩ := A2.out i hin
      injection hv with hv _ hc
      injection hv' with hv' _ hc'
      subst hv
      subst hv'
      subst hc
      subst hc'
      have x2 := (K1.out.cell (cell_lt x1) id).trans x1
      have y2 := (K1.out.cell (cell_lt y1) id).trans y1
      have ce := Lib.hid (meq_any (m1.keeps K1.out id) (m2.keeps K1.out id) u1 u2)
      have hW' := Lib.hid hW
      have hV' := Lib.hid hV
      clear x1 y1 m1 m2 u1 u2 hW hV
      by_cases he : W = V
      · subst he
        rw [decide_eq_true rfl] at ce
        go_wp2_with (go_at_call 34; refine ce.out.mono ?_; rintro e w2 ⟨rfl, hK⟩; have K2 := Lib.hid (K1.out.trans hK fun _ _ => id); clear hK)
        go_roundw
        case rel =>
          have k2 : ∀ k, k < i + 1 → L[k]? = M[k]? := fun k hk => by
            rcases Nat.lt_or_ge k i with h | h
            · exact k1.out k h
            · obtain rfl : k = i := by omega
              rw [hW'.out, hV'.out]
          exact ⟨i + 1, by go_num, by omega, k2, K2.out⟩
        case measure => simp [intOf]; omega
      · rw [decide_eq_false he] at ce
        have hr2 : r = false := by
          rw [← hr'.out]
          exact decide_eq_false fun e => he (by
            have := hlm.out.1 e i (by omega)
            rw [hW'.out, hV'.out] at this
            injection this)
        subst hr2
        clear he
        go_wp2_with (go_at_call 34; refine ce.out.mono ?_; rintro e w2 ⟨rfl, hK⟩; have K2 := Lib.hid (K1.out.trans hK fun _ _ => id); clear hK)
        go_ret
        exact ⟨rfl, K2.out⟩
    · have hr2 : r = true := by
        rw [← hr'.out]
        exact decide_eq_true (hlm.out.2 fun k hk => k1.out k (by omega))
      subst hr2
      have hin' : ¬ (i : Int) < (n : Int) := by omega
      go_wp2_with fail
      go_ret
      exact ⟨rfl, K1.out⟩

theorem same_nil (w : World) :
    Calls Tryz.prog 13 #[.pointer none, .pointer none] w fun e w' => e = .returned (.bool true) ∧ w = w' := by
  go_enter Tryz.func13, Tryz.ntmps13
  go_wp2_with (go_at_call 31; refine (mnone_nil _).mono ?_; rintro e w' ⟨rfl, rfl⟩)
  go_ret
  exact ⟨rfl, rfl⟩

theorem PMt.colls_ {w : World} {s : Nat} {vK : Value} {gC cap : Nat} {bs : List Nat} {A : M8} {X : Nat → Prop} (h : PMt w s vK gC cap bs A X) : Colls w (.slice (some ⟨gC, 0, none⟩) bs.length cap) bs A.L :=
  ⟨h.colls, h.len, h.each, fun W hW => (h.ok.ups W hW).1⟩

theorem m8_eq (A B : M8) : A = B ↔ A.K = B.K ∧ A.L = B.L := by
  obtain ⟨a, b⟩ := A
  obtain ⟨c, d⟩ := B
  simp

set_option maxRecDepth 100000 in
set_option maxHeartbeats 4000000 in
theorem same_m {w : World} {s o : Nat} {A B : M8} {X Z : Nat → Prop} (h : PM w s A X) (h' : PM w o B Z) :
    Calls Tryz.prog 13 #[.pointer (some ⟨s, 0, none⟩), .pointer (some ⟨o, 0, none⟩)] w fun e w' => ∃ b, e = .returned (.bool b) ∧ (b = true ↔ A = B) ∧ Keeps (fun _ => False) w w' := by
  have fk : A.K.length ≤ 1000000 := by have := h.ok.len; have := h.ok.few; omega
  have fl : A.L.length ≤ 1000000 := by have := h.ok.few; omega
  obtain ⟨vK, gC, cap, bs, h⟩ := h
  obtain ⟨vK', gC', cap', bs', h'⟩ := h'
  have S0 : Hid (∀ V, Keeps (fun _ => False) w V → V.cell? ⟨s, 0, none⟩ = some vK ∧ V.cell? ⟨o, 0, none⟩ = some vK' ∧ V.cell? ⟨s, 1, none⟩ = some (.slice (some ⟨gC, 0, none⟩) bs.length cap) ∧ V.cell? ⟨o, 1, none⟩ = some (.slice (some ⟨gC', 0, none⟩) bs'.length cap')) := Lib.hid fun V k =>
    ⟨(h.blk.keeps k id).at_ 0, (h'.blk.keeps k id).at_ 0, (h.blk.keeps k id).at_ 1, (h'.blk.keeps k id).at_ 1⟩
  have CE : Hid (∀ V, Keeps (fun _ => False) w V → Calls Tryz.prog 32 #[vK, vK'] V fun e w' => e = .returned (.bool (decide (A.K = B.K))) ∧ Keeps (fun _ => False) w w') := Lib.hid fun V k =>
    (eqi_any (ownsRow_keeps h.kinds k fun _ _ => id) (ownsRow_keeps h'.kinds k fun _ _ => id) fk).mono fun e w' ⟨h1, h2⟩ => ⟨h1, k.trans h2 fun _ _ => id⟩
  have CF : Hid (∀ V, Keeps (fun _ => False) w V → Calls Tryz.prog 33 #[.slice (some ⟨gC, 0, none⟩) bs.length cap, .slice (some ⟨gC', 0, none⟩) bs'.length cap', .func (.func 34) #[] #[]] V fun e w' => e = .returned (.bool (decide (A.L = B.L))) ∧ Keeps (fun _ => False) w w') := Lib.hid fun V k =>
    (eqf_any (h.colls_.keeps k) (h'.colls_.keeps k) fl).mono fun e w' ⟨h1, h2⟩ => ⟨h1, k.trans h2 fun _ _ => id⟩
  have hN := Lib.hid (mnone_there w (h.blk.at_ 1))
  have hN' := Lib.hid (mnone_there w (h'.blk.at_ 1))
  obtain ⟨r1, hr1⟩ : ∃ r, decide (A.K = B.K) = r := ⟨_, rfl⟩
  obtain ⟨r2, hr2⟩ : ∃ r, decide (A.L = B.L) = r := ⟨_, rfl⟩
  have fin : Hid (∀ b : Bool, b = (r1 && r2) → (b = true ↔ A = B)) := Lib.hid fun b hb => by
    rw [hb, m8_eq, ← hr1, ← hr2]
    simp
  rw [hr1] at CE
  rw [hr2] at CF
  clear h h' hr1 hr2 fk fl
  generalize bs.length = n at *
  generalize bs'.length = n' at *
  cases r1 with
  | true =>
    go_enter Tryz.func13, Tryz.ntmps13
    go_wp2_with fail
    refine hN.out.mono ?_
    rintro e w' ⟨rfl, rfl⟩
    go_wp2_with fail
    refine hN'.out.mono ?_
    rintro e w' ⟨rfl, rfl⟩
    go_wp2_with fail
    refine AnyT.begin (S := fun V => V.cell? ⟨s, 0, none⟩ = some vK ∧ V.cell? ⟨o, 0, none⟩ = some vK' ∧ V.cell? ⟨s, 1, none⟩ = some (.slice (some ⟨gC, 0, none⟩) n cap) ∧ V.cell? ⟨o, 1, none⟩ = some (.slice (some ⟨gC', 0, none⟩) n' cap')) (by kernel_rfl) (S0.out _ (Keeps.refl _ _).drew) (fun hHeld => ?_)
    first
      | (refine AnyT.take (i := 0) (v := ?_) rfl (by kernel_rfl) (fun _ _ _ h => h) (Or.inl ⟨by rfl, ?_⟩) (by assumption) ?_; rotate_left; (· (intro V hSV; (try (obtain ⟨q1, q2, q3, q4⟩ := hSV)); (first | (go_simp; done) | (go_simp; with_reducible rfl)))); simp only [Act.put, List.setIfInBounds_toArray, List.set_cons_zero, List.set_cons_succ])
      | (refine AnyT.take (i := 0) (v := undef) rfl (by kernel_rfl) (fun _ _ _ h => h) (Or.inr ⟨by rfl, rfl⟩) (by assumption) ?_; simp only [Act.put, List.setIfInBounds_toArray, List.set_cons_zero, List.set_cons_succ])
    first
      | (refine AnyT.take (i := 1) (v := ?_) rfl (by kernel_rfl) (fun _ _ _ h => h) (Or.inl ⟨by rfl, ?_⟩) (by assumption) ?_; rotate_left; (· (intro V hSV; (try (obtain ⟨q1, q2, q3, q4⟩ := hSV)); (first | (go_simp; done) | (go_simp; with_reducible rfl)))); simp only [Act.put, List.setIfInBounds_toArray, List.set_cons_zero, List.set_cons_succ])
      | (refine AnyT.take (i := 1) (v := undef) rfl (by kernel_rfl) (fun _ _ _ h => h) (Or.inr ⟨by rfl, rfl⟩) (by assumption) ?_; simp only [Act.put, List.setIfInBounds_toArray, List.set_cons_zero, List.set_cons_succ])
    first
      | (refine AnyT.take (i := 2) (v := ?_) rfl (by kernel_rfl) (fun _ _ _ h => h) (Or.inl ⟨by rfl, ?_⟩) (by assumption) ?_; rotate_left; (· (intro V hSV; (try (obtain ⟨q1, q2, q3, q4⟩ := hSV)); (first | (go_simp; done) | (go_simp; with_reducible rfl)))); simp only [Act.put, List.setIfInBounds_toArray, List.set_cons_zero, List.set_cons_succ])
      | (refine AnyT.take (i := 2) (v := undef) rfl (by kernel_rfl) (fun _ _ _ h => h) (Or.inr ⟨by rfl, rfl⟩) (by assumption) ?_; simp only [Act.put, List.setIfInBounds_toArray, List.set_cons_zero, List.set_cons_succ])
    first
      | (refine AnyT.take (i := 3) (v := ?_) rfl (by kernel_rfl) (fun _ _ _ h => h) (Or.inl ⟨by rfl, ?_⟩) (by assumption) ?_; rotate_left; (· (intro V hSV; (try (obtain ⟨q1, q2, q3, q4⟩ := hSV)); (first | (go_simp; done) | (go_simp; with_reducible rfl)))); simp only [Act.put, List.setIfInBounds_toArray, List.set_cons_zero, List.set_cons_succ])
      | (refine AnyT.take (i := 3) (v := undef) rfl (by kernel_rfl) (fun _ _ _ h => h) (Or.inr ⟨by rfl, rfl⟩) (by assumption) ?_; simp only [Act.put, List.setIfInBounds_toArray, List.set_cons_zero, List.set_cons_succ])
    first
      | (refine AnyT.take (i := 4) (v := ?_) rfl (by kernel_rfl) (fun _ _ _ h => h) (Or.inl ⟨by rfl, ?_⟩) (by assumption) ?_; rotate_left; (· (intro V hSV; (try (obtain ⟨q1, q2, q3, q4⟩ := hSV)); (first | (go_simp; done) | (go_simp; with_reducible rfl)))); simp only [Act.put, List.setIfInBounds_toArray, List.set_cons_zero, List.set_cons_succ])
      | (refine AnyT.take (i := 4) (v := undef) rfl (by kernel_rfl) (fun _ _ _ h => h) (Or.inr ⟨by rfl, rfl⟩) (by assumption) ?_; simp only [Act.put, List.setIfInBounds_toArray, List.set_cons_zero, List.set_cons_succ])
    first
      | (refine AnyT.take (i := 5) (v := ?_) rfl (by kernel_rfl) (fun _ _ _ h => h) (Or.inl ⟨by rfl, ?_⟩) (by assumption) ?_; rotate_left; (· (intro V hSV; (try (obtain ⟨q1, q2, q3, q4⟩ := hSV)); (first | (go_simp; done) | (go_simp; with_reducible rfl)))); simp only [Act.put, List.setIfInBounds_toArray, List.set_cons_zero, List.set_cons_succ])
      | (refine AnyT.take (i := 5) (v := undef) rfl (by kernel_rfl) (fun _ _ _ h => h) (Or.inr ⟨by rfl, rfl⟩) (by assumption) ?_; simp only [Act.put, List.setIfInBounds_toArray, List.set_cons_zero, List.set_cons_succ])
    first
      | (refine AnyT.take (i := 6) (v := ?_) rfl (by kernel_rfl) (fun _ _ _ h => h) (Or.inl ⟨by rfl, ?_⟩) (by assumption) ?_; rotate_left; (· (intro V hSV; (try (obtain ⟨q1, q2, q3, q4⟩ := hSV)); (first | (go_simp; done) | (go_simp; with_reducible rfl)))); simp only [Act.put, List.setIfInBounds_toArray, List.set_cons_zero, List.set_cons_succ])
      | (refine AnyT.take (i := 6) (v := undef) rfl (by kernel_rfl) (fun _ _ _ h => h) (Or.inr ⟨by rfl, rfl⟩) (by assumption) ?_; simp only [Act.put, List.setIfInBounds_toArray, List.set_cons_zero, List.set_cons_succ])
    first
      | (refine AnyT.take (i := 7) (v := ?_) rfl (by kernel_rfl) (fun _ _ _ h => h) (Or.inl ⟨by rfl, ?_⟩) (by assumption) ?_; rotate_left; (· (intro V hSV; (try (obtain ⟨q1, q2, q3, q4⟩ := hSV)); (first | (go_simp; done) | (go_simp; with_reducible rfl)))); simp only [Act.put, List.setIfInBounds_toArray, List.set_cons_zero, List.set_cons_succ])
      | (refine AnyT.take (i := 7) (v := undef) rfl (by kernel_rfl) (fun _ _ _ h => h) (Or.inr ⟨by rfl, rfl⟩) (by assumption) ?_; simp only [Act.put, List.setIfInBounds_toArray, List.set_cons_zero, List.set_cons_succ])
    refine AnyT.ready (rs := [8]) (by kernel_rfl) (by simp) (ReadyT.cons rfl (fun K hK => ?_) ReadyT.nil)
    go_simp
    refine (CE.out _ (Keeps.refl _ _).drew).mono ?_
    rintro e w2 ⟨rfl, k1⟩
    have K2 := Lib.hid k1
    clear k1
    go_wp2_with fail
    have hHeld := S0.out w2 K2.out
    refine hK.out _ _ (fun _ => hHeld) (fun _ => ?_)
    clear hK K
    try simp only [Act.put, List.setIfInBounds_toArray, List.set_cons_zero, List.set_cons_succ]
    first
      | (refine AnyT.take (i := 9) (v := ?_) rfl (by kernel_rfl) (fun _ _ _ h => h) (Or.inl ⟨by rfl, ?_⟩) (by assumption) ?_; rotate_left; (· (intro V hSV; (try (obtain ⟨q1, q2, q3, q4⟩ := hSV)); (first | (go_simp; done) | (go_simp; with_reducible rfl)))); simp only [Act.put, List.setIfInBounds_toArray, List.set_cons_zero, List.set_cons_succ])
      | (refine AnyT.take (i := 9) (v := undef) rfl (by kernel_rfl) (fun _ _ _ h => h) (Or.inr ⟨by rfl, rfl⟩) (by assumption) ?_; simp only [Act.put, List.setIfInBounds_toArray, List.set_cons_zero, List.set_cons_succ])
    first
      | (refine AnyT.take (i := 10) (v := ?_) rfl (by kernel_rfl) (fun _ _ _ h => h) (Or.inl ⟨by rfl, ?_⟩) (by assumption) ?_; rotate_left; (· (intro V hSV; (try (obtain ⟨q1, q2, q3, q4⟩ := hSV)); (first | (go_simp; done) | (go_simp; with_reducible rfl)))); simp only [Act.put, List.setIfInBounds_toArray, List.set_cons_zero, List.set_cons_succ])
      | (refine AnyT.take (i := 10) (v := undef) rfl (by kernel_rfl) (fun _ _ _ h => h) (Or.inr ⟨by rfl, rfl⟩) (by assumption) ?_; simp only [Act.put, List.setIfInBounds_toArray, List.set_cons_zero, List.set_cons_succ])
    first
      | (refine AnyT.take (i := 11) (v := ?_) rfl (by kernel_rfl) (fun _ _ _ h => h) (Or.inl ⟨by rfl, ?_⟩) (by assumption) ?_; rotate_left; (· (intro V hSV; (try (obtain ⟨q1, q2, q3, q4⟩ := hSV)); (first | (go_simp; done) | (go_simp; with_reducible rfl)))); simp only [Act.put, List.setIfInBounds_toArray, List.set_cons_zero, List.set_cons_succ])
      | (refine AnyT.take (i := 11) (v := undef) rfl (by kernel_rfl) (fun _ _ _ h => h) (Or.inr ⟨by rfl, rfl⟩) (by assumption) ?_; simp only [Act.put, List.setIfInBounds_toArray, List.set_cons_zero, List.set_cons_succ])
    first
      | (refine AnyT.take (i := 12) (v := ?_) rfl (by kernel_rfl) (fun _ _ _ h => h) (Or.inl ⟨by rfl, ?_⟩) (by assumption) ?_; rotate_left; (· (intro V hSV; (try (obtain ⟨q1, q2, q3, q4⟩ := hSV)); (first | (go_simp; done) | (go_simp; with_reducible rfl)))); simp only [Act.put, List.setIfInBounds_toArray, List.set_cons_zero, List.set_cons_succ])
      | (refine AnyT.take (i := 12) (v := undef) rfl (by kernel_rfl) (fun _ _ _ h => h) (Or.inr ⟨by rfl, rfl⟩) (by assumption) ?_; simp only [Act.put, List.setIfInBounds_toArray, List.set_cons_zero, List.set_cons_succ])
    first
      | (refine AnyT.take (i := 13) (v := ?_) rfl (by kernel_rfl) (fun _ _ _ h => h) (Or.inl ⟨by rfl, ?_⟩) (by assumption) ?_; rotate_left; (· (intro V hSV; (try (obtain ⟨q1, q2, q3, q4⟩ := hSV)); (first | (go_simp; done) | (go_simp; with_reducible rfl)))); simp only [Act.put, List.setIfInBounds_toArray, List.set_cons_zero, List.set_cons_succ])
      | (refine AnyT.take (i := 13) (v := undef) rfl (by kernel_rfl) (fun _ _ _ h => h) (Or.inr ⟨by rfl, rfl⟩) (by assumption) ?_; simp only [Act.put, List.setIfInBounds_toArray, List.set_cons_zero, List.set_cons_succ])
    first
      | (refine AnyT.take (i := 14) (v := ?_) rfl (by kernel_rfl) (fun _ _ _ h => h) (Or.inl ⟨by rfl, ?_⟩) (by assumption) ?_; rotate_left; (· (intro V hSV; (try (obtain ⟨q1, q2, q3, q4⟩ := hSV)); (first | (go_simp; done) | (go_simp; with_reducible rfl)))); simp only [Act.put, List.setIfInBounds_toArray, List.set_cons_zero, List.set_cons_succ])
      | (refine AnyT.take (i := 14) (v := undef) rfl (by kernel_rfl) (fun _ _ _ h => h) (Or.inr ⟨by rfl, rfl⟩) (by assumption) ?_; simp only [Act.put, List.setIfInBounds_toArray, List.set_cons_zero, List.set_cons_succ])
    first
      | (refine AnyT.take (i := 15) (v := ?_) rfl (by kernel_rfl) (fun _ _ _ h => h) (Or.inl ⟨by rfl, ?_⟩) (by assumption) ?_; rotate_left; (· (intro V hSV; (try (obtain ⟨q1, q2, q3, q4⟩ := hSV)); (first | (go_simp; done) | (go_simp; with_reducible rfl)))); simp only [Act.put, List.setIfInBounds_toArray, List.set_cons_zero, List.set_cons_succ])
      | (refine AnyT.take (i := 15) (v := undef) rfl (by kernel_rfl) (fun _ _ _ h => h) (Or.inr ⟨by rfl, rfl⟩) (by assumption) ?_; simp only [Act.put, List.setIfInBounds_toArray, List.set_cons_zero, List.set_cons_succ])
    first
      | (refine AnyT.take (i := 16) (v := ?_) rfl (by kernel_rfl) (fun _ _ _ h => h) (Or.inl ⟨by rfl, ?_⟩) (by assumption) ?_; rotate_left; (· (intro V hSV; (try (obtain ⟨q1, q2, q3, q4⟩ := hSV)); (first | (go_simp; done) | (go_simp; with_reducible rfl)))); simp only [Act.put, List.setIfInBounds_toArray, List.set_cons_zero, List.set_cons_succ])
      | (refine AnyT.take (i := 16) (v := undef) rfl (by kernel_rfl) (fun _ _ _ h => h) (Or.inr ⟨by rfl, rfl⟩) (by assumption) ?_; simp only [Act.put, List.setIfInBounds_toArray, List.set_cons_zero, List.set_cons_succ])
    first
      | (refine AnyT.take (i := 17) (v := ?_) rfl (by kernel_rfl) (fun _ _ _ h => h) (Or.inl ⟨by rfl, ?_⟩) (by assumption) ?_; rotate_left; (· (intro V hSV; (try (obtain ⟨q1, q2, q3, q4⟩ := hSV)); (first | (go_simp; done) | (go_simp; with_reducible rfl)))); simp only [Act.put, List.setIfInBounds_toArray, List.set_cons_zero, List.set_cons_succ])
      | (refine AnyT.take (i := 17) (v := undef) rfl (by kernel_rfl) (fun _ _ _ h => h) (Or.inr ⟨by rfl, rfl⟩) (by assumption) ?_; simp only [Act.put, List.setIfInBounds_toArray, List.set_cons_zero, List.set_cons_succ])
    refine AnyT.ready (rs := [18]) (by kernel_rfl) (by simp) (ReadyT.cons rfl (fun K hK => ?_) ReadyT.nil)
    go_simp
    refine (CF.out _ K2.out).mono ?_
    rintro e w3 ⟨rfl, k1⟩
    have K3 := Lib.hid k1
    clear k1
    go_wp2_with fail
    have hHeld := S0.out w3 K3.out
    refine hK.out _ _ (fun _ => hHeld) (fun _ => ?_)
    clear hK K
    try simp only [Act.put, List.setIfInBounds_toArray, List.set_cons_zero, List.set_cons_succ]
    first
      | (refine AnyT.take (i := 19) (v := ?_) rfl (by kernel_rfl) (fun _ _ _ h => h) (Or.inl ⟨by rfl, ?_⟩) (by assumption) ?_; rotate_left; (· (intro V hSV; (try (obtain ⟨q1, q2, q3, q4⟩ := hSV)); (first | (go_simp; done) | (go_simp; with_reducible rfl)))); simp only [Act.put, List.setIfInBounds_toArray, List.set_cons_zero, List.set_cons_succ])
      | (refine AnyT.take (i := 19) (v := undef) rfl (by kernel_rfl) (fun _ _ _ h => h) (Or.inr ⟨by rfl, rfl⟩) (by assumption) ?_; simp only [Act.put, List.setIfInBounds_toArray, List.set_cons_zero, List.set_cons_succ])
    refine AnyT.ready (rs := [20]) (by kernel_rfl) (by simp) (ReadyT.cons rfl (fun K hK => ?_) ReadyT.nil)
    go_simp
    refine hK.out _ _ (fun h => absurd h (by simp)) (fun _ => ?_)
    clear hK K
    try simp only [Act.put, List.setIfInBounds_toArray, List.set_cons_zero, List.set_cons_succ]
    refine AnyT.done (by kernel_rfl) ?_ _
    go_wp2_with fail
    go_ret
    exact ⟨r2, rfl, fin.out r2 (by simp), K3.out⟩
  | false =>
    clear CF
    go_enter Tryz.func13, Tryz.ntmps13
    go_wp2_with fail
    refine hN.out.mono ?_
    rintro e w' ⟨rfl, rfl⟩
    go_wp2_with fail
    refine hN'.out.mono ?_
    rintro e w' ⟨rfl, rfl⟩
    go_wp2_with fail
    refine AnyT.begin (S := fun V => V.cell? ⟨s, 0, none⟩ = some vK ∧ V.cell? ⟨o, 0, none⟩ = some vK' ∧ V.cell? ⟨s, 1, none⟩ = some (.slice (some ⟨gC, 0, none⟩) n cap) ∧ V.cell? ⟨o, 1, none⟩ = some (.slice (some ⟨gC', 0, none⟩) n' cap')) (by kernel_rfl) (S0.out _ (Keeps.refl _ _).drew) (fun hHeld => ?_)
    first
      | (refine AnyT.take (i := 0) (v := ?_) rfl (by kernel_rfl) (fun _ _ _ h => h) (Or.inl ⟨by rfl, ?_⟩) (by assumption) ?_; rotate_left; (· (intro V hSV; (try (obtain ⟨q1, q2, q3, q4⟩ := hSV)); (first | (go_simp; done) | (go_simp; with_reducible rfl)))); simp only [Act.put, List.setIfInBounds_toArray, List.set_cons_zero, List.set_cons_succ])
      | (refine AnyT.take (i := 0) (v := undef) rfl (by kernel_rfl) (fun _ _ _ h => h) (Or.inr ⟨by rfl, rfl⟩) (by assumption) ?_; simp only [Act.put, List.setIfInBounds_toArray, List.set_cons_zero, List.set_cons_succ])
    first
      | (refine AnyT.take (i := 1) (v := ?_) rfl (by kernel_rfl) (fun _ _ _ h => h) (Or.inl ⟨by rfl, ?_⟩) (by assumption) ?_; rotate_left; (· (intro V hSV; (try (obtain ⟨q1, q2, q3, q4⟩ := hSV)); (first | (go_simp; done) | (go_simp; with_reducible rfl)))); simp only [Act.put, List.setIfInBounds_toArray, List.set_cons_zero, List.set_cons_succ])
      | (refine AnyT.take (i := 1) (v := undef) rfl (by kernel_rfl) (fun _ _ _ h => h) (Or.inr ⟨by rfl, rfl⟩) (by assumption) ?_; simp only [Act.put, List.setIfInBounds_toArray, List.set_cons_zero, List.set_cons_succ])
    first
      | (refine AnyT.take (i := 2) (v := ?_) rfl (by kernel_rfl) (fun _ _ _ h => h) (Or.inl ⟨by rfl, ?_⟩) (by assumption) ?_; rotate_left; (· (intro V hSV; (try (obtain ⟨q1, q2, q3, q4⟩ := hSV)); (first | (go_simp; done) | (go_simp; with_reducible rfl)))); simp only [Act.put, List.setIfInBounds_toArray, List.set_cons_zero, List.set_cons_succ])
      | (refine AnyT.take (i := 2) (v := undef) rfl (by kernel_rfl) (fun _ _ _ h => h) (Or.inr ⟨by rfl, rfl⟩) (by assumption) ?_; simp only [Act.put, List.setIfInBounds_toArray, List.set_cons_zero, List.set_cons_succ])
    first
      | (refine AnyT.take (i := 3) (v := ?_) rfl (by kernel_rfl) (fun _ _ _ h => h) (Or.inl ⟨by rfl, ?_⟩) (by assumption) ?_; rotate_left; (· (intro V hSV; (try (obtain ⟨q1, q2, q3, q4⟩ := hSV)); (first | (go_simp; done) | (go_simp; with_reducible rfl)))); simp only [Act.put, List.setIfInBounds_toArray, List.set_cons_zero, List.set_cons_succ])
      | (refine AnyT.take (i := 3) (v := undef) rfl (by kernel_rfl) (fun _ _ _ h => h) (Or.inr ⟨by rfl, rfl⟩) (by assumption) ?_; simp only [Act.put, List.setIfInBounds_toArray, List.set_cons_zero, List.set_cons_succ])
    first
      | (refine AnyT.take (i := 4) (v := ?_) rfl (by kernel_rfl) (fun _ _ _ h => h) (Or.inl ⟨by rfl, ?_⟩) (by assumption) ?_; rotate_left; (· (intro V hSV; (try (obtain ⟨q1, q2, q3, q4⟩ := hSV)); (first | (go_simp; done) | (go_simp; with_reducible rfl)))); simp only [Act.put, List.setIfInBounds_toArray, List.set_cons_zero, List.set_cons_succ])
      | (refine AnyT.take (i := 4) (v := undef) rfl (by kernel_rfl) (fun _ _ _ h => h) (Or.inr ⟨by rfl, rfl⟩) (by assumption) ?_; simp only [Act.put, List.setIfInBounds_toArray, List.set_cons_zero, List.set_cons_succ])
    first
      | (refine AnyT.take (i := 5) (v := ?_) rfl (by kernel_rfl) (fun _ _ _ h => h) (Or.inl ⟨by rfl, ?_⟩) (by assumption) ?_; rotate_left; (· (intro V hSV; (try (obtain ⟨q1, q2, q3, q4⟩ := hSV)); (first | (go_simp; done) | (go_simp; with_reducible rfl)))); simp only [Act.put, List.setIfInBounds_toArray, List.set_cons_zero, List.set_cons_succ])
      | (refine AnyT.take (i := 5) (v := undef) rfl (by kernel_rfl) (fun _ _ _ h => h) (Or.inr ⟨by rfl, rfl⟩) (by assumption) ?_; simp only [Act.put, List.setIfInBounds_toArray, List.set_cons_zero, List.set_cons_succ])
    first
      | (refine AnyT.take (i := 6) (v := ?_) rfl (by kernel_rfl) (fun _ _ _ h => h) (Or.inl ⟨by rfl, ?_⟩) (by assumption) ?_; rotate_left; (· (intro V hSV; (try (obtain ⟨q1, q2, q3, q4⟩ := hSV)); (first | (go_simp; done) | (go_simp; with_reducible rfl)))); simp only [Act.put, List.setIfInBounds_toArray, List.set_cons_zero, List.set_cons_succ])
      | (refine AnyT.take (i := 6) (v := undef) rfl (by kernel_rfl) (fun _ _ _ h => h) (Or.inr ⟨by rfl, rfl⟩) (by assumption) ?_; simp only [Act.put, List.setIfInBounds_toArray, List.set_cons_zero, List.set_cons_succ])
    first
      | (refine AnyT.take (i := 7) (v := ?_) rfl (by kernel_rfl) (fun _ _ _ h => h) (Or.inl ⟨by rfl, ?_⟩) (by assumption) ?_; rotate_left; (· (intro V hSV; (try (obtain ⟨q1, q2, q3, q4⟩ := hSV)); (first | (go_simp; done) | (go_simp; with_reducible rfl)))); simp only [Act.put, List.setIfInBounds_toArray, List.set_cons_zero, List.set_cons_succ])
      | (refine AnyT.take (i := 7) (v := undef) rfl (by kernel_rfl) (fun _ _ _ h => h) (Or.inr ⟨by rfl, rfl⟩) (by assumption) ?_; simp only [Act.put, List.setIfInBounds_toArray, List.set_cons_zero, List.set_cons_succ])
    refine AnyT.ready (rs := [8]) (by kernel_rfl) (by simp) (ReadyT.cons rfl (fun K hK => ?_) ReadyT.nil)
    go_simp
    refine (CE.out _ (Keeps.refl _ _).drew).mono ?_
    rintro e w2 ⟨rfl, k1⟩
    have K2 := Lib.hid k1
    clear k1
    go_wp2_with fail
    have hHeld := S0.out w2 K2.out
    refine hK.out _ _ (fun _ => hHeld) (fun _ => ?_)
    clear hK K
    try simp only [Act.put, List.setIfInBounds_toArray, List.set_cons_zero, List.set_cons_succ]
    first
      | (refine AnyT.take (i := 9) (v := ?_) rfl (by kernel_rfl) (fun _ _ _ h => h) (Or.inl ⟨by rfl, ?_⟩) (by assumption) ?_; rotate_left; (· (intro V hSV; (try (obtain ⟨q1, q2, q3, q4⟩ := hSV)); (first | (go_simp; done) | (go_simp; with_reducible rfl)))); simp only [Act.put, List.setIfInBounds_toArray, List.set_cons_zero, List.set_cons_succ])
      | (refine AnyT.take (i := 9) (v := undef) rfl (by kernel_rfl) (fun _ _ _ h => h) (Or.inr ⟨by rfl, rfl⟩) (by assumption) ?_; simp only [Act.put, List.setIfInBounds_toArray, List.set_cons_zero, List.set_cons_succ])
    (refine AnyT.take (i := 10) (v := undef) rfl (by kernel_rfl) (fun _ _ _ h => h) (Or.inr ⟨by rfl, rfl⟩) (by assumption) ?_; simp only [Act.put, List.setIfInBounds_toArray, List.set_cons_zero, List.set_cons_succ])
    (refine AnyT.take (i := 11) (v := undef) rfl (by kernel_rfl) (fun _ _ _ h => h) (Or.inr ⟨by rfl, rfl⟩) (by assumption) ?_; simp only [Act.put, List.setIfInBounds_toArray, List.set_cons_zero, List.set_cons_succ])
    (refine AnyT.take (i := 12) (v := undef) rfl (by kernel_rfl) (fun _ _ _ h => h) (Or.inr ⟨by rfl, rfl⟩) (by assumption) ?_; simp only [Act.put, List.setIfInBounds_toArray, List.set_cons_zero, List.set_cons_succ])
    (refine AnyT.take (i := 13) (v := undef) rfl (by kernel_rfl) (fun _ _ _ h => h) (Or.inr ⟨by rfl, rfl⟩) (by assumption) ?_; simp only [Act.put, List.setIfInBounds_toArray, List.set_cons_zero, List.set_cons_succ])
    (refine AnyT.take (i := 14) (v := undef) rfl (by kernel_rfl) (fun _ _ _ h => h) (Or.inr ⟨by rfl, rfl⟩) (by assumption) ?_; simp only [Act.put, List.setIfInBounds_toArray, List.set_cons_zero, List.set_cons_succ])
    (refine AnyT.take (i := 15) (v := undef) rfl (by kernel_rfl) (fun _ _ _ h => h) (Or.inr ⟨by rfl, rfl⟩) (by assumption) ?_; simp only [Act.put, List.setIfInBounds_toArray, List.set_cons_zero, List.set_cons_succ])
    (refine AnyT.take (i := 16) (v := undef) rfl (by kernel_rfl) (fun _ _ _ h => h) (Or.inr ⟨by rfl, rfl⟩) (by assumption) ?_; simp only [Act.put, List.setIfInBounds_toArray, List.set_cons_zero, List.set_cons_succ])
    (refine AnyT.take (i := 17) (v := undef) rfl (by kernel_rfl) (fun _ _ _ h => h) (Or.inr ⟨by rfl, rfl⟩) (by assumption) ?_; simp only [Act.put, List.setIfInBounds_toArray, List.set_cons_zero, List.set_cons_succ])
    (refine AnyT.take (i := 18) (v := undef) rfl (by kernel_rfl) (fun _ _ _ h => h) (Or.inr ⟨by rfl, rfl⟩) (by assumption) ?_; simp only [Act.put, List.setIfInBounds_toArray, List.set_cons_zero, List.set_cons_succ])
    first
      | (refine AnyT.take (i := 19) (v := ?_) rfl (by kernel_rfl) (fun _ _ _ h => h) (Or.inl ⟨by rfl, ?_⟩) (by assumption) ?_; rotate_left; (· (intro V hSV; (try (obtain ⟨q1, q2, q3, q4⟩ := hSV)); (first | (go_simp; done) | (go_simp; with_reducible rfl)))); simp only [Act.put, List.setIfInBounds_toArray, List.set_cons_zero, List.set_cons_succ])
      | (refine AnyT.take (i := 19) (v := undef) rfl (by kernel_rfl) (fun _ _ _ h => h) (Or.inr ⟨by rfl, rfl⟩) (by assumption) ?_; simp only [Act.put, List.setIfInBounds_toArray, List.set_cons_zero, List.set_cons_succ])
    refine AnyT.ready (rs := [20]) (by kernel_rfl) (by simp) (ReadyT.cons rfl (fun K hK => ?_) ReadyT.nil)
    go_simp
    refine hK.out _ _ (fun h => absurd h (by simp)) (fun _ => ?_)
    clear hK K
    try simp only [Act.put, List.setIfInBounds_toArray, List.set_cons_zero, List.set_cons_succ]
    refine AnyT.done (by kernel_rfl) ?_ _
    go_wp2_with fail
    go_ret
    exact ⟨false, rfl, fin.out false (by simp), K2.out⟩
end Go.Proofs.YthidipigpfcbbaaGreatDoor

namespace Go.Proofs.YthidipigpfcbbaaGreatDoor
open Go.RowKit Go.Maps Go.Extern.Stop Go.Stop Go.Extern

theorem face : Face PM where
  keeps := fun h k hS => h.keeps k hS
  old := fun h => h.old
  ok := fun h => h.ok
  get := fun h c k hk => get_m h c k hk
  put := fun h c k v hk => put_m h c k v hk
  del_ := fun h c k hk => del_m h c k hk
  ceil_ := fun h c k => ceil_m h c k
  range_ := fun h c x y => range_m h c x y
  size_ := fun h c hc => size_m h c hc
  list_ := fun h c hc => list_m h c hc
  kinds_ := fun h => kinds_m h
  copy_ := fun h => copy_m h
  same_ := fun h h' => same_m h h'
  new_no := fun h hk => (new_m h).mono fun e w' hn => by
    rcases hn with ⟨_, h1⟩ | ⟨h1, _⟩
    · exact h1
    · rw [hk] at h1; cases h1
  new_ := fun h hk => (new_m h).mono fun e w' hn => by
    rcases hn with ⟨h1, _⟩ | ⟨_, h1⟩
    · rw [hk] at h1; cases h1
    · exact h1
end Go.Proofs.YthidipigpfcbbaaGreatDoor
