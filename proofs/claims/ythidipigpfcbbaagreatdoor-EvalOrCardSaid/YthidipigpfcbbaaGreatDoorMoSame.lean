/-
  concordref08.Ints by contract: whether two lists of numbers are the same.
  concordref08.Pairs by contract: whether two lists are the same.
-/
import Derived.Test.YthidipigpfcbbaaGreatDoorRkArg
import Derived.Test.YthidipigpfcbbaaGreatDoorMoRefPut
import Derived.Laws.StructEq

namespace Go.Proofs.YthidipigpfcbbaaGreatDoor
open Go.RowKit Go.Maps Go.Extern.Stop Go.Stop Go.Extern

theorem il_eq {l m : List Int} {n : Nat} (hl : l.length = n) (hm : m.length = n) : l = m ↔ ∀ k, k < n → l[k]? = m[k]? :=
  ⟨fun e k _ => by rw [e], fun h => List.ext_getElem? fun k => by
    rcases Nat.lt_or_ge k n with hk | hk
    · exact h k hk
    · rw [List.getElem?_eq_none (by omega), List.getElem?_eq_none (by omega)]⟩
theorem cellsI_at (l : List Int) (i : Nat) (p : Int) (h : l[i]? = some p) : (intK.cs l)[i]? = some (.int .i64 p) := by
  show (l.map fun x => Value.int .i64 x)[i]? = _
  rw [List.getElem?_map, h]; rfl
theorem ni_len (w : World) (l m : List Int) (v v' : Value) (h : IRow w v l) (h' : IRow w v' m) (hne : l.length ≠ m.length) :
    Calls Tryz.prog 30 #[v, v'] w fun e w' => e = .returned (.bool false) ∧ w' = w := by
  obtain ⟨a, c, rfl, _⟩ := row_shape h
  obtain ⟨a', c', rfl, _⟩ := row_shape h'
  have hb : ((l.length : Int) != m.length) = true := by simp; omega
  clear h h'
  generalize l.length = n at *
  generalize m.length = n' at *
  go_enter Tryz.func30, Tryz.ntmps30
  go_wp2
  go_ret
  exact ⟨rfl, rfl⟩

set_option maxRecDepth 100000 in
theorem ni_any {w : World} {l m : List Int} {v v' : Value} (h : IRow w v l) (h' : IRow w v' m) (few : l.length ≤ 1000000) :
    Calls Tryz.prog 30 #[v, v'] w fun e w' => e = .returned (.bool (decide (l = m))) ∧ Keeps (fun _ => False) w w' := by
  by_cases hne : l.length ≠ m.length
  · rw [decide_eq_false (fun e => hne (by rw [e]))]
    exact (ni_len w l m v v' h h' hne).mono fun _ _ ⟨h1, h2⟩ => ⟨h1, by rw [h2]; exact Keeps.refl _ _⟩
  obtain ⟨n, hn⟩ : ∃ n, l.length = n := ⟨_, rfl⟩
  have hm : m.length = n := by omega
  obtain ⟨a, c, rfl, ha⟩ := row_shape h
  obtain ⟨a', c', rfl, ha'⟩ := row_shape h'
  rw [hn] at ha few
  rw [hm] at ha'
  have h1 := Lib.hid h
  have h2 := Lib.hid h'
  have hlm := Lib.hid (il_eq hn hm)
  have hn' := Lib.hid hn
  have hm' := Lib.hid hm
  have hb : ((n : Int) != n) = false := by simp
  obtain ⟨r, hr⟩ : ∃ r, decide (l = m) = r := ⟨_, rfl⟩
  rw [hn, hm, hr]
  have hr' := Lib.hid hr
  clear hne hr h h' hn hm
  go_enter Tryz.func30, Tryz.ntmps30
  go_wp2_with fail
  go_loopw [5] (fun iv wr => ∃ i : Nat, iv = .int .i64 i ∧ i ≤ n ∧ (∀ k, k < i → l[k]? = m[k]?) ∧ Keeps (fun _ => False) w wr) (fun iv _ => n - (intOf iv).toNat)
  case atStart => exact ⟨0, rfl, Nat.zero_le _, fun k h => absurd h (Nat.not_lt_zero _), Keeps.refl _ _⟩
  case round =>
    obtain ⟨i, rfl, hi, hk, hK⟩ := hrel
    have K1 := Lib.hid hK
    have k1 := Lib.hid hk
    clear hK hk
    by_cases hin : i < n
    · have hin' : (i : Int) < (n : Int) := by omega
      obtain ⟨b, rfl⟩ := ha (by omega)
      obtain ⟨b', rfl⟩ := ha' (by omega)
      obtain ⟨t1, ht⟩ : ∃ t1, l[i]? = some t1 := ⟨_, List.getElem?_eq_getElem (by rw [hn'.out]; exact hin)⟩
      obtain ⟨u1, hu⟩ : ∃ u1, m[i]? = some u1 := ⟨_, List.getElem?_eq_getElem (by rw [hm'.out]; exact hin)⟩
      have K2 := K1.out.drew
      have q1 := World.ownsRow.cellAt h1.out
      have q2 := World.ownsRow.cellAt h2.out
      have z1 := hn'.out
      have z2 := hm'.out
      have w1 := (q1 i (by show i < l.length * 1; omega)).trans (cellsI_at _ i _ ht)
      have w3 := (q2 i (by show i < m.length * 1; omega)).trans (cellsI_at _ i _ hu)
      have x1 := (K2.cell (cell_lt w1) id).trans w1
      have y1 := (K2.cell (cell_lt w3) id).trans w3
      have ht' := Lib.hid ht
      have hu' := Lib.hid hu
      clear K2 q1 q2 w1 w3 ht hu z1 z2
      by_cases he : t1 = u1
      · subst he
        go_wp2_with fail
        go_region
        go_wp2_with fail
        go_roundw
        case rel =>
          have k2 : ∀ k, k < i + 1 → l[k]? = m[k]? := fun k hk => by
            rcases Nat.lt_or_ge k i with h | h
            · exact k1.out k h
            · obtain rfl : k = i := by omega
              rw [ht'.out, hu'.out]
          exact ⟨i + 1, by go_num, by omega, k2, K1.out.drew⟩
        case measure => simp [intOf]; omega
      · have hb1 : (t1 != u1) = true := by simpa using he
        have hr2 : r = false := by
          rw [← hr'.out]
          exact decide_eq_false fun e => he (by
            have := hlm.out.1 e i (by omega)
            rw [ht'.out, hu'.out] at this
            injection this)
        subst hr2
        clear he
        go_wp2_with fail
        go_region
        go_wp2_with fail
        go_ret
        exact ⟨rfl, K1.out.drew⟩
    · have hr2 : r = true := by
        rw [← hr'.out]
        exact decide_eq_true (hlm.out.2 fun k hk => k1.out k (by omega))
      subst hr2
      have hin' : ¬ (i : Int) < (n : Int) := by omega
      go_wp2_with fail
      go_ret
      exact ⟨rfl, K1.out⟩
end Go.Proofs.YthidipigpfcbbaaGreatDoor

namespace Go.Proofs.YthidipigpfcbbaaGreatDoor
open Go.RowKit Go.Maps Go.Extern.Stop Go.Stop Go.Extern

theorem tl_eq {l m : Tl} {n : Nat} (hl : l.length = n) (hm : m.length = n) : l = m ↔ ∀ k, k < n → l[k]? = m[k]? :=
  ⟨fun e k _ => by rw [e], fun h => List.ext_getElem? fun k => by
    rcases Nat.lt_or_ge k n with hk | hk
    · exact h k hk
    · rw [List.getElem?_eq_none (by omega), List.getElem?_eq_none (by omega)]⟩

theorem pr_fields : Tryz.prog.underlying 59 = some (.struct (Tryz.prog.fieldsOf 59)) := by kernel_rfl
theorem pr_held : Tryz.prog.stoodInHeld 59 = false := by kernel_rfl
theorem pr_guard : Tryz.prog.eqGuardType Tryz.prog.depth 59 = false := by kernel_rfl
theorem pr_list : ((Tryz.prog.fieldsOf 59).toList.map fun f => (f.type, f.offset, f.name == "_")) = [(3, 0, false), (3, 1, false)] := by kernel_rfl

theorem eqIn_pr (w : World) (a b c d : Int) : (Op.equalIn 10000 59 (.agg #[.int .i64 a, .int .i64 b]) (.agg #[.int .i64 c, .int .i64 d])).run Tryz.prog w = .ok (a == c && b == d) w := by
  rw [run_equalIn_agg w 9999 _ _ _ pr_fields pr_held]
  have h := pr_list
  generalize (Tryz.prog.fieldsOf 59).toList = fs at h ⊢
  obtain ⟨f, g, rfl⟩ : ∃ f g, fs = [f, g] := by
    have hl := congrArg List.length h
    rw [List.length_map] at hl
    match fs, hl with
    | [f, g], _ => exact ⟨f, g, rfl⟩
    | [], hl => simp at hl
    | [_], hl => simp at hl
    | _ :: _ :: _ :: _, hl => simp at hl
  simp only [List.map_cons, List.map_nil, List.cons.injEq, Prod.mk.injEq, and_true] at h
  obtain ⟨⟨f1, f2, f3⟩, g1, g2, g3⟩ := h
  have uI := Tryz.underlying3
  by_cases h1 : a = c
  · by_cases h2 : b = d
    · simp [Op.eqFields, f1, f2, g1, g2, beq_eq_false_iff_ne.1 f3, beq_eq_false_iff_ne.1 g3, part, go_sem, h1, h2]
    · simp [Op.eqFields, f1, f2, g1, g2, beq_eq_false_iff_ne.1 f3, beq_eq_false_iff_ne.1 g3, part, go_sem, h1, h2]
  · simp [Op.eqFields, f1, f2, beq_eq_false_iff_ne.1 f3, part, go_sem, h1]

theorem pr_len (w : World) (l m : Tl) (v v' : Value) (h : PRow w v l) (h' : PRow w v' m) (hne : l.length ≠ m.length) :
    Calls Tryz.prog 44 #[v, v'] w fun e w' => e = .returned (.bool false) ∧ w' = w := by
  obtain ⟨a, c, rfl, _⟩ := row_shape h
  obtain ⟨a', c', rfl, _⟩ := row_shape h'
  have hb : ((l.length : Int) != m.length) = true := by simp; omega
  clear h h'
  generalize l.length = n at *
  generalize m.length = n' at *
  go_enter Tryz.func44, Tryz.ntmps44
  go_wp2
  go_ret
  exact ⟨rfl, rfl⟩

set_option maxRecDepth 100000 in
theorem pr_any {w : World} {l m : Tl} {v v' : Value} (h : PRow w v l) (h' : PRow w v' m) (few : l.length ≤ 1000000) :
    Calls Tryz.prog 44 #[v, v'] w fun e w' => e = .returned (.bool (decide (l = m))) ∧ Keeps (fun _ => False) w w' := by
  by_cases hne : l.length ≠ m.length
  · rw [decide_eq_false (fun e => hne (by rw [e]))]
    exact (pr_len w l m v v' h h' hne).mono fun _ _ ⟨h1, h2⟩ => ⟨h1, by rw [h2]; exact Keeps.refl _ _⟩
  obtain ⟨n, hn⟩ : ∃ n, l.length = n := ⟨_, rfl⟩
  have hm : m.length = n := by omega
  have hE := eqIn_pr
  have hg := pr_guard
  obtain ⟨a, c, rfl, ha⟩ := row_shape h
  obtain ⟨a', c', rfl, ha'⟩ := row_shape h'
  rw [hn] at ha few
  rw [hm] at ha'
  have h1 := Lib.hid h
  have h2 := Lib.hid h'
  have hlm := Lib.hid (tl_eq hn hm)
  have hn' := Lib.hid hn
  have hm' := Lib.hid hm
  have hb : ((n : Int) != n) = false := by simp
  obtain ⟨r, hr⟩ : ∃ r, decide (l = m) = r := ⟨_, rfl⟩
  rw [hn, hm, hr]
  have hr' := Lib.hid hr
  clear hne hr h h' hn hm
  go_enter Tryz.func44, Tryz.ntmps44
  go_wp2_with fail
  go_loopw [5] (fun iv wr => ∃ i : Nat, iv = .int .i64 i ∧ i ≤ n ∧ (∀ k, k < i → l[k]? = m[k]?) ∧ Keeps (fun _ => False) w wr) (fun iv _ => n - (intOf iv).toNat)
  case atStart => exact ⟨0, rfl, Nat.zero_le _, fun k h => absurd h (Nat.not_lt_zero _), Keeps.refl _ _⟩
  case round =>
    obtain ⟨i, rfl, hi, hk, hK⟩ := hrel
    have K1 := Lib.hid hK
    have k1 := Lib.hid hk
    clear hK hk
    by_cases hin : i < n
    · have hin' : (i : Int) < (n : Int) := by omega
      obtain ⟨b, rfl⟩ := ha (by omega)
      obtain ⟨b', rfl⟩ := ha' (by omega)
      obtain ⟨t1, t2, ht⟩ : ∃ t1 t2, l[i]? = some (t1, t2) := ⟨_, _, List.getElem?_eq_getElem (by rw [hn'.out]; exact hin)⟩
      obtain ⟨u1, u2, hu⟩ : ∃ u1 u2, m[i]? = some (u1, u2) := ⟨_, _, List.getElem?_eq_getElem (by rw [hm'.out]; exact hin)⟩
      have K2 := K1.out.drew
      have q1 := World.ownsRow.cellAt h1.out
      have q2 := World.ownsRow.cellAt h2.out
      have z1 := hn'.out
      have z2 := hm'.out
      have w1 := (q1 (i * 2) (by show i * 2 < l.length * 2; omega)).trans (cellsP_fst _ i _ ht)
      have w2 := (q1 (i * 2 + 1) (by show i * 2 + 1 < l.length * 2; omega)).trans (cellsP_snd _ i _ ht)
      have w3 := (q2 (i * 2) (by show i * 2 < m.length * 2; omega)).trans (cellsP_fst _ i _ hu)
      have w4 := (q2 (i * 2 + 1) (by show i * 2 + 1 < m.length * 2; omega)).trans (cellsP_snd _ i _ hu)
      have x1 := (K2.cell (cell_lt w1) id).trans w1
      have x2 := (K2.cell (cell_lt w2) id).trans w2
      have y1 := (K2.cell (cell_lt w3) id).trans w3
      have y2 := (K2.cell (cell_lt w4) id).trans w4
      have ht' := Lib.hid ht
      have hu' := Lib.hid hu
      clear K2 q1 q2 w1 w2 w3 w4 ht hu z1 z2
      by_cases he : t1 = u1 ∧ t2 = u2
      · obtain ⟨rfl, rfl⟩ := he
        go_wp2_with fail
        go_region
        go_wp2_with fail
        go_roundw
        case rel =>
          have k2 : ∀ k, k < i + 1 → l[k]? = m[k]? := fun k hk => by
            rcases Nat.lt_or_ge k i with h | h
            · exact k1.out k h
            · obtain rfl : k = i := by omega
              rw [ht'.out, hu'.out]
          exact ⟨i + 1, by go_num, by omega, k2, K1.out.drew⟩
        case measure => simp [intOf]; omega
      · have hb1 : (t1 == u1 && t2 == u2) = false := by
          rw [← Bool.not_eq_true]
          simpa using he
        have hr2 : r = false := by
          rw [← hr'.out]
          exact decide_eq_false fun e => he (by
            have := hlm.out.1 e i (by omega)
            rw [ht'.out, hu'.out] at this
            injection this with this
            injection this with h1 h2
            exact ⟨h1, h2⟩)
        subst hr2
        clear he
        go_wp2_with fail
        go_region
        go_wp2_with fail
        go_ret
        exact ⟨rfl, K1.out.drew⟩
    · have hr2 : r = true := by
        rw [← hr'.out]
        exact decide_eq_true (hlm.out.2 fun k hk => k1.out k (by omega))
      subst hr2
      have hin' : ¬ (i : Int) < (n : Int) := by omega
      go_wp2_with fail
      go_ret
      exact ⟨rfl, K1.out⟩
end Go.Proofs.YthidipigpfcbbaaGreatDoor
