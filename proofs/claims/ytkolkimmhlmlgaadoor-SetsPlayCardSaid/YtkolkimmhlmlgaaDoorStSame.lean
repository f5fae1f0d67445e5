/-
  concordref07.SameReads, SameWrites by contract: whether two lists are the same; the number of an error (printed by gen/mksame.py).
-/
import Derived.Test.YtkolkimmhlmlgaaDoorStWrites
import Derived.Laws.StructEq
namespace Go.Proofs.YtkolkimmhlmlgaaDoor
open Go.RowKit Go.Maps Go.Extern.Stop Go.Stop Go.Extern

/-- A slice that reads as the pairs l. -/
abbrev Row2 (q : IntKind) (t : TypeId) (w : World) (v : Value) (l : Tl) : Prop := w.ownsRow 0 t 2 v l.length (cells2 q l)

theorem Row2.keeps {q : IntKind} {t : TypeId} {w w' : World} {v : Value} {l : Tl} {S : Nat → Prop} (h : Row2 q t w v l) (k : Keeps S w w') (hS : ∀ g, v.ownBlock = some g → ¬ S g) : Row2 q t w' v l := ownsRow_keeps h k hS
theorem Row2.same {q : IntKind} {t : TypeId} {w w' : World} {v : Value} {l : Tl} (h : Row2 q t w v l) (k : Keeps (fun _ => False) w w') : Row2 q t w' v l := ownsRow_keeps h k fun _ _ => id

/-- The number of an error that a call answers. -/
theorem no_u {B : Nat} {w : World} {v : Value} {k : Nat} {at_ : Int} (h : ErrU B w v k at_) :
    Calls Tryd.prog 13 #[v] w fun e w' => e = .returned (.int .i64 (k : Nat)) ∧ w = w' := by
  rcases h with ⟨rfl, _, rfl⟩ | ⟨h1, h2, _, rfl⟩ | ⟨h1, h2, p, _, rfl, hw⟩
  · exact no_nil w
  · exact no_errno k h1 h2 w
  · exact no_fault p 0 k h1 h2 w (hw.at_ 1)

/-- One pair, as a literal. -/
theorem row2_lit {q : IntKind} {t : TypeId} {w : World} {b : Nat} {p : Int × Int} (h : Whole w b t #[.int .u64 p.1, .int q p.2]) : Row2 q t w (.slice (some ⟨b, 0, none⟩) 1 1) [p] :=
  ⟨rfl, .inr ⟨b, 1, _, rfl, Nat.zero_le _, h, Nat.le_refl _, (by decide : 1 ≤ maxLen), rfl, rfl⟩⟩

theorem tl_eq {l m : Tl} {n : Nat} (hl : l.length = n) (hm : m.length = n) : l = m ↔ ∀ k, k < n → l[k]? = m[k]? :=
  ⟨fun e k _ => by rw [e], fun h => List.ext_getElem? fun k => by
    rcases Nat.lt_or_ge k n with hk | hk
    · exact h k hk
    · rw [List.getElem?_eq_none (by omega), List.getElem?_eq_none (by omega)]⟩

theorem sr_fields : Tryd.prog.underlying 50 = some (.struct (Tryd.prog.fieldsOf 50)) := by kernel_rfl
theorem sr_held : Tryd.prog.stoodInHeld 50 = false := by kernel_rfl
theorem sr_guard : Tryd.prog.eqGuardType Tryd.prog.depth 50 = false := by kernel_rfl
theorem sr_list : ((Tryd.prog.fieldsOf 50).toList.map fun f => (f.type, f.offset, f.name == "_")) = [(23, 0, false), (3, 1, false)] := by kernel_rfl

theorem eqIn_sr (w : World) (a b c d : Int) : (Op.equalIn 10000 50 (.agg #[.int .u64 a, .int .i64 b]) (.agg #[.int .u64 c, .int .i64 d])).run Tryd.prog w = .ok (a == c && b == d) w := by
  rw [run_equalIn_agg w 9999 _ _ _ sr_fields sr_held]
  have h := sr_list
  generalize (Tryd.prog.fieldsOf 50).toList = fs at h ⊢
  obtain ⟨f, g, rfl⟩ : ∃ f g, fs = [f, g] := by
    have hl := congrArg List.length h
    rw [List.length_map] at hl
    match fs, hl with
    | [f, g], _ => exact ⟨f, g, rfl⟩
    | [], hl => simp at hl
    | [_], hl => simp at hl
    | _ :: _ :: _ :: _, hl => simp at hl
  simp only [List.map_cons, List.map_nil, List.cons.injEq, Prod.mk.injEq, and_true] at h
  obtain ⟨⟨f1, f2, f3⟩, g1, g2, g3⟩ := h
  have uU := Tryd.underlying23
  have uI := Tryd.underlying3
  by_cases h1 : a = c
  · by_cases h2 : b = d
    · simp [Op.eqFields, f1, f2, g1, g2, beq_eq_false_iff_ne.1 f3, beq_eq_false_iff_ne.1 g3, part, go_sem, h1, h2]
    · simp [Op.eqFields, f1, f2, g1, g2, beq_eq_false_iff_ne.1 f3, beq_eq_false_iff_ne.1 g3, part, go_sem, h1, h2]
  · simp [Op.eqFields, f1, f2, beq_eq_false_iff_ne.1 f3, part, go_sem, h1]

theorem sr_len (w : World) (l m : Tl) (v v' : Value) (h : Row2 .i64 50 w v l) (h' : Row2 .i64 50 w v' m) (hne : l.length ≠ m.length) :
    Calls Tryd.prog 17 #[v, v'] w fun e w' => e = .returned (.bool false) ∧ w' = w := by
  obtain ⟨a, c, rfl, _⟩ := row_shape h
  obtain ⟨a', c', rfl, _⟩ := row_shape h'
  have hb : ((l.length : Int) != m.length) = true := by simp; omega
  clear h h'
  generalize l.length = n at *
  generalize m.length = n' at *
  go_enter Tryd.func17, Tryd.ntmps17
  go_wp2
  go_ret
  exact ⟨rfl, rfl⟩

set_option maxRecDepth 100000 in
theorem sr_any {w : World} {l m : Tl} {v v' : Value} (h : Row2 .i64 50 w v l) (h' : Row2 .i64 50 w v' m) (few : l.length ≤ 100000) :
    Calls Tryd.prog 17 #[v, v'] w fun e w' => e = .returned (.bool (decide (l = m))) ∧ Keeps (fun _ => False) w w' := by
  by_cases hne : l.length ≠ m.length
  · rw [decide_eq_false (fun e => hne (by rw [e]))]
    exact (sr_len w l m v v' h h' hne).mono fun _ _ ⟨h1, h2⟩ => ⟨h1, by rw [h2]; exact Keeps.refl _ _⟩
  obtain ⟨n, hn⟩ : ∃ n, l.length = n := ⟨_, rfl⟩
  have hm : m.length = n := by omega
  have hE := eqIn_sr
  have hg := sr_guard
  obtain ⟨a, c, rfl, ha⟩ := row_shape h
  obtain ⟨a', c', rfl, ha'⟩ := row_shape h'
  rw [hn] at ha few
  rw [hm] at ha'
  have h1 := Lib.hid h
  have h2 := Lib.hid h'
  have hlm := Lib.hid (tl_eq hn hm)
  have hn' := Lib.hid hn
  have hm' := Lib.hid hm
  have hb : ((n : Int) != n) = false := by simp
  obtain ⟨r, hr⟩ : ∃ r, decide (l = m) = r := ⟨_, rfl⟩
  rw [hn, hm, hr]
  have hr' := Lib.hid hr
  clear hne hr h h' hn hm
  go_enter Tryd.func17, Tryd.ntmps17
  go_wp2_with fail
  go_loopw [5] (fun iv wr => ∃ i : Nat, iv = .int .i64 i ∧ i ≤ n ∧ (∀ k, k < i → l[k]? = m[k]?) ∧ Keeps (fun _ => False) w wr) (fun iv _ => n - (intOf iv).toNat)
  case atStart => exact ⟨0, rfl, Nat.zero_le _, fun k h => absurd h (Nat.not_lt_zero _), Keeps.refl _ _⟩
  case round =>
    obtain ⟨i, rfl, hi, hk, hK⟩ := hrel
    have K1 := Lib.hid hK
    have k1 := Lib.hid hk
    clear hK hk
    by_cases hin : i < n
    · have hin' : (i : Int) < (n : Int) := by omega
      obtain ⟨b, rfl⟩ := ha (by omega)
      obtain ⟨b', rfl⟩ := ha' (by omega)
      obtain ⟨t1, t2, ht⟩ : ∃ t1 t2, l[i]? = some (t1, t2) := ⟨_, _, List.getElem?_eq_getElem (by rw [hn'.out]; exact hin)⟩
      obtain ⟨u1, u2, hu⟩ : ∃ u1 u2, m[i]? = some (u1, u2) := ⟨_, _, List.getElem?_eq_getElem (by rw [hm'.out]; exact hin)⟩
      have K2 := K1.out.drew
      have q1 := World.ownsRow.cellAt h1.out
      have q2 := World.ownsRow.cellAt h2.out
      have z1 := hn'.out
      have z2 := hm'.out
      have w1 := (q1 (i * 2) (by omega)).trans (cells2_fst _ _ i _ ht)
      have w2 := (q1 (i * 2 + 1) (by omega)).trans (cells2_snd _ _ i _ ht)
      have w3 := (q2 (i * 2) (by omega)).trans (cells2_fst _ _ i _ hu)
      have w4 := (q2 (i * 2 + 1) (by omega)).trans (cells2_snd _ _ i _ hu)
      have x1 := (K2.cell (cell_lt w1) id).trans w1
      have x2 := (K2.cell (cell_lt w2) id).trans w2
      have y1 := (K2.cell (cell_lt w3) id).trans w3
      have y2 := (K2.cell (cell_lt w4) id).trans w4
      have ht' := Lib.hid ht
      have hu' := Lib.hid hu
      clear K2 q1 q2 w1 w2 w3 w4 ht hu z1 z2
      by_cases he : t1 = u1 ∧ t2 = u2
      · obtain ⟨rfl, rfl⟩ := he
        go_wp2_with fail
        go_region
        go_wp2_with fail
        go_roundw
        case rel =>
          have k2 : ∀ k, k < i + 1 → l[k]? = m[k]? := fun k hk => by
            rcases Nat.lt_or_ge k i with h | h
            · exact k1.out k h
            · obtain rfl : k = i := by omega
              rw [ht'.out, hu'.out]
          exact ⟨i + 1, by go_num, by omega, k2, K1.out.drew⟩
        case measure => simp [intOf]; omega
      · have hb1 : (t1 == u1 && t2 == u2) = false := by
          rw [← Bool.not_eq_true]
          simpa using he
        have hr2 : r = false := by
          rw [← hr'.out]
          exact decide_eq_false fun e => he (by
            have := hlm.out.1 e i (by omega)
            rw [ht'.out, hu'.out] at this
            injection this with this
            injection this with h1 h2
            exact ⟨h1, h2⟩)
        subst hr2
        clear he
        go_wp2_with fail
        go_region
        go_wp2_with fail
        go_ret
        exact ⟨rfl, K1.out.drew⟩
    · have hr2 : r = true := by
        rw [← hr'.out]
        exact decide_eq_true (hlm.out.2 fun k hk => k1.out k (by omega))
      subst hr2
      have hin' : ¬ (i : Int) < (n : Int) := by omega
      go_wp2_with fail
      go_ret
      exact ⟨rfl, K1.out⟩

theorem sw_fields : Tryd.prog.underlying 60 = some (.struct (Tryd.prog.fieldsOf 60)) := by kernel_rfl
theorem sw_held : Tryd.prog.stoodInHeld 60 = false := by kernel_rfl
theorem sw_guard : Tryd.prog.eqGuardType Tryd.prog.depth 60 = false := by kernel_rfl
theorem sw_list : ((Tryd.prog.fieldsOf 60).toList.map fun f => (f.type, f.offset, f.name == "_")) = [(23, 0, false), (23, 1, false)] := by kernel_rfl

theorem eqIn_sw (w : World) (a b c d : Int) : (Op.equalIn 10000 60 (.agg #[.int .u64 a, .int .u64 b]) (.agg #[.int .u64 c, .int .u64 d])).run Tryd.prog w = .ok (a == c && b == d) w := by
  rw [run_equalIn_agg w 9999 _ _ _ sw_fields sw_held]
  have h := sw_list
  generalize (Tryd.prog.fieldsOf 60).toList = fs at h ⊢
  obtain ⟨f, g, rfl⟩ : ∃ f g, fs = [f, g] := by
    have hl := congrArg List.length h
    rw [List.length_map] at hl
    match fs, hl with
    | [f, g], _ => exact ⟨f, g, rfl⟩
    | [], hl => simp at hl
    | [_], hl => simp at hl
    | _ :: _ :: _ :: _, hl => simp at hl
  simp only [List.map_cons, List.map_nil, List.cons.injEq, Prod.mk.injEq, and_true] at h
  obtain ⟨⟨f1, f2, f3⟩, g1, g2, g3⟩ := h
  have uU := Tryd.underlying23
  by_cases h1 : a = c
  · by_cases h2 : b = d
    · simp [Op.eqFields, f1, f2, g1, g2, beq_eq_false_iff_ne.1 f3, beq_eq_false_iff_ne.1 g3, part, go_sem, h1, h2]
    · simp [Op.eqFields, f1, f2, g1, g2, beq_eq_false_iff_ne.1 f3, beq_eq_false_iff_ne.1 g3, part, go_sem, h1, h2]
  · simp [Op.eqFields, f1, f2, beq_eq_false_iff_ne.1 f3, part, go_sem, h1]

theorem sw_len (w : World) (l m : Tl) (v v' : Value) (h : Row2 .u64 60 w v l) (h' : Row2 .u64 60 w v' m) (hne : l.length ≠ m.length) :
    Calls Tryd.prog 16 #[v, v'] w fun e w' => e = .returned (.bool false) ∧ w' = w := by
  obtain ⟨a, c, rfl, _⟩ := row_shape h
  obtain ⟨a', c', rfl, _⟩ := row_shape h'
  have hb : ((l.length : Int) != m.length) = true := by simp; omega
  clear h h'
  generalize l.length = n at *
  generalize m.length = n' at *
  go_enter Tryd.func16, Tryd.ntmps16
  go_wp2
  go_ret
  exact ⟨rfl, rfl⟩

set_option maxRecDepth 100000 in
theorem sw_any {w : World} {l m : Tl} {v v' : Value} (h : Row2 .u64 60 w v l) (h' : Row2 .u64 60 w v' m) (few : l.length ≤ 100000) :
    Calls Tryd.prog 16 #[v, v'] w fun e w' => e = .returned (.bool (decide (l = m))) ∧ Keeps (fun _ => False) w w' := by
  by_cases hne : l.length ≠ m.length
  · rw [decide_eq_false (fun e => hne (by rw [e]))]
    exact (sw_len w l m v v' h h' hne).mono fun _ _ ⟨h1, h2⟩ => ⟨h1, by rw [h2]; exact Keeps.refl _ _⟩
  obtain ⟨n, hn⟩ : ∃ n, l.length = n := ⟨_, rfl⟩
  have hm : m.length = n := by omega
  have hE := eqIn_sw
  have hg := sw_guard
  obtain ⟨a, c, rfl, ha⟩ := row_shape h
  obtain ⟨a', c', rfl, ha'⟩ := row_shape h'
  rw [hn] at ha few
  rw [hm] at ha'
  have h1 := Lib.hid h
  have h2 := Lib.hid h'
  have hlm := Lib.hid (tl_eq hn hm)
  have hn' := Lib.hid hn
  have hm' := Lib.hid hm
  have hb : ((n : Int) != n) = false := by simp
  obtain ⟨r, hr⟩ : ∃ r, decide (l = m) = r := ⟨_, rfl⟩
  rw [hn, hm, hr]
  have hr' := Lib.hid hr
  clear hne hr h h' hn hm
  go_enter Tryd.func16, Tryd.ntmps16
  go_wp2_with fail
  go_loopw [5] (fun iv wr => ∃ i : Nat, iv = .int .i64 i ∧ i ≤ n ∧ (∀ k, k < i → l[k]? = m[k]?) ∧ Keeps (fun _ => False) w wr) (fun iv _ => n - (intOf iv).toNat)
  case atStart => exact ⟨0, rfl, Nat.zero_le _, fun k h => absurd h (Nat.not_lt_zero _), Keeps.refl _ _⟩
  case round =>
    obtain ⟨i, rfl, hi, hk, hK⟩ := hrel
    have K1 := Lib.hid hK
    have k1 := Lib.hid hk
    clear hK hk
    by_cases hin : i < n
    · have hin' : (i : Int) < (n : Int) := by omega
      obtain ⟨b, rfl⟩ := ha (by omega)
      obtain ⟨b', rfl⟩ := ha' (by omega)
      obtain ⟨t1, t2, ht⟩ : ∃ t1 t2, l[i]? = some (t1, t2) := ⟨_, _, List.getElem?_eq_getElem (by rw [hn'.out]; exact hin)⟩
      obtain ⟨u1, u2, hu⟩ : ∃ u1 u2, m[i]? = some (u1, u2) := ⟨_, _, List.getElem?_eq_getElem (by rw [hm'.out]; exact hin)⟩
      have K2 := K1.out.drew
      have q1 := World.ownsRow.cellAt h1.out
      have q2 := World.ownsRow.cellAt h2.out
      have z1 := hn'.out
      have z2 := hm'.out
      have w1 := (q1 (i * 2) (by omega)).trans (cells2_fst _ _ i _ ht)
      have w2 := (q1 (i * 2 + 1) (by omega)).trans (cells2_snd _ _ i _ ht)
      have w3 := (q2 (i * 2) (by omega)).trans (cells2_fst _ _ i _ hu)
      have w4 := (q2 (i * 2 + 1) (by omega)).trans (cells2_snd _ _ i _ hu)
      have x1 := (K2.cell (cell_lt w1) id).trans w1
      have x2 := (K2.cell (cell_lt w2) id).trans w2
      have y1 := (K2.cell (cell_lt w3) id).trans w3
      have y2 := (K2.cell (cell_lt w4) id).trans w4
      have ht' := Lib.hid ht
      have hu' := Lib.hid hu
      clear K2 q1 q2 w1 w2 w3 w4 ht hu z1 z2
      by_cases he : t1 = u1 ∧ t2 = u2
      · obtain ⟨rfl, rfl⟩ := he
        go_wp2_with fail
        go_region
        go_wp2_with fail
        go_roundw
        case rel =>
          have k2 : ∀ k, k < i + 1 → l[k]? = m[k]? := fun k hk => by
            rcases Nat.lt_or_ge k i with h | h
            · exact k1.out k h
            · obtain rfl : k = i := by omega
              rw [ht'.out, hu'.out]
          exact ⟨i + 1, by go_num, by omega, k2, K1.out.drew⟩
        case measure => simp [intOf]; omega
      · have hb1 : (t1 == u1 && t2 == u2) = false := by
          rw [← Bool.not_eq_true]
          simpa using he
        have hr2 : r = false := by
          rw [← hr'.out]
          exact decide_eq_false fun e => he (by
            have := hlm.out.1 e i (by omega)
            rw [ht'.out, hu'.out] at this
            injection this with this
            injection this with h1 h2
            exact ⟨h1, h2⟩)
        subst hr2
        clear he
        go_wp2_with fail
        go_region
        go_wp2_with fail
        go_ret
        exact ⟨rfl, K1.out.drew⟩
    · have hr2 : r = true := by
        rw [← hr'.out]
        exact decide_eq_true (hlm.out.2 fun k hk => k1.out k (by omega))
      subst hr2
      have hin' : ¬ (i : Int) < (n : Int) := by omega
      go_wp2_with fail
      go_ret
      exact ⟨rfl, K1.out⟩
end Go.Proofs.YtkolkimmhlmlgaaDoor
