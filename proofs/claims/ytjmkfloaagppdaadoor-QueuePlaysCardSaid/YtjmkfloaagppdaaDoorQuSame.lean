/-
  concordref04.Same of two slices of timers, wherever they lie: whether the lists are the same; concordref04.Ahead.
-/
import Derived.Test.YtjmkfloaagppdaaDoorQuDue
import Derived.Test.YtjmkfloaagppdaaDoorBkArgs
import Derived.Laws.StructEq
namespace Go.Proofs.YtjmkfloaagppdaaDoor
open Go.RowKit Go.Extern.Stop Go.Stop Go.Extern

/-- A slice that reads as the timers l. -/
def Rd (w : World) (v : Value) (l : List Tm) : Prop :=
  ∃ a c, v = .slice a l.length c ∧ (l = [] ∨ ∃ b off, a = some ⟨b, off, none⟩ ∧ ∀ k, k < l.length → w.cell? ⟨b, off + k * 2, none⟩ = some (.int .i64 (at_ l k).1) ∧ w.cell? ⟨b, off + k * 2 + 1, none⟩ = some (.int .i64 (at_ l k).2))

theorem Rd.keeps {w w' : World} {v : Value} {l : List Tm} {S : Nat → Prop} (h : Rd w v l) (k : Keeps S w w') (hS : ∀ b off n c, v = .slice (some ⟨b, off, none⟩) n c → ¬ S b) : Rd w' v l := by
  obtain ⟨a, c, rfl, h⟩ := h
  refine ⟨a, c, rfl, ?_⟩
  rcases h with h | ⟨b, off, rfl, h⟩
  · exact .inl h
  · have hb := hS b off _ c rfl
    exact .inr ⟨b, off, rfl, fun i hi => ⟨(k.cell (p := ⟨b, _, none⟩) (cell_lt (h i hi).1) hb).trans (h i hi).1, (k.cell (p := ⟨b, _, none⟩) (cell_lt (h i hi).2) hb).trans (h i hi).2⟩⟩
theorem Rd.same {w w' : World} {v : Value} {l : List Tm} (h : Rd w v l) (k : Keeps (fun _ => False) w w') : Rd w' v l := h.keeps k fun _ _ _ _ _ => id

theorem TRow.rd {w : World} {v : Value} {l : List Tm} (h : TRow w v l) : Rd w v l := by
  obtain ⟨o, c, rfl, ho⟩ := h.shape
  refine ⟨o, c, rfl, ?_⟩
  cases l with
  | nil => exact .inl rfl
  | cons t l =>
    obtain ⟨g, rfl⟩ := ho (by simp)
    exact .inr ⟨g, 0, rfl, fun k hk => by rw [Nat.zero_add]; exact ⟨TRow.when h k hk, TRow.id h k hk⟩⟩
theorem Own.rd {w : World} {v : Value} {l : List Tm} {B : Nat} (h : Own w v l B) : Rd w v l := TRow.rd h.1

theorem tm_fields : Tryd.prog.underlying 31 = some (.struct (Tryd.prog.fieldsOf 31)) := by kernel_rfl
theorem tm_held : Tryd.prog.stoodInHeld 31 = false := by kernel_rfl
theorem tm_guard : Tryd.prog.eqGuardType Tryd.prog.depth 31 = false := by kernel_rfl
theorem tm_list : ((Tryd.prog.fieldsOf 31).toList.map fun f => (f.type, f.offset, f.name == "_")) = [(3, 0, false), (3, 1, false)] := by kernel_rfl

theorem eqIn_tm (w : World) (a b c d : Int) : (Op.equalIn 10000 31 (.agg #[.int .i64 a, .int .i64 b]) (.agg #[.int .i64 c, .int .i64 d])).run Tryd.prog w = .ok (a == c && b == d) w := by
  rw [run_equalIn_agg w 9999 _ _ _ tm_fields tm_held]
  have h := tm_list
  generalize (Tryd.prog.fieldsOf 31).toList = fs at h ⊢
  obtain ⟨f, g, rfl⟩ : ∃ f g, fs = [f, g] := by
    have hl := congrArg List.length h
    rw [List.length_map] at hl
    match fs, hl with
    | [f, g], _ => exact ⟨f, g, rfl⟩
    | [], hl => simp at hl
    | [_], hl => simp at hl
    | _ :: _ :: _ :: _, hl => simp at hl
  simp only [List.map_cons, List.map_nil, List.cons.injEq, Prod.mk.injEq, and_true] at h
  obtain ⟨⟨f1, f2, f3⟩, g1, g2, g3⟩ := h
  have uI := Tryd.underlying3
  by_cases h1 : a = c
  · by_cases h2 : b = d
    · simp [Op.eqFields, f1, f2, g1, g2, beq_eq_false_iff_ne.1 f3, beq_eq_false_iff_ne.1 g3, part, go_sem, h1, h2]
    · simp [Op.eqFields, f1, f2, g1, g2, beq_eq_false_iff_ne.1 f3, beq_eq_false_iff_ne.1 g3, part, go_sem, h1, h2]
  · simp [Op.eqFields, f1, f2, beq_eq_false_iff_ne.1 f3, part, go_sem, h1]

theorem same_len (w : World) (l m : List Tm) (v v' : Value) (h : Rd w v l) (h' : Rd w v' m) (hne : l.length ≠ m.length) :
    Calls Tryd.prog 14 #[v, v'] w fun e w' => e = .returned (.bool false) ∧ w' = w := by
  obtain ⟨a, c, rfl, _⟩ := h
  obtain ⟨a', c', rfl, _⟩ := h'
  have hb : ((l.length : Int) != m.length) = true := by simp; omega
  generalize l.length = n at *
  generalize m.length = n' at *
  go_enter Tryd.func14, Tryd.ntmps14
  go_wp2
  go_ret
  exact ⟨rfl, rfl⟩

theorem same_any (w : World) (l m : List Tm) (v v' : Value) (h : Rd w v l) (h' : Rd w v' m) (few : l.length ≤ 100000) :
    Calls Tryd.prog 14 #[v, v'] w fun e w' => e = .returned (.bool (decide (l = m))) ∧ Keeps (fun _ => False) w w' := by
  by_cases hne : l.length ≠ m.length
  · rw [decide_eq_false (fun e => hne (by rw [e]))]
    exact (same_len w l m v v' h h' hne).mono fun _ _ ⟨h1, h2⟩ => ⟨h1, by rw [h2]; exact Keeps.refl _ _⟩
  have hn : m.length = l.length := by omega
  have hE := eqIn_tm
  have hg := tm_guard
  obtain ⟨a, c, rfl, ha⟩ := h
  obtain ⟨a', c', rfl, ha'⟩ := h'
  have ha1 := Lib.hid ha
  have ha2 := Lib.hid ha'
  have hlm := Lib.hid (show l = m ↔ ∀ k, k < l.length → at_ l k = at_ m k from ⟨fun e k _ => by rw [e], fun h => ext_at hn.symm h⟩)
  clear hne ha ha'
  rw [hn] at ha2 ⊢
  have hb : ((l.length : Int) != l.length) = false := by simp
  obtain ⟨r, hr⟩ : ∃ r, decide (l = m) = r := ⟨_, rfl⟩
  rw [hr]
  have hr' := Lib.hid hr
  have hl0 := Lib.hid (show l = [] ↔ l.length = 0 from List.length_eq_zero_iff.symm)
  have hm0 := Lib.hid (show m = [] ↔ l.length = 0 from by rw [← hn]; exact List.length_eq_zero_iff.symm)
  clear hr hn
  obtain ⟨n, hnn⟩ : ∃ n, l.length = n := ⟨_, rfl⟩
  rw [hnn] at hl0 hm0 hlm hb ha1 ha2 few ⊢
  clear hnn
  go_enter Tryd.func14, Tryd.ntmps14
  go_wp2_with fail
  go_loopw [5] (fun iv wr => ∃ i : Nat, iv = .int .i64 i ∧ i ≤ n ∧ (∀ k, k < i → at_ l k = at_ m k) ∧ Keeps (fun _ => False) w wr) (fun iv _ => n - (intOf iv).toNat)
  case atStart => exact ⟨0, rfl, Nat.zero_le _, fun k h => absurd h (Nat.not_lt_zero _), Keeps.refl _ _⟩
  case round =>
    obtain ⟨i, rfl, hi, hk, hK⟩ := hrel
    have K1 := Lib.hid hK
    have k1 := Lib.hid hk
    clear hK hk
    by_cases hin : i < n
    · have hin' : (i : Int) < (n : Int) := by omega
      obtain ⟨b, off, rfl, hc⟩ := ha1.out.resolve_left (fun e => by have := hl0.out.1 e; omega)
      obtain ⟨b', off', rfl, hc'⟩ := ha2.out.resolve_left (fun e => by have := hm0.out.1 e; omega)
      have K2 := K1.out.drew
      have x1 := (K2.cell (p := ⟨b, off + i * 2, none⟩) (cell_lt (hc i (by omega)).1) id).trans (hc i (by omega)).1
      have x2 := (K2.cell (p := ⟨b, off + i * 2 + 1, none⟩) (cell_lt (hc i (by omega)).2) id).trans (hc i (by omega)).2
      have y1 := (K2.cell (p := ⟨b', off' + i * 2, none⟩) (cell_lt (hc' i (by omega)).1) id).trans (hc' i (by omega)).1
      have y2 := (K2.cell (p := ⟨b', off' + i * 2 + 1, none⟩) (cell_lt (hc' i (by omega)).2) id).trans (hc' i (by omega)).2
      have ht := Lib.hid (show at_ l i = at_ m i ↔ ((at_ l i).1 = (at_ m i).1 ∧ (at_ l i).2 = (at_ m i).2) from Prod.ext_iff)
      clear K2 hc hc'
      generalize hu : at_ l i = t at *
      generalize hv : at_ m i = u at *
      have hu' := Lib.hid hu
      have hv' := Lib.hid hv
      clear hu hv
      obtain ⟨t1, t2⟩ := t
      obtain ⟨u1, u2⟩ := u
      simp only at x1 x2 y1 y2
      by_cases he : t1 = u1 ∧ t2 = u2
      · obtain ⟨rfl, rfl⟩ := he
        go_wp2_with fail
        go_region
        go_wp2_with fail
        go_roundw
        case rel =>
          have k2 : ∀ k, k < i + 1 → at_ l k = at_ m k := fun k hk => by
            rcases Nat.lt_or_ge k i with h | h
            · exact k1.out k h
            · obtain rfl : k = i := by omega
              rw [hu'.out, hv'.out]
          exact ⟨i + 1, by go_num, by omega, k2, K1.out.drew⟩
        case measure => simp [intOf]; omega
      · have hb1 : (t1 == u1 && t2 == u2) = false := by
          rw [← Bool.not_eq_true]
          simpa using he
        have hr2 : r = false := by
          rw [← hr'.out]
          exact decide_eq_false fun e => he (by have := hlm.out.1 e i (by omega); rw [hu'.out, hv'.out] at this; exact ⟨congrArg Prod.fst this, congrArg Prod.snd this⟩)
        subst hr2
        clear he
        go_wp2_with fail
        go_region
        go_wp2_with fail
        go_ret
        exact ⟨rfl, K1.out.drew⟩
    · have hr2 : r = true := by
        rw [← hr'.out]
        exact decide_eq_true (hlm.out.2 fun k hk => k1.out k (by omega))
      subst hr2
      have hin' : ¬ (i : Int) < (n : Int) := by omega
      go_wp2_with fail
      go_ret
      exact ⟨rfl, K1.out⟩
end Go.Proofs.YtjmkfloaagppdaaDoor
