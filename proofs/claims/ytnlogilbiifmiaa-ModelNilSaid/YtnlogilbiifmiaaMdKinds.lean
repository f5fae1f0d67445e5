/-
  make and copy of rows of ints, make of rows of maps, as equations; Kinds by contract.
-/
import Derived.Test.YtnlogilbiifmiaaMdOps
import Derived.Laws.CopyRow
import Derived.Laws.MakeOwn
namespace Go.Proofs.Ytnlogilbiifmiaa
open Go.RowKit Go.Maps Go.Extern.Stop Go.Stop Go.Extern

/-- A row that is laid whole. -/
theorem row_of {α : Type} (K : RK α) {w : World} {g n : Nat} {l : List α} (h : Whole w g K.e (K.cs l).toArray) (hn : l.length = n) (few : n ≤ 100000) : K.Row w (.slice (some ⟨g, 0, none⟩) n n) l := by
  subst hn
  refine ⟨by rw [K.len], .inr ⟨g, l.length, _, rfl, Nat.zero_le _, h, Nat.le_refl _, by unfold maxLen; omega, by simp [K.len], ?_⟩⟩
  rw [List.take_of_length_le (by rw [Array.length_toList]; simp [K.len])]

theorem row_addr {w : World} {e : TypeId} {base size : Nat} {ad : Addr} {n c m : Nat} {xs : List Value} (h : w.ownsRow base e size (.slice (some ad) n c) m xs) : ∃ g, ad = ⟨g, 0, none⟩ := by
  rcases h.2 with ⟨h1, _⟩ | ⟨g, cap, cur, hv, _⟩
  · cases h1
  · injection hv with hv
    injection hv with hv
    exact ⟨g, hv⟩

theorem run_makeIs (n : Nat) (hn : n ≤ 100000) :
    ∃ cur, cur.size = n ∧ ∀ w : World, (Instr.makeSlice 38 (.int .i64 (n : Int)) (.int .i64 (n : Int))).run Try.prog w = .ok (.slice (some ⟨w.heap.size, 0, none⟩) n n) (w.alloc (.cells cur 3)) := by
  obtain ⟨i, hi, hz, hs, hb⟩ := info_parts intK.info
  have hr := fun w => run_make (P := Try.prog) w intK.T intK.e i _ intK.hu hi hz .i64 .i64 n n (by omega) (Int.le_refl _) (by
    rw [hb]
    show ((8 : Nat) : Int) * (n : Int) ≤ _
    omega) (by omega)
  have hs' : i.size = 1 := hs
  simp only [Int.toNat_natCast, hs', Nat.mul_one] at hr
  exact ⟨_, by simp [madeCells, intK], hr⟩
theorem run_makeI (n : Nat) (hn : n ≤ 100000) (w : World) :
    ∃ cur, cur.size = n ∧ (Instr.makeSlice 38 (.int .i64 (n : Int)) (.int .i64 (n : Int))).run Try.prog w = .ok (.slice (some ⟨w.heap.size, 0, none⟩) n n) (w.alloc (.cells cur 3)) := by
  obtain ⟨cur, h1, h2⟩ := run_makeIs n hn
  exact ⟨cur, h1, h2 w⟩

/-- The cells of a row of maps, b maps made, n in all. -/
def mapCells (bs : List Nat) (n : Nat) : Array Value := ((bs.map fun b => Value.map (some b)) ++ List.replicate (n - bs.length) (Value.map none)).toArray

theorem run_makeM (n : Nat) (hn : n ≤ 100000) (w : World) :
    (Instr.makeSlice 54 (.int .i64 (n : Int)) (.int .i64 (n : Int))).run Try.prog w = .ok (.slice (some ⟨w.heap.size, 0, none⟩) n n) (w.alloc (.cells (mapCells [] n) 42)) := by
  obtain ⟨i, hi, hz, hs, hb⟩ := info_parts collK.info
  have hr := run_make (P := Try.prog) w collK.T collK.e i _ collK.hu hi hz .i64 .i64 n n (by omega) (Int.le_refl _) (by
    rw [hb]
    show ((8 : Nat) : Int) * (n : Int) ≤ _
    omega) (by omega)
  have hs' : i.size = 1 := hs
  simp only [Int.toNat_natCast, hs', Nat.mul_one] at hr
  have e : madeCells collK.z.cells n = mapCells [] n := by
    unfold madeCells mapCells
    refine Array.ext' ?_
    refine List.ext_getElem (by simp) fun j h1 h2 => ?_
    simp [collK, Value.cells, Nat.mod_one]
  rw [e] at hr
  exact hr

theorem mapCells_set {bs : List Nat} {n b : Nat} (h : bs.length < n) : (mapCells bs n).setIfInBounds bs.length (.map (some b)) = mapCells (bs ++ [b]) n := by
  unfold mapCells
  refine Array.ext' ?_
  have e : n - bs.length = (n - (bs.length + 1)) + 1 := by omega
  simp only [Array.toList_setIfInBounds, List.length_append, List.length_cons, List.length_nil, List.map_append, List.map_cons, List.map_nil]
  rw [e, List.replicate_succ, List.set_append_right _ _ (by simp)]
  simp
theorem mapCells_at {bs : List Nat} {n j : Nat} (hb : bs.length = j) (h : j < n) : (mapCells bs n)[j]? = some (.map none) := by
  unfold mapCells
  rw [List.getElem?_toArray, List.getElem?_append_right (by simp [hb]), List.getElem?_replicate, if_pos (by simp [hb]; omega)]
theorem mapCells_full {bs : List Nat} {n : Nat} (h : bs.length = n) : mapCells bs n = (collK.cs bs).toArray := by
  unfold mapCells
  rw [h, Nat.sub_self]
  simp [collK]

/-- copy of a row of ints. -/
theorem run_copyI {w : World} {g n c : Nat} {cur : Array Value} {K : List Int} {o : Option Addr} (hg : Whole w g 3 cur) (hcur : cur.size = n) (hn : K.length = n) (hsrc : ∀ ad, o = some ad → ∀ j u, (intK.cs K)[j]? = some u → w.cell? (ad.add j) = some u) (h0 : o = none → n = 0) (ty : TypeId) :
    ∃ w', (Builtin.copy_ #[38, 38] ty #[.slice (some ⟨g, 0, none⟩) n n, .slice o n c]).run Try.prog w = .ok (.int .i64 (n : Int)) w' ∧ Whole w' g 3 (intK.cs K).toArray ∧ Keeps (fun x => x = g) w w' := by
  have hlen : (intK.cs K).length = n := by rw [intK.len, hn]; show n * 1 = n; omega
  cases o with
  | none =>
    have := h0 rfl
    subst this
    obtain rfl : K = [] := List.eq_nil_of_length_eq_zero hn
    obtain rfl : cur = #[] := Array.eq_empty_of_size_eq_zero hcur
    refine ⟨w, ?_, hg, Keeps.refl _ _⟩
    obtain ⟨i, hi, hz, hs, hb⟩ := info_parts intK.info
    have hi' : Try.prog.info? 3 = some i := hi
    simp [Builtin.copy_, run_underlying Try.underlying38, Builtin.lenOf, Builtin.firstCells, sizeOf, typeInfo, hi', storeCells, goInt]
  | some ad =>
    have hr := run_copy_row (P := Try.prog) w 38 38 ty 3 g 0 n n ad n c cur 3 (intK.cs K) Try.underlying38 (by
      obtain ⟨i, hi, _, hs, _⟩ := info_parts intK.info
      have hi' : Try.prog.info? 3 = some i := hi
      rw [hi']
      exact congrArg some hs) hg (by rw [hlen]; exact (Nat.min_self n).symm) (hsrc ad rfl) (by rw [hlen, hcur]; omega) (intK.one K)
    rw [hlen] at hr
    have e : (cur.toList.take 0 ++ intK.cs K ++ cur.toList.drop (0 + n)).toArray = (intK.cs K).toArray := by
      rw [List.take_zero, List.nil_append, List.drop_eq_nil_of_le (by simp [hcur]), List.append_nil]
    rw [e] at hr
    exact ⟨_, hr, setRow_heap _ _ _ _ _ _ hg, (Keeps.refl (fun x => x = g) w).setRow (fun _ => rfl) _⟩

section
variable {w : World} {s : Nat} {A : M8} {X : Nat → Prop}

theorem kinds_nil (w : World) :
    Calls Try.prog 14 #[.pointer none] w fun e w' => e = .returned (.slice none 0 0) ∧ w = w' := by
  go_enter Try.func14, Try.ntmps14
  go_wp2_with (go_at_call 21; refine (mnone_nil _).mono ?_; rintro e w' ⟨rfl, rfl⟩)
  go_ret
  exact ⟨rfl, rfl⟩

/-- Kinds: a new row, laid whole. -/
theorem kinds_w (h : PM w s A X) :
    Calls Try.prog 14 #[.pointer (some ⟨s, 0, none⟩)] w fun e w' => e = .returned (.slice (some ⟨w.heap.size, 0, none⟩) A.K.length A.K.length) ∧ Whole w' w.heap.size 3 (intK.cs A.K).toArray ∧ Keeps (fun _ => False) w w' := by
  obtain ⟨vK, gC, cap, bs, h⟩ := h
  have few : A.K.length ≤ 8 := by have := h.ok.len; have := h.ok.few; omega
  obtain ⟨o, ck, rfl, ho⟩ := row_shape h.kinds
  have c0 : w.cell? ⟨s, 0, none⟩ = some (.slice o A.K.length ck) := h.blk.at_ 0
  have c1 : w.cell? ⟨s, 1, none⟩ = some (.slice (some ⟨gC, 0, none⟩) bs.length cap) := h.blk.at_ 1
  have hn := Lib.hid (mnone_there w c1)
  obtain ⟨cur, hcur, hmk⟩ := run_makeI A.K.length (by omega) w
  have lt := cell_lt c0
  have hm := Whole.made w 3 cur
  have k1 : Keeps (fun _ => False) w (w.alloc (.cells cur 3)) := (Keeps.refl _ w).alloc _
  have hsrc : ∀ ad, o = some ad → ∀ j u, (intK.cs A.K)[j]? = some u → (w.alloc (.cells cur 3)).cell? (ad.add j) = some u := fun ad ha j u hu => by
    subst ha
    obtain ⟨g, rfl⟩ := row_addr h.kinds
    exact World.ownsRow.cells (ownsRow_keeps h.kinds k1 fun _ _ => id) rfl j u hu
  have h0 : o = none → A.K.length = 0 := fun e => by
    rcases Nat.eq_zero_or_pos A.K.length with h | h
    · exact h
    · obtain ⟨g, hg⟩ := ho h
      rw [hg] at e
      cases e
  obtain ⟨w2, hcp, hW, hK⟩ := run_copyI (ty := 3) (c := ck) hm hcur rfl hsrc h0
  have W2 := Lib.hid hW
  have K2 := Lib.hid (k1.trans hK fun x hx e => by omega)
  generalize A.K.length = n at *
  clear h hm hcur hsrc h0 hW hK k1 ho
  go_enter Try.func14, Try.ntmps14
  go_wp2_with (go_at_call 21; refine hn.out.mono ?_; rintro e w' ⟨rfl, rfl⟩)
  go_ret
  exact ⟨rfl, W2.out, K2.out⟩

theorem kinds_m (h : PM w s A X) :
    Calls Try.prog 14 #[.pointer (some ⟨s, 0, none⟩)] w fun e w' => ∃ u, e = .returned u ∧ IRow w' u A.K ∧ (∀ g, u.ownBlock = some g → w.heap.size ≤ g) ∧ Keeps (fun _ => False) w w' := by
  have few : A.K.length ≤ 8 := by have := h.ok.len; have := h.ok.few; omega
  exact (kinds_w h).mono fun e w' ⟨h1, h2, h3⟩ => ⟨_, h1, row_of intK h2 rfl (by omega), fun g hg => by simp [Value.ownBlock] at hg; omega, h3⟩
end
end Go.Proofs.Ytnlogilbiifmiaa
