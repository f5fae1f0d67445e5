/-
  make and copy of rows of ints, make of rows of maps, as equations; Kinds by contract.
  New of the program's states by contract.
-/
import Derived.Test.YthidipigpfcbbaaGreatDoorMdOps
import Derived.Laws.CopyRow
import Derived.Laws.MakeOwn
import Derived.Deep.DeepCutAuto
import Derived.Deep.CutBlock
import Derived.Deep.CutRange
import Derived.Deep.RegionHeld3

namespace Go.Proofs.YthidipigpfcbbaaGreatDoor
open Go.RowKit Go.Maps Go.Extern.Stop Go.Stop Go.Extern

theorem row_addr {w : World} {e : TypeId} {base size : Nat} {ad : Addr} {n c m : Nat} {xs : List Value} (h : w.ownsRow base e size (.slice (some ad) n c) m xs) : ∃ g, ad = ⟨g, 0, none⟩ := by
  rcases h.2 with ⟨h1, _⟩ | ⟨g, cap, cur, hv, _⟩
  · cases h1
  · injection hv with hv
    injection hv with hv
    exact ⟨g, hv⟩

theorem run_makeIs (n : Nat) (hn : n ≤ 1000000) :
    ∃ cur, cur.size = n ∧ ∀ w : World, (Instr.makeSlice 22 (.int .i64 (n : Int)) (.int .i64 (n : Int))).run Tryz.prog w = .ok (.slice (some ⟨w.heap.size, 0, none⟩) n n) (w.alloc (.cells cur 3)) := by
  obtain ⟨i, hi, hz, hs, hb⟩ := info_parts intK.info
  have hr := fun w => run_make (P := Tryz.prog) w intK.T intK.e i _ intK.hu hi hz .i64 .i64 n n (by omega) (Int.le_refl _) (by
    rw [hb]
    show ((8 : Nat) : Int) * (n : Int) ≤ _
    omega) (by omega)
  have hs' : i.size = 1 := hs
  simp only [Int.toNat_natCast, hs', Nat.mul_one] at hr
  exact ⟨_, by simp [madeCells, intK], hr⟩
theorem run_makeI (n : Nat) (hn : n ≤ 1000000) (w : World) :
    ∃ cur, cur.size = n ∧ (Instr.makeSlice 22 (.int .i64 (n : Int)) (.int .i64 (n : Int))).run Tryz.prog w = .ok (.slice (some ⟨w.heap.size, 0, none⟩) n n) (w.alloc (.cells cur 3)) := by
  obtain ⟨cur, h1, h2⟩ := run_makeIs n hn
  exact ⟨cur, h1, h2 w⟩

/-- The cells of a row of maps, b maps made, n in all. -/
def mapCells (bs : List Nat) (n : Nat) : Array Value := ((bs.map fun b => Value.map (some b)) ++ List.replicate (n - bs.length) (Value.map none)).toArray

theorem run_makeM (n : Nat) (hn : n ≤ 1000000) (w : World) :
    (Instr.makeSlice 79 (.int .i64 (n : Int)) (.int .i64 (n : Int))).run Tryz.prog w = .ok (.slice (some ⟨w.heap.size, 0, none⟩) n n) (w.alloc (.cells (mapCells [] n) 83)) := by
  obtain ⟨i, hi, hz, hs, hb⟩ := info_parts collK.info
  have hr := run_make (P := Tryz.prog) w collK.T collK.e i _ collK.hu hi hz .i64 .i64 n n (by omega) (Int.le_refl _) (by
    rw [hb]
    show ((8 : Nat) : Int) * (n : Int) ≤ _
    omega) (by omega)
  have hs' : i.size = 1 := hs
  simp only [Int.toNat_natCast, hs', Nat.mul_one] at hr
  have e : madeCells collK.z.cells n = mapCells [] n := by
    unfold madeCells mapCells
    refine Array.ext' ?_
    refine List.ext_getElem (by simp) fun j h1 h2 => ?_
    simp [collK, Value.cells, Nat.mod_one]
  rw [e] at hr
  exact hr

theorem mapCells_set {bs : List Nat} {n b : Nat} (h : bs.length < n) : (mapCells bs n).setIfInBounds bs.length (.map (some b)) = mapCells (bs ++ [b]) n := by
  unfold mapCells
  refine Array.ext' ?_
  have e : n - bs.length = (n - (bs.length + 1)) + 1 := by omega
  simp only [Array.toList_setIfInBounds, List.length_append, List.length_cons, List.length_nil, List.map_append, List.map_cons, List.map_nil]
  rw [e, List.replicate_succ, List.set_append_right _ _ (by simp)]
  simp
theorem mapCells_at {bs : List Nat} {n j : Nat} (hb : bs.length = j) (h : j < n) : (mapCells bs n)[j]? = some (.map none) := by
  unfold mapCells
  rw [List.getElem?_toArray, List.getElem?_append_right (by simp [hb]), List.getElem?_replicate, if_pos (by simp [hb]; omega)]
theorem mapCells_full {bs : List Nat} {n : Nat} (h : bs.length = n) : mapCells bs n = (collK.cs bs).toArray := by
  unfold mapCells
  rw [h, Nat.sub_self]
  simp [collK]

/-- copy of a row of ints. -/
theorem run_copyI {w : World} {g n c : Nat} {cur : Array Value} {K : List Int} {o : Option Addr} (hg : Whole w g 3 cur) (hcur : cur.size = n) (hn : K.length = n) (hsrc : ∀ ad, o = some ad → ∀ j u, (intK.cs K)[j]? = some u → w.cell? (ad.add j) = some u) (h0 : o = none → n = 0) (ty : TypeId) :
    ∃ w', (Builtin.copy_ #[22, 22] ty #[.slice (some ⟨g, 0, none⟩) n n, .slice o n c]).run Tryz.prog w = .ok (.int .i64 (n : Int)) w' ∧ Whole w' g 3 (intK.cs K).toArray ∧ Keeps (fun x => x = g) w w' := by
  have hlen : (intK.cs K).length = n := by rw [intK.len, hn]; show n * 1 = n; omega
  cases o with
  | none =>
    have := h0 rfl
    subst this
    obtain rfl : K = [] := List.eq_nil_of_length_eq_zero hn
    obtain rfl : cur = #[] := Array.eq_empty_of_size_eq_zero hcur
    refine ⟨w, ?_, hg, Keeps.refl _ _⟩
    obtain ⟨i, hi, hz, hs, hb⟩ := info_parts intK.info
    have hi' : Tryz.prog.info? 3 = some i := hi
    simp [Builtin.copy_, run_underlying Tryz.underlying22, Builtin.lenOf, Builtin.firstCells, sizeOf, typeInfo, hi', storeCells, goInt]
  | some ad =>
    have hr := run_copy_row (P := Tryz.prog) w 22 22 ty 3 g 0 n n ad n c cur 3 (intK.cs K) Tryz.underlying22 (by
      obtain ⟨i, hi, _, hs, _⟩ := info_parts intK.info
      have hi' : Tryz.prog.info? 3 = some i := hi
      rw [hi']
      exact congrArg some hs) hg (by rw [hlen]; exact (Nat.min_self n).symm) (hsrc ad rfl) (by rw [hlen, hcur]; omega) (intK.one K)
    rw [hlen] at hr
    have e : (cur.toList.take 0 ++ intK.cs K ++ cur.toList.drop (0 + n)).toArray = (intK.cs K).toArray := by
      rw [List.take_zero, List.nil_append, List.drop_eq_nil_of_le (by simp [hcur]), List.append_nil]
    rw [e] at hr
    exact ⟨_, hr, setRow_heap _ _ _ _ _ _ hg, (Keeps.refl (fun x => x = g) w).setRow (fun _ => rfl) _⟩

section
variable {w : World} {s : Nat} {A : M8} {X : Nat → Prop}

theorem kinds_nil (w : World) :
    Calls Tryz.prog 25 #[.pointer none] w fun e w' => e = .returned (.slice none 0 0) ∧ w = w' := by
  go_enter Tryz.func25, Tryz.ntmps25
  go_wp2_with (go_at_call 31; refine (mnone_nil _).mono ?_; rintro e w' ⟨rfl, rfl⟩)
  go_ret
  exact ⟨rfl, rfl⟩

/-- Kinds: a new row, laid whole. -/
theorem kinds_w (h : PM w s A X) :
    Calls Tryz.prog 25 #[.pointer (some ⟨s, 0, none⟩)] w fun e w' => e = .returned (.slice (some ⟨w.heap.size, 0, none⟩) A.K.length A.K.length) ∧ Whole w' w.heap.size 3 (intK.cs A.K).toArray ∧ Keeps (fun _ => False) w w' := by
  obtain ⟨vK, gC, cap, bs, h⟩ := h
  have few : A.K.length ≤ 8 := by have := h.ok.len; have := h.ok.few; omega
  obtain ⟨o, ck, rfl, ho⟩ := row_shape h.kinds
  have c0 : w.cell? ⟨s, 0, none⟩ = some (.slice o A.K.length ck) := h.blk.at_ 0
  have c1 : w.cell? ⟨s, 1, none⟩ = some (.slice (some ⟨gC, 0, none⟩) bs.length cap) := h.blk.at_ 1
  have hn := Lib.hid (mnone_there w c1)
  obtain ⟨cur, hcur, hmk⟩ := run_makeI A.K.length (by omega) w
  have lt := cell_lt c0
  have hm := Whole.made w 3 cur
  have k1 : Keeps (fun _ => False) w (w.alloc (.cells cur 3)) := (Keeps.refl _ w).alloc _
  have hsrc : ∀ ad, o = some ad → ∀ j u, (intK.cs A.K)[j]? = some u → (w.alloc (.cells cur 3)).cell? (ad.add j) = some u := fun ad ha j u hu => by
    subst ha
    obtain ⟨g, rfl⟩ := row_addr h.kinds
    exact World.ownsRow.cells (ownsRow_keeps h.kinds k1 fun _ _ => id) rfl j u hu
  have h0 : o = none → A.K.length = 0 := fun e => by
    rcases Nat.eq_zero_or_pos A.K.length with h | h
    · exact h
    · obtain ⟨g, hg⟩ := ho h
      rw [hg] at e
      cases e
  obtain ⟨w2, hcp, hW, hK⟩ := run_copyI (ty := 3) (c := ck) hm hcur rfl hsrc h0
  have W2 := Lib.hid hW
  have K2 := Lib.hid (k1.trans hK fun x hx e => by omega)
  generalize A.K.length = n at *
  clear h hm hcur hsrc h0 hW hK k1 ho
  go_enter Tryz.func25, Tryz.ntmps25
  go_wp2_with (go_at_call 31; refine hn.out.mono ?_; rintro e w' ⟨rfl, rfl⟩)
  go_ret
  exact ⟨rfl, W2.out, K2.out⟩

theorem kinds_m (h : PM w s A X) :
    Calls Tryz.prog 25 #[.pointer (some ⟨s, 0, none⟩)] w fun e w' => ∃ u, e = .returned u ∧ IRow w' u A.K ∧ (∀ g, u.ownBlock = some g → w.heap.size ≤ g) ∧ Keeps (fun _ => False) w w' := by
  have few : A.K.length ≤ 8 := by have := h.ok.len; have := h.ok.few; omega
  exact (kinds_w h).mono fun e w' ⟨h1, h2, h3⟩ => ⟨_, h1, row_of intK h2 rfl (by omega), fun g hg => by simp [Value.ownBlock] at hg; omega, h3⟩
end
end Go.Proofs.YthidipigpfcbbaaGreatDoor

namespace Go.Proofs.YthidipigpfcbbaaGreatDoor
open Go.RowKit Go.Maps Go.Extern.Stop Go.Stop Go.Extern

theorem known_any (k : Int) (w : World) :
    Calls Tryz.prog 45 #[.int .i64 k] w fun e w' => e = .returned (.bool (decide (1 ≤ k ∧ k ≤ 3))) ∧ w = w' := by
  by_cases h1 : k = 1
  · subst h1
    go_enter Tryz.func45, Tryz.ntmps45
    go_wp2
    go_ret
    exact ⟨rfl, rfl⟩
  · by_cases h2 : k = 2
    · subst h2
      go_enter Tryz.func45, Tryz.ntmps45
      go_wp2
      go_ret
      exact ⟨rfl, rfl⟩
    · by_cases h3 : k = 3
      · subst h3
        go_enter Tryz.func45, Tryz.ntmps45
        go_wp2
        go_ret
        exact ⟨rfl, rfl⟩
      · rw [decide_eq_false (show ¬ (1 ≤ k ∧ k ≤ 3) by omega)]
        have b1 : (k == 1) = false := by simpa using h1
        have b2 : (k == 2) = false := by simpa using h2
        have b3 : (k == 3) = false := by simpa using h3
        clear h1 h2 h3
        go_enter Tryz.func45, Tryz.ntmps45
        go_wp2
        go_ret
        exact ⟨rfl, rfl⟩

/-- A state that is being made: its block, its kinds' block, its maps' block, those of the maps that are there. -/
structure Raw (w0 w : World) (n sb gk gc : Nat) (bs : List Nat) : Prop where
  blk : Whole w sb 81 #[.slice (some ⟨gk, 0, none⟩) n n, .slice (some ⟨gc, 0, none⟩) n n]
  kinds : ∃ cur, cur.size = n ∧ Whole w gk 3 cur
  colls : Whole w gc 83 (mapCells bs n)
  new_ : w0.heap.size ≤ sb ∧ w0.heap.size ≤ gk ∧ w0.heap.size ≤ gc
  keeps : Keeps (fun _ => False) w0 w

theorem size2 {w : World} {a b : Obj} : ((w.alloc a).alloc b).heap.size = w.heap.size + 1 + 1 := by rw [World.size_alloc, World.size_alloc]
theorem raw_km {w : World} {n : Nat} {cur : Array Value} (h : cur.size = n) : Raw w (((w.alloc (.cells cur 3)).alloc (.cells (mapCells [] n) 83)).alloc (.cells #[.slice (some ⟨w.heap.size, 0, none⟩) n n, .slice (some ⟨w.heap.size + 1, 0, none⟩) n n] 81)).drew n (w.heap.size + 1 + 1) w.heap.size (w.heap.size + 1) [] where
  blk := by have := Whole.made ((w.alloc (.cells cur 3)).alloc (.cells (mapCells [] n) 83)) 81 #[.slice (some ⟨w.heap.size, 0, none⟩) n n, .slice (some ⟨w.heap.size + 1, 0, none⟩) n n]; rw [size2] at this; exact this
  kinds := ⟨cur, h, (((Whole.made w 3 cur).alloc _).alloc _).drew⟩
  colls := by have := (Whole.made (w.alloc (.cells cur 3)) 83 (mapCells [] n)).alloc (.cells #[.slice (some ⟨w.heap.size, 0, none⟩) n n, .slice (some ⟨w.heap.size + 1, 0, none⟩) n n] 81); rw [World.size_alloc] at this; exact this
  new_ := ⟨by omega, by omega, by omega⟩
  keeps := ((((Keeps.refl _ w).alloc _).alloc _).alloc _).drew
theorem raw_mk {w : World} {n : Nat} {cur : Array Value} (h : cur.size = n) : Raw w (((w.alloc (.cells (mapCells [] n) 83)).alloc (.cells cur 3)).alloc (.cells #[.slice (some ⟨w.heap.size + 1, 0, none⟩) n n, .slice (some ⟨w.heap.size, 0, none⟩) n n] 81)).drew n (w.heap.size + 1 + 1) (w.heap.size + 1) w.heap.size [] where
  blk := by have := Whole.made ((w.alloc (.cells (mapCells [] n) 83)).alloc (.cells cur 3)) 81 #[.slice (some ⟨w.heap.size + 1, 0, none⟩) n n, .slice (some ⟨w.heap.size, 0, none⟩) n n]; rw [size2] at this; exact this
  kinds := ⟨cur, h, by have := (Whole.made (w.alloc (.cells (mapCells [] n) 83)) 3 cur).alloc (.cells #[.slice (some ⟨w.heap.size + 1, 0, none⟩) n n, .slice (some ⟨w.heap.size, 0, none⟩) n n] 81); rw [World.size_alloc] at this; exact this⟩
  colls := (((Whole.made w 83 (mapCells [] n)).alloc _).alloc _).drew
  new_ := ⟨by omega, by omega, by omega⟩
  keeps := ((((Keeps.refl _ w).alloc _).alloc _).alloc _).drew

/-- .. with its kinds told. -/
structure Raw2 (w0 w : World) (K : List Int) (n sb gk gc : Nat) (bs : List Nat) (F : Nat → Int → Option Int) : Prop where
  blk : Whole w sb 81 #[.slice (some ⟨gk, 0, none⟩) n n, .slice (some ⟨gc, 0, none⟩) n n]
  kinds : Whole w gk 3 (intK.cs K).toArray
  colls : Whole w gc 83 (mapCells bs n)
  new_ : w0.heap.size ≤ sb ∧ w0.heap.size ≤ gk ∧ w0.heap.size ≤ gc
  keeps : Keeps (fun _ => False) w0 w
  maps : ∀ (i b : Nat), bs[i]? = some b → MH w b (F i) ∧ w0.heap.size ≤ b
  once : bs.Nodup

theorem Raw2.add {w0 w : World} {K : List Int} {n sb gk gc : Nat} {bs : List Nat} {F : Nat → Int → Option Int} (h : Raw2 w0 w K n sb gk gc bs F) (hn : bs.length < n) {w1 : World} {b : Nat} (hb : b = w.heap.size) (k : Keeps (fun _ => False) w w1) (hM : MH w1 b (F bs.length)) :
    Raw2 w0 (w1.setCell ⟨gc, bs.length, none⟩ (.map (some b))) K n sb gk gc (bs ++ [b]) F := by
  subst hb
  have ks : Keeps (fun x => x = gc) w1 (w1.setCell ⟨gc, bs.length, none⟩ (.map (some w.heap.size))) := (Keeps.refl (fun x => x = gc) w1).setCell (p := ⟨gc, bs.length, none⟩) (fun _ => rfl) _
  have lc := h.colls.lt
  refine ⟨(h.blk.keeps k id).keeps ks (h.blk.ne_ h.colls (by decide)), (h.kinds.keeps k id).keeps ks (h.kinds.ne_ h.colls (by decide)), ?_, h.new_, (h.keeps.trans k fun _ _ => id).trans ks fun x hx e => by have := h.new_.2.2; omega, fun i b hb => ?_, ?_⟩
  · have := (h.colls.keeps k id).set_ bs.length (.map (some w.heap.size))
    rw [mapCells_set hn] at this
    exact this
  · rcases Nat.lt_or_ge i bs.length with hi | hi
    · rw [List.getElem?_append_left hi] at hb
      obtain ⟨h1, h2⟩ := h.maps i b hb
      exact ⟨(h1.keeps k id).keeps ks fun e => (h.colls.ne_map h1) e.symm, h2⟩
    · have : i = bs.length := by
        have := (List.getElem?_eq_some_iff.1 hb).1
        simp at this
        omega
      subst this
      rw [List.getElem?_append_right (Nat.le_refl _)] at hb
      simp at hb
      subst hb
      exact ⟨hM.keeps ks (by omega), h.keeps.size⟩
  · refine List.nodup_append.2 ⟨h.once, by simp, fun x hx y hy e => ?_⟩
    simp at hy
    obtain ⟨i, hi⟩ := List.getElem?_of_mem hx
    have := (h.maps i x hi).1.lt
    omega

/-- A state that is made. -/
theorem Raw2.made {w0 w : World} {A : M8} {n sb gk gc : Nat} {bs : List Nat} {F : Nat → Int → Option Int} (h : Raw2 w0 w A.K n sb gk gc bs F) (hn : bs.length = n) (ok : A.Ok) (hl : A.L.length = n) (hF : ∀ (i : Nat) (W : Tl), A.L[i]? = some W → F i = look W) (hk : ∀ k ∈ A.K, 1 ≤ k ∧ k ≤ 3) :
    ∃ X, PM w sb A X ∧ (∀ x, X x → w0.heap.size ≤ x) := by
  subst hn
  have hkl : A.K.length = bs.length := by rw [ok.len, hl]
  have few : bs.length ≤ 8 := by have := ok.few; omega
  refine ⟨fun x => x = sb ∨ x = gk ∨ x = gc ∨ x ∈ bs, ⟨.slice (some ⟨gk, 0, none⟩) bs.length bs.length, gc, bs.length, bs, {
    blk := h.blk
    kinds := row_of intK h.kinds hkl (by omega)
    colls := row_of collK (by have := h.colls; rwa [mapCells_full rfl] at this) rfl (by omega)
    len := hl.symm
    each := fun i b W hb hW => by rw [← hF i W hW]; exact (h.maps i b hb).1
    once := h.once
    inX := ⟨.inl rfl, fun g hg => .inr (.inl (by simp [Value.ownBlock] at hg; exact hg.symm)), .inr (.inr (.inl rfl)), fun b hb => .inr (.inr (.inr hb))⟩
    old := fun x hx => ?_
    ok := ok
    kinds_in := hk }⟩, fun x hx => ?_⟩
  · rcases hx with rfl | rfl | rfl | hx
    · exact h.blk.lt
    · exact h.kinds.lt
    · exact h.colls.lt
    · obtain ⟨i, hi⟩ := List.getElem?_of_mem hx
      exact (h.maps i x hi).1.lt
  · rcases hx with rfl | rfl | rfl | hx
    · exact h.new_.1
    · exact h.new_.2.1
    · exact h.new_.2.2
    · obtain ⟨i, hi⟩ := List.getElem?_of_mem hx
      exact (h.maps i x hi).2

set_option maxRecDepth 100000 in
set_option maxHeartbeats 2000000 in
theorem new_m {w : World} {a : Option Addr} {n cap : Nat} {K : List Int} (h : IntL w a n K) :
    Calls Tryz.prog 23 #[.slice a n cap] w fun e w' =>
      ((mNew K).1 = false ∧ ∃ ev, e = .returned (.tuple #[.pointer none, ev]) ∧ ErrU w.heap.size w' ev (mNew K).2.1 ((mNew K).2.2 : Nat) ∧ Keeps (fun _ => False) w w') ∨
      ((mNew K).1 = true ∧ ∃ s X, e = .returned (.tuple #[.pointer (some ⟨s, 0, none⟩), .nilIface]) ∧ PM w' s (M8.made K) X ∧ (∀ x, X x → w.heap.size ≤ x) ∧ Keeps (fun _ => False) w w') := by
  have few := h.fit
  have hn' := Lib.hid h.len
  have HL := Lib.hid h
  have fl : (n : Int) ≤ 9223372036854775807 := by unfold maxLen at few; omega
  have ho := Lib.hid h.at_
  clear h
  go_enter Tryz.func23, Tryz.ntmps23
  go_wp2_with fail
  go_loop [10] (fun iv => ∃ i : Nat, iv = .int .i64 i ∧ i ≤ n ∧ ∀ (j : Nat) (k : Int), j < i → K[j]? = some k → ¬ (k < 1 ∨ 3 < k)) (fun iv => n - (intOf iv).toNat)
  case atStart => exact ⟨0, rfl, Nat.zero_le _, fun j p h => absurd h (Nat.not_lt_zero _)⟩
  case round =>
    obtain ⟨i, rfl, hi, hk⟩ := hrel
    have K1 := Lib.hid hk
    clear hk
    by_cases hlt : i < n
    · have b1 : (i : Int) < (n : Int) := by omega
      obtain ⟨b, o, rfl, hc⟩ := ho.out (by omega)
      obtain ⟨d, hd⟩ : ∃ d, K[i]? = some d := ⟨_, List.getElem?_eq_getElem (by rw [hn'.out]; exact hlt)⟩
      have d0 := hc i _ hd
      have hd' := Lib.hid hd
      clear hc hd
      have wi : IntKind.i64.wrap ((i : Int) + 1) = ((i + 1 : Nat) : Int) := by rw [show (i : Int) + 1 = ((i + 1 : Nat) : Int) by omega]; exact IntWalk.i64_in _ (by omega)
      by_cases h1 : 1 ≤ d ∧ d ≤ 3
      · have ck := Lib.hid (fun V => known_any d V)
        rw [decide_eq_true h1] at ck
        go_wp2_with (go_at_call 45; refine (ck.out _).mono ?_; rintro e w' ⟨rfl, rfl⟩)
        go_round
        case rel =>
          refine ⟨i + 1, by go_num, by omega, fun j p hj hp => ?_⟩
          rcases Nat.lt_or_ge j i with h | h
          · exact K1.out j p h hp
          · obtain rfl : j = i := by omega
            rw [hd'.out] at hp
            injection hp with hp
            omega
        case measure => simp [intOf]; omega
      · have ck := Lib.hid (fun V => known_any d V)
        rw [decide_eq_false h1] at ck
        have hr := bad_first K1.out hd'.out (show d < 1 ∨ 3 < d by omega)
        have em : mNew K = (false, 17, i + 1) := by unfold mNew; rw [if_pos (by rw [hr]; omega), hr]
        have E := Lib.hid em
        have hW := Lib.hid (show ErrU w.heap.size (w.alloc (.cells #[.int .i64 ((i + 1 : Nat) : Int), .int .i64 17] 105)) (.iface 103 (.pointer (some ⟨w.heap.size, 0, none⟩))) 17 ((i + 1 : Nat) : Int) from .inr (.inr ⟨by decide, by decide, w.heap.size, Nat.le_refl _, rfl, Whole.made _ _ _⟩))
        have hK : Hid (Keeps (fun _ => False) w (w.alloc (.cells #[.int .i64 ((i + 1 : Nat) : Int), .int .i64 17] 105))) := Lib.hid ((Keeps.refl _ w).alloc _)
        clear hr em h1
        go_wp2_with (go_at_call 45; refine (ck.out _).mono ?_; rintro e w' ⟨rfl, rfl⟩)
        go_ret2
        exact .inl ⟨by rw [E.out], _, rfl, by rw [E.out]; exact hW.out, hK.out⟩
    · obtain rfl : i = n := by omega
      have b1 : ¬ (i : Int) < (i : Int) := by omega
      have hr : firstBad K = 0 := bad_none fun j k hj => K1.out j k (by have := (List.getElem?_eq_some_iff.1 hj).1; have := hn'.out; omega) hj
      have hin : ∀ k ∈ K, 1 ≤ k ∧ k ≤ 3 := fun k hk => by
        obtain ⟨j, hj⟩ := List.getElem?_of_mem hk
        have := K1.out j k (by have := (List.getElem?_eq_some_iff.1 hj).1; have := hn'.out; omega) hj
        omega
      have hin' := Lib.hid hin
      by_cases h8 : 8 < i
      · have b8 : (8 : Int) < (i : Int) := by omega
        have em : mNew K = (false, 8, 0) := by unfold mNew; rw [if_neg (by rw [hr]; simp), if_pos (by rw [hn'.out]; exact h8)]
        have E := Lib.hid em
        clear hr em hin
        go_wp2_with fail
        go_ret2
        exact .inl ⟨by rw [E.out], _, rfl, by rw [E.out]; exact .inr (.inl ⟨by decide, by decide, rfl, rfl⟩), Keeps.refl _ _⟩
      · have b8 : ¬ (8 : Int) < (i : Int) := by omega
        have em : mNew K = (true, 0, 0) := by unfold mNew; rw [if_neg (by rw [hr]; simp), if_neg (by rw [hn'.out]; exact h8)]
        have E := Lib.hid em
        obtain ⟨cur, hcur, hmk0⟩ : ∃ cur : Array Value, cur.size = i ∧ ∀ V : World, (Instr.makeSlice 22 (.int .i64 (i : Int)) (.int .i64 (i : Int))).run Tryz.prog V = .ok (.slice (some ⟨V.heap.size, 0, none⟩) i i) (V.alloc (.cells cur 3)) := run_makeIs i (by omega)
        have hmk := hmk0
        have hmm := run_makeM i (by omega)
        have hcur' := Lib.hid hcur
        clear hr em hin hmk0 hcur
        go_upto_region 9 with fail
        go_cut [6] from 28 to 35 (fun sv wx => ∃ sb gk gc, sv = .pointer (some ⟨sb, 0, none⟩) ∧ Raw w wx i sb gk gc [])
        case first =>
          go_region
          · go_wp2_with fail
            go_meet
            case rel => exact ⟨_, _, _, rfl, raw_km hcur'.out⟩
          · go_wp2_with fail
            go_meet
            case rel => exact ⟨_, _, _, rfl, raw_mk hcur'.out⟩
        case rest =>
          obtain ⟨sb, gk, gc, rfl, hR⟩ := hcut
          obtain ⟨cur2, hc2, hG⟩ := hR.kinds
          obtain ⟨w2, hcp, hW, hK⟩ := run_copyI (ty := 3) (c := cap) hG hc2 hn'.out ((HL.out.same hR.keeps).cells) HL.out.none_
          have c0 : wc.cell? ⟨sb, 0, none⟩ = some (.slice (some ⟨gk, 0, none⟩) i i) := hR.blk.at_ 0
          have hk2 : Keeps (fun _ => False) w w2 := hR.keeps.trans hK fun x hx e => by have := hR.new_.2.1; omega
          have R2 : Raw2 w w2 K i sb gk gc [] (fun _ _ => none) := ⟨hR.blk.keeps hK fun e => hR.blk.ne_ hG (by decide) e, hW, hR.colls.keeps hK fun e => hR.colls.ne_ hG (by decide) e, hR.new_, hk2, fun i b hb => by simp at hb, List.nodup_nil⟩
          have c1 : w2.cell? ⟨sb, 1, none⟩ = some (.slice (some ⟨gc, 0, none⟩) i i) := R2.blk.at_ 1
          have R2 := Lib.hid R2
          clear hR hG hW hK hk2 hc2 hmk hmm
          go_wp2_with fail
          go_loopw [47] (fun iv wr => ∃ (j : Nat) (bs : List Nat), iv = .int .i64 j ∧ j ≤ i ∧ bs.length = j ∧ Raw2 w wr K i sb gk gc bs (fun _ _ => none)) (fun iv _ => i - (intOf iv).toNat)
          case atStart => exact ⟨0, [], rfl, Nat.zero_le _, rfl, R2.out⟩
          case round =>
            obtain ⟨j, bs, rfl, hj, hbs, hR⟩ := hrel
            have R3 := Lib.hid hR
            have d1 : wr.cell? ⟨sb, 1, none⟩ = some (.slice (some ⟨gc, 0, none⟩) i i) := hR.blk.at_ 1
            by_cases hjn : j < i
            · have b3 : (j : Int) < (i : Int) := by omega
              have d2 : (wr.alloc (.map #[] 0)).frozen? ⟨gc, j, none⟩ = false := (hR.colls.alloc _).free j
              have d3 : (wr.alloc (.map #[] 0)).cell? ⟨gc, j, none⟩ = some (.map none) := by
                rw [(hR.colls.alloc _).at_ j]
                exact mapCells_at hbs hjn
              have hmm := @run_makeMap Tryz.prog
              have A3 := Lib.hid (hR.add (by omega) rfl ((Keeps.refl _ wr).alloc (.map #[] 0)) (HoldsM.made _ _ _ _))
              rw [hbs] at A3
              clear hR
              go_wp2_with fail
              go_roundw
              case rel => exact ⟨j + 1, bs ++ [wr.heap.size], by go_num, by omega, by simp [hbs], A3.out⟩
              case measure => simp [intOf]; omega
            · obtain rfl : j = i := by omega
              have b3 : ¬ (j : Int) < (j : Int) := by omega
              obtain ⟨X, p1, p2⟩ := hR.made (A := M8.made K) hbs (made_ok (by have := hn'.out; omega)) (by simp [M8.made, hn'.out]) (fun q W hq => by
                obtain ⟨_, rfl⟩ := List.mem_replicate.1 (List.mem_of_getElem? (show (List.replicate K.length ([] : Tl))[q]? = some W from hq))
                rfl) hin'.out
              have P1 := Lib.hid p1
              have P2 := Lib.hid p2
              clear hR p1 p2
              go_wp2_with fail
              go_ret2
              exact .inr ⟨by rw [E.out], _, rfl, X, P1.out, P2.out, R3.out.keeps⟩
end Go.Proofs.YthidipigpfcbbaaGreatDoor
