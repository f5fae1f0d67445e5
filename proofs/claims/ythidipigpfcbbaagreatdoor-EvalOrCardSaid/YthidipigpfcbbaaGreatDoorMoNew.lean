/-
  Arguments that are slices of kinds and of calls (concordlaw08.Act), as lists; append of what came in, make of empty lists.
  The document's New by contract: why there is no state, or a state of empty collections.
-/
import Derived.Test.YthidipigpfcbbaaGreatDoorMoRefPut
import Derived.Test.YthidipigpfcbbaaGreatDoorRkArg
import Derived.Laws.MakeOwn
import Derived.Deep.RegionHeld3

namespace Go.Proofs.YthidipigpfcbbaaGreatDoor
open Go.RowKit Go.Maps Go.Extern.Stop Go.Stop Go.Extern

structure Act8 where
  k : Int
  c : Int
  key : Int
  v : Int

/-- A slice of calls that came in. -/
def Acts8 (w : World) (a : Option Addr) (len cap : Nat) : Prop :=
  (a = none ∧ len = 0 ∧ cap = 0) ∨ ∃ x : Addr, a = some x ∧ len ≤ cap ∧ cap ≤ maxLen ∧ ∀ i, i < len → ∃ k c v n : Int,
    w.cell? (x.add (i * 4 + 0)) = some (.int .i64 k) ∧ w.cell? (x.add (i * 4 + 1)) = some (.int .i64 c) ∧ w.cell? (x.add (i * 4 + 2)) = some (.int .i64 v) ∧ w.cell? (x.add (i * 4 + 3)) = some (.int .i64 n) ∧ (Lit.int .i64 v).wf = true

structure Act8L (w : World) (a : Option Addr) (n cap : Nat) (L : List Act8) : Prop where
  len : L.length = n
  fit : n ≤ cap ∧ cap ≤ maxLen
  at_ : 0 < n → ∃ b o, a = some ⟨b, o, none⟩ ∧ ∀ i x, L[i]? = some x → w.cell? ⟨b, o + i * 4, none⟩ = some (.int .i64 x.k) ∧ w.cell? ⟨b, o + i * 4 + 1, none⟩ = some (.int .i64 x.c) ∧ w.cell? ⟨b, o + i * 4 + 2, none⟩ = some (.int .i64 x.key) ∧ w.cell? ⟨b, o + i * 4 + 3, none⟩ = some (.int .i64 x.v)
  wf : ∀ x ∈ L, (Lit.int .i64 x.key).wf = true

theorem Acts8.list {w : World} {a : Option Addr} {len cap : Nat} (h : Acts8 w a len cap) : ∃ L, Act8L w a len cap L := by
  rcases h with ⟨rfl, rfl, rfl⟩ | ⟨x, rfl, h1, h2, h3⟩
  · exact ⟨[], rfl, ⟨Nat.le_refl _, Nat.zero_le _⟩, fun h => absurd h (Nat.lt_irrefl _), fun x hx => by cases hx⟩
  · have h4 : ∀ i : Nat, ∃ y : Act8, i < len → w.cell? (x.add (i * 4 + 0)) = some (.int .i64 y.k) ∧ w.cell? (x.add (i * 4 + 1)) = some (.int .i64 y.c) ∧ w.cell? (x.add (i * 4 + 2)) = some (.int .i64 y.key) ∧ w.cell? (x.add (i * 4 + 3)) = some (.int .i64 y.v) ∧ (Lit.int .i64 y.key).wf = true := fun i => by
      by_cases hi : i < len
      · obtain ⟨k, c, v, n, e⟩ := h3 i hi
        exact ⟨⟨k, c, v, n⟩, fun _ => e⟩
      · exact ⟨⟨0, 0, 0, 0⟩, fun h => absurd h hi⟩
    have hf := fun i => Classical.choose_spec (h4 i)
    generalize hg : (fun i => Classical.choose (h4 i)) = f
    have hf' : ∀ i, i < len → w.cell? (x.add (i * 4 + 0)) = some (.int .i64 (f i).k) ∧ w.cell? (x.add (i * 4 + 1)) = some (.int .i64 (f i).c) ∧ w.cell? (x.add (i * 4 + 2)) = some (.int .i64 (f i).key) ∧ w.cell? (x.add (i * 4 + 3)) = some (.int .i64 (f i).v) ∧ (Lit.int .i64 (f i).key).wf = true := fun i hi => by
      rw [← hg]; exact hf i hi
    have hat : ∀ i y, ((List.range len).map f)[i]? = some y → i < len ∧ y = f i := fun i y hy => by
      obtain ⟨hi, e⟩ := List.getElem?_eq_some_iff.1 hy
      have hi' : i < len := by simpa using hi
      exact ⟨hi', by rw [← e]; simp⟩
    refine ⟨(List.range len).map f, by simp, ⟨h1, h2⟩, fun h0 => ?_, fun y hy => ?_⟩
    · have h5 := (hf' 0 h0).1
      have hx := spot_none (x := x) (by simpa using h5)
      refine ⟨x.block, x.off, by rw [← hx], fun i y hy => ?_⟩
      obtain ⟨hi, rfl⟩ := hat i y hy
      obtain ⟨q1, q2, q3, q4, _⟩ := hf' i hi
      rw [add_plain x hx] at q1 q2 q3 q4
      exact ⟨q1, by rw [Nat.add_assoc]; exact q2, by rw [Nat.add_assoc]; exact q3, by rw [Nat.add_assoc]; exact q4⟩
    · obtain ⟨i, hi, rfl⟩ := List.mem_map.1 hy
      exact (hf' i (List.mem_range.1 hi)).2.2.2.2


/-- make of empty lists. -/
def nilCells (n : Nat) : Array Value := madeCells (Value.slice none 0 0).cells (n * 1)
theorem make_lists (n : Nat) (hn : n ≤ 1000000) (w : World) :
    (Instr.makeSlice 90 (.int .i64 (n : Int)) (.int .i64 (n : Int))).run Tryz.prog w = .ok (.slice (some ⟨w.heap.size, 0, none⟩) n n) (w.alloc (.cells (nilCells n) 55)) := by
  obtain ⟨i, hi, hz, hs, hb⟩ := info_parts listK.info
  have hr := run_make (P := Tryz.prog) w listK.T listK.e i _ listK.hu hi hz .i64 .i64 n n (by omega) (Int.le_refl _) (by
    rw [hb]
    show ((24 : Nat) : Int) * (n : Int) ≤ _
    omega) (by omega)
  simp only [Int.toNat_natCast, hs] at hr
  exact hr
theorem nil_row {w : World} {b n : Nat} (hn : n ≤ 1000000) (h : Whole w b 55 (nilCells n)) : listK.Row w (.slice (some ⟨b, 0, none⟩) n n) (List.replicate n (none, 0, 0)) := by
  refine ⟨by rw [listK.len], .inr ⟨b, n, _, by rw [List.length_replicate], Nat.zero_le _, h, by rw [List.length_replicate]; exact Nat.le_refl _, by unfold maxLen; omega, by unfold nilCells; rw [size_madeCells]; rfl, ?_⟩⟩
  have hsz : (nilCells n).toList.length = n := by unfold nilCells; rw [Array.length_toList, size_madeCells, Nat.mul_one]
  rw [List.length_replicate, List.take_of_length_le (by rw [hsz]; show n ≤ n * 1; omega)]
  refine List.ext_getElem (by rw [hsz, listK.len, List.length_replicate]; show n = n * 1; omega) fun i h1 h2 => ?_
  have e1 : (nilCells n).toList[i] = .slice none 0 0 := by
    unfold nilCells madeCells
    simp [Value.cells, Nat.mod_one]
  have e2 : (listK.cs (List.replicate n ((none, 0, 0) : Sl8)))[i] = .slice none 0 0 := by
    show (List.map slv8 (List.replicate n (none, 0, 0)))[i]'(h2) = _
    simp [slv8]
  rw [e1, e2]
end Go.Proofs.YthidipigpfcbbaaGreatDoor

namespace Go.Proofs.YthidipigpfcbbaaGreatDoor
open Go.RowKit Go.Maps Go.Extern.Stop Go.Stop Go.Extern

/-- What New answers. -/
def RNew (w : World) (K : List Int) (e : Ending) (w' : World) : Prop :=
  ((mNew K).1 = false ∧ e = .returned (.tuple #[.pointer none, .int .i64 ((mNew K).2.1 : Nat), .int .i64 ((mNew K).2.2 : Nat)]) ∧ w = w') ∨
  ((mNew K).1 = true ∧ ∃ r Y, e = .returned (.tuple #[.pointer (some ⟨r, 0, none⟩), .int .i64 0, .int .i64 0]) ∧ RM w' r (M8.made K) Y ∧ (∀ y, Y y → w.heap.size ≤ y) ∧ Keeps (fun _ => False) w w')

/-- A state, its rows made. -/
theorem rm_made {w V : World} {K : List Int} {n : Nat} {ao : Option Addr} {ac g : Nat} (hn : K.length = n) (hM : Mine intK w V (.slice ao n ac) K) (hN : listK.Row V (.slice (some ⟨g, 0, none⟩) n n) (List.replicate n (none, 0, 0))) (hg : w.heap.size ≤ g) (k : Keeps (fun _ => False) w V) :
    ∃ Y, RM (V.alloc (.cells #[.slice ao n ac, .slice (some ⟨g, 0, none⟩) n n] 92)) V.heap.size (M8.made K) Y ∧ (∀ y, Y y → w.heap.size ≤ y) := by
  have ka : Keeps (fun _ => False) V (V.alloc (.cells #[.slice ao n ac, .slice (some ⟨g, 0, none⟩) n n] 92)) := (Keeps.refl _ V).alloc _
  have l1 := k.size
  refine ⟨fun y => y = V.heap.size ∨ y = g ∨ (Value.slice ao n ac).ownBlock = some y, ⟨_, _, List.replicate n (none, 0, 0), {
    blk := Whole.made _ _ _
    kinds := ownsRow_keeps hM.1 ka fun _ _ => id
    lists := ownsRow_keeps hN ka fun _ _ => id
    len := by simp [M8.made, hn]
    each := fun i v m hv hm => by
      obtain ⟨_, rfl⟩ := List.mem_replicate.1 (List.mem_of_getElem? hv)
      obtain ⟨_, rfl⟩ := List.mem_replicate.1 (List.mem_of_getElem? (show (List.replicate K.length ([] : Tl))[i]? = some m from hm))
      exact World.ownsRow_nil ..
    inY := ⟨.inl rfl, fun x hx => .inr (.inr hx), fun x hx => .inr (.inl (by simp [Value.ownBlock] at hx; omega)), fun v hv x hx => by
      obtain ⟨_, rfl⟩ := List.mem_replicate.1 hv
      simp [slv8, Value.ownBlock] at hx⟩
    old := fun y hy => by
      rw [World.size_alloc]
      rcases hy with hy | hy | hy
      · omega
      · have := (World.ownsRow.lt hN g rfl).2; omega
      · have := (World.ownsRow.lt hM.1 y hy).2; omega }⟩, fun y hy => ?_⟩
  rcases hy with hy | hy | hy
  · omega
  · omega
  · exact hM.2 y hy

set_option maxRecDepth 100000 in
set_option maxHeartbeats 2000000 in
theorem rnew8 {w : World} {a : Option Addr} {n cap : Nat} {K : List Int} (h : IntL w a n K) :
    Calls Tryz.prog 18 #[.slice a n cap] w fun e w' => RNew w K e w' := by
  have few := h.fit
  have hn' := Lib.hid h.len
  have HL := Lib.hid h
  have fl : (n : Int) ≤ 9223372036854775807 := by unfold maxLen at few; omega
  have ho := h.at_
  clear h
  go_enter Tryz.func18, Tryz.ntmps18
  go_wp2_with fail
  go_loop [5] (fun iv => ∃ i : Nat, iv = .int .i64 i ∧ i ≤ n ∧ ∀ (j : Nat) (k : Int), j < i → K[j]? = some k → ¬ (k < 1 ∨ 3 < k)) (fun iv => n - (intOf iv).toNat)
  case atStart => exact ⟨0, rfl, Nat.zero_le _, fun j p h => absurd h (Nat.not_lt_zero _)⟩
  case round =>
    obtain ⟨i, rfl, hi, hk⟩ := hrel
    have K1 := Lib.hid hk
    clear hk
    by_cases hlt : i < n
    · have b1 : (i : Int) < (n : Int) := by omega
      obtain ⟨b, o, rfl, hc⟩ := ho (by omega)
      obtain ⟨d, hd⟩ : ∃ d, K[i]? = some d := ⟨_, List.getElem?_eq_getElem (by rw [hn'.out]; exact hlt)⟩
      have d0 := hc i _ hd
      have hd' := Lib.hid hd
      clear hc hd ho
      by_cases h1 : d < 1
      · have hr := bad_first K1.out hd'.out (.inl h1)
        have em : mNew K = (false, 17, i + 1) := by unfold mNew; rw [if_pos (by rw [hr]; omega), hr]
        have E := Lib.hid em
        clear hr em
        go_wp2_with fail
        go_ret3
        exact .inl ⟨by rw [E.out], by rw [E.out]; rfl, rfl⟩
      · by_cases h3 : 3 < d
        · have hr := bad_first K1.out hd'.out (.inr h3)
          have em : mNew K = (false, 17, i + 1) := by unfold mNew; rw [if_pos (by rw [hr]; omega), hr]
          have E := Lib.hid em
          clear hr em
          go_wp2_with fail
          go_ret3
          exact .inl ⟨by rw [E.out], by rw [E.out]; rfl, rfl⟩
        · go_wp2_with fail
          go_round
          case rel =>
            refine ⟨i + 1, by go_num, by omega, fun j p hj hp => ?_⟩
            rcases Nat.lt_or_ge j i with h | h
            · exact K1.out j p h hp
            · obtain rfl : j = i := by omega
              rw [hd'.out] at hp
              injection hp with hp
              omega
          case measure => simp [intOf]; omega
    · obtain rfl : i = n := by omega
      have b1 : ¬ (i : Int) < (i : Int) := by omega
      have hr : firstBad K = 0 := bad_none fun j k hj => K1.out j k (by have := (List.getElem?_eq_some_iff.1 hj).1; have := hn'.out; omega) hj
      by_cases h8 : 8 < i
      · have b8 : (8 : Int) < (i : Int) := by omega
        have em : mNew K = (false, 8, 0) := by unfold mNew; rw [if_neg (by rw [hr]; simp), if_pos (by rw [hn'.out]; exact h8)]
        have E := Lib.hid em
        clear hr em ho
        go_wp2_with fail
        go_ret3
        exact .inl ⟨by rw [E.out], by rw [E.out]; rfl, rfl⟩
      · have b8 : ¬ (8 : Int) < (i : Int) := by omega
        have em : mNew K = (true, 0, 0) := by unfold mNew; rw [if_neg (by rw [hr]; simp), if_neg (by rw [hn'.out]; exact h8)]
        have E := Lib.hid em
        have hmk := make_lists i (by omega)
        have k1 : Keeps (fun _ => False) w (w.alloc (.cells #[] 3)).drew := ((Keeps.refl _ w).alloc _).drew
        have k2 : Keeps (fun _ => False) w ((w.alloc (.cells #[] 3)).alloc (.cells (nilCells i) 55)).drew := (((Keeps.refl _ w).alloc _).alloc _).drew
        have k3 : Keeps (fun _ => False) w ((w.alloc (.cells (nilCells i) 55)).alloc (.cells #[] 3)).drew := (((Keeps.refl _ w).alloc _).alloc _).drew
        have n3 : Whole ((w.alloc (.cells (nilCells i) 55)).alloc (.cells #[] 3)) (w.heap.size + 1) 3 #[] := by
          have := Whole.made (w.alloc (.cells (nilCells i) 55)) 3 #[]
          rwa [World.size_alloc] at this
        have n2 : Whole ((w.alloc (.cells #[] 3)).alloc (.cells (nilCells i) 55)) (w.heap.size + 1) 55 (nilCells i) := by
          have := Whole.made (w.alloc (.cells #[] 3)) 55 (nilCells i)
          rwa [World.size_alloc] at this
        have oE := Lib.hid (show Mine intK w (w.alloc (.cells #[] 3)).drew (.slice (some ⟨w.heap.size, 0, none⟩) 0 0) [] from ⟨row_none intK (Whole.made w _ _).drew rfl, fun g hg => by simp [Value.ownBlock] at hg; omega⟩)
        have oET := Lib.hid (show Mine intK w ((w.alloc (.cells #[] 3)).alloc (.cells (nilCells i) 55)).drew (.slice (some ⟨w.heap.size, 0, none⟩) 0 0) [] from ⟨row_none intK ((Whole.made w _ _).alloc _).drew rfl, fun g hg => by simp [Value.ownBlock] at hg; omega⟩)
        have oTE := Lib.hid (show Mine intK w ((w.alloc (.cells (nilCells i) 55)).alloc (.cells #[] 3)).drew (.slice (some ⟨w.heap.size + 1, 0, none⟩) 0 0) [] from ⟨row_none intK n3.drew rfl, fun g hg => by simp [Value.ownBlock] at hg; omega⟩)
        have mET := Lib.hid (show listK.Row ((w.alloc (.cells #[] 3)).alloc (.cells (nilCells i) 55)).drew (.slice (some ⟨w.heap.size + 1, 0, none⟩) i i) (List.replicate i (none, 0, 0)) from nil_row (by omega) n2.drew)
        have mTE := Lib.hid (show listK.Row ((w.alloc (.cells (nilCells i) 55)).alloc (.cells #[] 3)).drew (.slice (some ⟨w.heap.size, 0, none⟩) i i) (List.replicate i (none, 0, 0)) from nil_row (by omega) ((Whole.made w _ _).alloc _).drew)
        have k1 := Lib.hid k1
        have k2 := Lib.hid k2
        have k3 := Lib.hid k3
        have fi : ([] : List Int).length + i ≤ 1000000 := by simp; omega
        clear hr em ho n2 n3 K1
        go_wp2_with fail
        go_region_held3 (fun _ => True) (trivial)
          (first
            | (refine step_append_arg intK rfl _ _ rfl w (.slice (some ⟨_, 0, none⟩) 0 0) [] K rfl (by first | exact oE.out | exact oET.out | exact oTE.out) (by first | exact k1.out | exact k2.out | exact k3.out) a i cap rfl hn'.out (fun ad ha => (HL.out.same (by first | exact k1.out | exact k2.out | exact k3.out)).cells ad ha) HL.out.none_ i (by simp) (by omega) ?_
               intro ao ac w2 hM hK hK3
               have M2 := Lib.hid hM
               have K2 := Lib.hid hK
               have K3 := Lib.hid hK3
               clear hM hK hK3))
        · obtain ⟨Y, hR, hY⟩ := rm_made (w := w) hn'.out (M2.out.same ((Keeps.refl _ _).alloc _)) (nil_row (by omega) (Whole.made w2 _ _)) K2.out.size (K2.out.alloc _)
          rw [World.size_alloc] at hR
          have R := Lib.hid hR
          have K4 := Lib.hid ((K2.out.alloc (.cells (nilCells i) 55)).alloc (.cells #[.slice ao i ac, .slice (some ⟨w2.heap.size, 0, none⟩) i i] 92))
          clear hR
          go_wp2_with fail
          go_ret3
          exact .inr ⟨by rw [E.out], _, Y, rfl, R.out, hY, K4.out⟩
        · obtain ⟨Y, hR, hY⟩ := rm_made (w := w) hn'.out M2.out (ownsRow_keeps mET.out K3.out (fun g hg e => by simp [Value.ownBlock] at hg e; omega)) (Nat.le_succ _) K2.out
          have R := Lib.hid hR
          have K4 := Lib.hid (K2.out.alloc (.cells #[.slice ao i ac, .slice (some ⟨w.heap.size + 1, 0, none⟩) i i] 92))
          clear hR
          go_wp2_with fail
          go_ret3
          exact .inr ⟨by rw [E.out], _, Y, rfl, R.out, hY, K4.out⟩
        · obtain ⟨Y, hR, hY⟩ := rm_made (w := w) hn'.out M2.out (ownsRow_keeps mTE.out K3.out (fun g hg e => by simp [Value.ownBlock] at hg e; omega)) (Nat.le_refl _) K2.out
          have R := Lib.hid hR
          have K4 := Lib.hid (K2.out.alloc (.cells #[.slice ao i ac, .slice (some ⟨w.heap.size, 0, none⟩) i i] 92))
          clear hR
          go_wp2_with fail
          go_ret3
          exact .inr ⟨by rw [E.out], _, Y, rfl, R.out, hY, K4.out⟩
end Go.Proofs.YthidipigpfcbbaaGreatDoor
