/-
  A slice of slices of pairs; the document's state in memory.
  The document's state: what only reads (There, Find, Get, Ceil, Range), by contract.
  The document's state: set (a collection is another list), by contract.
  The document's state: Del and Put, by contract (printed by gen/mkmorefput.py).
-/
import Derived.Test.YthidipigpfcbbaaGreatDoorRkArg
import Derived.OwnWalk
import Derived.Deep.DeepCutAuto
import Derived.Deep.CutBlock

namespace Go.Proofs.YthidipigpfcbbaaGreatDoor
open Go.RowKit Go.Maps Go.Extern.Stop Go.Stop Go.Extern

/-- A slice, as a plain value. -/
abbrev Sl8 := Option Addr × Nat × Nat
def slv8 (x : Sl8) : Value := .slice x.1 x.2.1 x.2.2
def listK : RK Sl8 where
  T := 90
  e := 55
  size := 1
  bytes := 24
  z := .slice none 0 0
  cs := fun l => l.map slv8
  app := fun l m => by simp
  len := fun l => by simp
  one := fun l u hu => by obtain ⟨b, _, rfl⟩ := List.mem_map.1 hu; rfl
  hu := Tryz.underlying90
  info := by kernel_rfl
  zs := rfl
  pos := by decide
  few := by decide

theorem lrow_cells {w : World} {v : Value} {l : List Sl8} {n : Nat} (h : listK.Row w v l) (hn : l.length = n) :
    ∃ o c, v = .slice o n c ∧ (0 < n → ∃ g, o = some ⟨g, 0, none⟩ ∧ ∀ (i : Nat) (p : Sl8), l[i]? = some p → w.cell? ⟨g, i, none⟩ = some (slv8 p)) := by
  obtain ⟨o, c, rfl, ho⟩ := row_shape h
  subst hn
  refine ⟨o, c, rfl, fun h0 => ?_⟩
  obtain ⟨g, rfl⟩ := ho h0
  refine ⟨g, rfl, fun i p hp => ?_⟩
  have hi : i < l.length := (List.getElem?_eq_some_iff.1 hp).1
  refine (World.ownsRow.cellAt h i (by show i < l.length * 1; omega)).trans ?_
  show (l.map slv8)[i]? = _
  rw [List.getElem?_map, hp]; rfl

structure RMt (w : World) (r : Nat) (vK vL : Value) (ws : List Sl8) (A : M8) (Y : Nat → Prop) : Prop where
  blk : Whole w r 92 #[vK, vL]
  kinds : IRow w vK A.K
  lists : listK.Row w vL ws
  len : ws.length = A.L.length
  each : ∀ (i : Nat) (v : Sl8) (m : Tl), ws[i]? = some v → A.L[i]? = some m → PRow w (slv8 v) m
  inY : Y r ∧ (∀ g, vK.ownBlock = some g → Y g) ∧ (∀ g, vL.ownBlock = some g → Y g) ∧ ∀ v ∈ ws, ∀ g, (slv8 v).ownBlock = some g → Y g
  old : ∀ y, Y y → y < w.heap.size

/-- The document's state. -/
def RM (w : World) (r : Nat) (A : M8) (Y : Nat → Prop) : Prop := ∃ vK vL ws, RMt w r vK vL ws A Y

section
variable {w w' : World} {r : Nat} {vK vL : Value} {ws : List Sl8} {A : M8} {Y S : Nat → Prop}

theorem RMt.keeps (h : RMt w r vK vL ws A Y) (k : Keeps S w w') (hS : ∀ y, Y y → ¬ S y) : RMt w' r vK vL ws A Y where
  blk := h.blk.keeps k (hS _ h.inY.1)
  kinds := ownsRow_keeps h.kinds k fun g hg => hS g (h.inY.2.1 g hg)
  lists := ownsRow_keeps h.lists k fun g hg => hS g (h.inY.2.2.1 g hg)
  len := h.len
  each := fun i v m hv hm => ownsRow_keeps (h.each i v m hv hm) k fun g hg => hS g (h.inY.2.2.2 v (List.mem_of_getElem? hv) g hg)
  inY := h.inY
  old := fun y hy => Nat.lt_of_lt_of_le (h.old y hy) k.size
theorem RM.keeps (h : RM w r A Y) (k : Keeps S w w') (hS : ∀ y, Y y → ¬ S y) : RM w' r A Y := by
  obtain ⟨vK, vL, ws, h⟩ := h; exact ⟨vK, vL, ws, h.keeps k hS⟩
theorem RM.same (h : RM w r A Y) (k : Keeps (fun _ => False) w w') : RM w' r A Y := h.keeps k fun _ _ => id
theorem RM.old (h : RM w r A Y) : ∀ y, Y y → y < w.heap.size := by obtain ⟨vK, vL, ws, h⟩ := h; exact h.old
theorem RM.inY (h : RM w r A Y) : Y r := by obtain ⟨vK, vL, ws, h⟩ := h; exact h.inY.1
end

/-- What the document's state is behind a call. -/
def RMid (w w' : World) (r : Nat) (A : M8) (Y : Nat → Prop) : Prop := ∃ Y', RM w' r A Y' ∧ Mvs w Y Y' ∧ Keeps Y w w'
theorem RMid.same {w w' : World} {r : Nat} {A : M8} {Y : Nat → Prop} (h : RM w r A Y) (k : Keeps (fun _ => False) w w') : RMid w w' r A Y :=
  ⟨Y, h.same k, fun _ hx => .inl hx, k.mono fun _ _ => False.elim⟩

/-- What a collection's list is: where it stands, and its cells. -/
theorem RMt.col {w : World} {r : Nat} {vK vL : Value} {ws : List Sl8} {A : M8} {Y : Nat → Prop} (h : RMt w r vK vL ws A Y) {c : Nat} {W : Tl} (hc : A.L[c]? = some W) :
    ∃ g cap o cc, vL = .slice (some ⟨g, 0, none⟩) ws.length cap ∧ w.cell? ⟨g, c, none⟩ = some (.slice o W.length cc) ∧ PRow w (.slice o W.length cc) W ∧ c < ws.length ∧ ws[c]? = some (o, W.length, cc) := by
  have hlt : c < ws.length := by rw [h.len]; exact (List.getElem?_eq_some_iff.1 hc).1
  obtain ⟨o, cap, rfl, ho⟩ := lrow_cells h.lists rfl
  obtain ⟨g, rfl, hcs⟩ := ho (by omega)
  obtain ⟨v, hv⟩ : ∃ v, ws[c]? = some v := ⟨_, List.getElem?_eq_getElem hlt⟩
  have h1 := h.each c v W hv hc
  obtain ⟨o, cc, e, _⟩ := row_shape h1
  obtain ⟨v1, v2, v3⟩ := v
  unfold slv8 at e
  simp only [Value.slice.injEq] at e
  obtain ⟨rfl, rfl, rfl⟩ := e
  exact ⟨g, cap, _, _, rfl, hcs c _ hv, h1, hlt, hv⟩
end Go.Proofs.YthidipigpfcbbaaGreatDoor

namespace Go.Proofs.YthidipigpfcbbaaGreatDoor
open Go.RowKit Go.Maps Go.Extern.Stop Go.Stop Go.Extern

/-- Where a collection's list stands. -/
structure ColAt (w : World) (r g m cap k : Nat) (o : Option Addr) (n cc : Nat) (W : Tl) : Prop where
  outer : w.cell? ⟨r, 1, none⟩ = some (.slice (some ⟨g, 0, none⟩) m cap)
  inner : w.cell? ⟨g, k, none⟩ = some (.slice o n cc)
  row : PRow w (.slice o n cc) W
  len : W.length = n
  lt : k < m
theorem ColAt.same {w w' : World} {r g m cap k : Nat} {o : Option Addr} {n cc : Nat} {W : Tl} (h : ColAt w r g m cap k o n cc W) (K : Keeps (fun _ => False) w w') : ColAt w' r g m cap k o n cc W :=
  ⟨(K.cell (cell_lt h.outer) id).trans h.outer, (K.cell (cell_lt h.inner) id).trans h.inner, ownsRow_keeps h.row K fun _ _ => id, h.len, h.lt⟩

section
variable {w : World} {r : Nat} {A : M8} {Y : Nat → Prop}

theorem RM.colAt (h : RM w r A Y) {k : Nat} {W : Tl} (hc : A.L[k]? = some W) : ∃ g m cap o n cc, ColAt w r g m cap k o n cc W := by
  obtain ⟨vK, vL, ws, h⟩ := h
  obtain ⟨g, cap, o, cc, rfl, h2, h3, h4, _⟩ := h.col hc
  exact ⟨g, _, cap, o, _, cc, h.blk.at_ 1, h2, h3, rfl, h4⟩
theorem RM.kindAt (h : RM w r A Y) {k : Nat} {x : Int} (hc : A.K[k]? = some x) : ∃ g m cap, w.cell? ⟨r, 0, none⟩ = some (.slice (some ⟨g, 0, none⟩) m cap) ∧ k < m ∧ w.cell? ⟨g, k, none⟩ = some (.int .i64 x) := by
  obtain ⟨vK, vL, ws, h⟩ := h
  have hlt := (List.getElem?_eq_some_iff.1 hc).1
  obtain ⟨o, cap, rfl, ho⟩ := irow_cells h.kinds rfl
  obtain ⟨g, rfl, hcs⟩ := ho (by omega)
  exact ⟨g, _, cap, h.blk.at_ 0, hlt, hcs k x hc⟩

theorem there_any (h : RM w r A Y) (ok : A.Ok) (c : Int) :
    Calls Tryz.prog 40 #[.pointer (some ⟨r, 0, none⟩), .int .i64 c] w fun e w' => e = .returned (.bool (decide (A.there c))) ∧ w = w' := by
  obtain ⟨vK, vL, ws, h⟩ := h
  obtain ⟨n, hn⟩ : ∃ n, A.L.length = n := ⟨_, rfl⟩
  have hl := h.len
  obtain ⟨o, cap, rfl, ho⟩ := lrow_cells h.lists (hl.trans hn)
  have c1 : w.cell? ⟨r, 1, none⟩ = some (.slice o n cap) := h.blk.at_ 1
  have few := ok.few
  rw [hn] at few
  by_cases h0 : 0 ≤ c
  · by_cases h1 : c < (n : Int)
    · have hd : decide (A.there c) = true := decide_eq_true ⟨h0, by rw [hn]; exact h1⟩
      rw [hd]
      clear h ho hl hn hd
      go_enter Tryz.func40, Tryz.ntmps40
      go_wp2_with fail
      go_ret
      exact ⟨rfl, rfl⟩
    · have hd : decide (A.there c) = false := decide_eq_false fun h => h1 (by rw [← hn]; exact h.2)
      rw [hd]
      clear h ho hl hn hd
      go_enter Tryz.func40, Tryz.ntmps40
      go_wp2_with fail
      go_ret
      exact ⟨rfl, rfl⟩
  · have hd : decide (A.there c) = false := decide_eq_false fun h => h0 h.1
    rw [hd]
    clear h ho hl hn hd
    go_enter Tryz.func40, Tryz.ntmps40
    go_wp2_with fail
    go_ret
    exact ⟨rfl, rfl⟩

set_option maxRecDepth 100000 in
theorem find8_any {g m cap k : Nat} {o : Option Addr} {n cc : Nat} {W : Tl} (h : ColAt w r g m cap k o n cc W) (few : n ≤ 1000000) (key : Int) :
    Calls Tryz.prog 41 #[.pointer (some ⟨r, 0, none⟩), .int .i64 (k : Int), .int .i64 key] w fun e w' => e = .returned (.int .i64 ((plc W key : Int) - 1)) ∧ w = w' := by
  have c1 := h.outer
  have c2 := h.inner
  have hn' := Lib.hid h.len
  have km : (k : Int) < (m : Int) := by have := h.lt; omega
  obtain ⟨o', c', e, ho⟩ := prow_cells h.row h.len
  injection e with e1 e2 e3
  subst e1
  obtain ⟨z, hz⟩ : ∃ z, (plc W key : Int) - 1 = z := ⟨_, rfl⟩
  rw [hz]
  have hz' := Lib.hid hz
  clear h hz e3 e2
  go_enter Tryz.func41, Tryz.ntmps41
  go_wp2_with fail
  go_loop [7] (fun iv => ∃ i : Nat, iv = .int .i64 i ∧ i ≤ n ∧ ∀ (j : Nat) (p : Int × Int), j < i → W[j]? = some p → p.1 ≠ key) (fun iv => n - (intOf iv).toNat)
  case atStart => exact ⟨0, rfl, Nat.zero_le _, fun j p h => absurd h (Nat.not_lt_zero _)⟩
  case round =>
    obtain ⟨i, rfl, hi, hk⟩ := hrel
    have K := Lib.hid hk
    clear hk
    by_cases hlt : i < n
    · have b1 : (i : Int) < (n : Int) := by omega
      obtain ⟨g, rfl, hc⟩ := ho (by omega)
      obtain ⟨d, u, hd⟩ : ∃ d u, W[i]? = some (d, u) := ⟨_, _, List.getElem?_eq_getElem (by rw [hn'.out]; exact hlt)⟩
      have d0 := (hc i _ hd).1
      have hd' := Lib.hid hd
      simp only at d0
      clear hc hd ho
      by_cases he : d = key
      · subst he
        have hr : z = (i : Int) := by rw [← hz'.out, (plc_first K.out hd'.out).1]; omega
        subst hr
        go_wp2_with fail
        go_ret
        exact ⟨rfl, rfl⟩
      · have hb : (d == key) = false := by simpa using he
        clear he
        go_wp2_with fail
        go_round
        case rel =>
          refine ⟨i + 1, by go_num, by omega, fun j p hj hp => ?_⟩
          rcases Nat.lt_or_ge j i with h | h
          · exact K.out j p h hp
          · obtain rfl : j = i := by omega
            rw [hd'.out] at hp
            injection hp with hp
            rw [← hp]
            simpa using hb
        case measure => simp [intOf]; omega
    · obtain rfl : i = n := by omega
      have b1 : ¬ (i : Int) < (i : Int) := by omega
      have hr : z = -1 := by
        rw [← hz'.out, (plc_no fun j p hp => K.out j p (by have := (List.getElem?_eq_some_iff.1 hp).1; have := hn'.out; omega) hp).1]
        rfl
      subst hr
      clear ho
      go_wp2_with fail
      go_ret
      exact ⟨rfl, rfl⟩

theorem nat_of_there {c : Int} (h : A.there c) : ∃ k : Nat, c = (k : Int) ∧ A.L[k]? = some (A.col c) := ⟨c.toNat, by have := h.1; omega, M8.col_at h⟩

set_option maxRecDepth 100000 in
theorem rget8 (h : RM w r A Y) (ok : A.Ok) (c key : Int) :
    Calls Tryz.prog 55 #[.pointer (some ⟨r, 0, none⟩), .int .i64 c, .int .i64 key] w fun e w' => e = .returned (.tuple #[.int .i64 (mGet A c key).1, .bool (mGet A c key).2.1, .int .i64 ((mGet A c key).2.2 : Nat)]) ∧ w = w' := by
  have CT := there_any h ok c
  by_cases ht : A.there c
  · rw [decide_eq_true ht] at CT
    have CT := Lib.hid CT
    obtain ⟨k, rfl, hk⟩ := nat_of_there ht
    obtain ⟨W, hW⟩ : ∃ W, A.col (k : Int) = W := ⟨_, rfl⟩
    rw [hW] at hk
    have few := (ok.ups W (List.mem_of_getElem? hk)).2
    obtain ⟨g, m, cap, o, n, cc, hA⟩ := h.colAt hk
    have hl := hA.len
    have CF := find8_any hA (by omega) key
    have c1 := hA.outer
    have c2 := hA.inner
    have km : (k : Int) < (m : Int) := by have := hA.lt; omega
    cases hlk : look W key with
    | none =>
      have ea : mGet A (k : Int) key = (0, false, 0) := by unfold mGet; rw [if_pos ht, hW, hlk]; rfl
      rw [plc_zero.2 hlk] at CF
      have CF := Lib.hid (show Calls Tryz.prog 41 #[.pointer (some ⟨r, 0, none⟩), .int .i64 (k : Int), .int .i64 key] w fun e w' => e = .returned (.int .i64 (-1)) ∧ w = w' from CF)
      rw [ea]
      clear h ht hk hA ea hlk
      go_enter Tryz.func55, Tryz.ntmps55
      go_wp2_with (first
        | (go_at_call 40; refine CT.out.mono ?_; rintro e w' ⟨rfl, rfl⟩)
        | (go_at_call 41; refine CF.out.mono ?_; rintro e w' ⟨rfl, rfl⟩))
      go_ret3
      exact ⟨rfl, rfl⟩
    | some u =>
      have ea : mGet A (k : Int) key = (u, true, 0) := by unfold mGet; rw [if_pos ht, hW, hlk]; rfl
      have hp : plc W key ≠ 0 := fun e => by rw [plc_zero.1 e] at hlk; cases hlk
      obtain ⟨u', hu, hu'⟩ := plc_at hp
      rw [hlk] at hu'
      injection hu' with hu'
      subst hu'
      obtain ⟨j, hj⟩ : ∃ j, plc W key - 1 = j := ⟨_, rfl⟩
      have hj1 : (plc W key : Int) - 1 = (j : Int) := by omega
      rw [hj] at hu
      have hjn : j < n := by have := (List.getElem?_eq_some_iff.1 hu).1; omega
      obtain ⟨o', c', e, ho⟩ := prow_cells hA.row hA.len
      injection e with e1 e2 e3
      subst e1
      obtain ⟨g', rfl, hcs⟩ := ho (by omega)
      have hv := (hcs j _ hu).2
      have jb : (j : Int) < (n : Int) := by omega
      rw [hj1] at CF
      have CF := Lib.hid CF
      rw [ea]
      have jn : decide ((j : Int) < 0) = false := decide_eq_false (by omega)
      simp only at hv
      clear h ht hk hA ea hlk hcs ho hp hu hj hj1 e3 e2
      go_enter Tryz.func55, Tryz.ntmps55
      go_wp2_with (first
        | (go_at_call 40; refine CT.out.mono ?_; rintro e w' ⟨rfl, rfl⟩)
        | (go_at_call 41; refine CF.out.mono ?_; rintro e w' ⟨rfl, rfl⟩))
      go_ret3
      exact ⟨rfl, rfl⟩
  · rw [decide_eq_false ht] at CT
    have CT := Lib.hid CT
    have ea : mGet A c key = (0, false, 3) := by unfold mGet; rw [if_neg ht]
    rw [ea]
    clear h ht ea
    go_enter Tryz.func55, Tryz.ntmps55
    go_wp2_with (first
      | (go_at_call 40; refine CT.out.mono ?_; rintro e w' ⟨rfl, rfl⟩))
    go_ret3
    exact ⟨rfl, rfl⟩

/-- What a call of an ordered collection stands on. -/
theorem kind_facts (h : RM w r A Y) (ok : A.Ok) {k : Nat} (ht : A.there (k : Int)) : ∃ kg km kcap, w.cell? ⟨r, 0, none⟩ = some (.slice (some ⟨kg, 0, none⟩) km kcap) ∧ (k : Int) < (km : Int) ∧ w.cell? ⟨kg, k, none⟩ = some (.int .i64 (A.kind (k : Int))) := by
  have := M8.kind_at ok ht
  rw [Int.toNat_natCast] at this
  obtain ⟨g, m, cap, h1, h2, h3⟩ := h.kindAt this
  exact ⟨g, m, cap, h1, by omega, h3⟩

set_option maxRecDepth 100000 in
theorem rceil8 (h : RM w r A Y) (ok : A.Ok) (c key : Int) :
    Calls Tryz.prog 61 #[.pointer (some ⟨r, 0, none⟩), .int .i64 c, .int .i64 key] w fun e w' => e = .returned (.tuple #[.int .i64 (mCeil A c key).1, .bool (mCeil A c key).2.1, .int .i64 ((mCeil A c key).2.2 : Nat)]) ∧ w = w' := by
  have CT := there_any h ok c
  by_cases ht : A.there c
  · rw [decide_eq_true ht] at CT
    have CT := Lib.hid CT
    obtain ⟨k, rfl, hk⟩ := nat_of_there ht
    obtain ⟨kg, km, kcap, k1, k2, k3⟩ := kind_facts h ok ht
    by_cases hkd : A.kind (k : Int) = 3
    · rw [hkd] at k3
      obtain ⟨W, hW⟩ : ∃ W, A.col (k : Int) = W := ⟨_, rfl⟩
      have ea : mCeil A (k : Int) key = ((ceil W key).getD 0, (ceil W key).isSome, 0) := by unfold mCeil; rw [if_pos ht, if_pos hkd, hW]
      rw [hW] at hk
      have few := (ok.ups W (List.mem_of_getElem? hk)).2
      obtain ⟨g, m, cap, o, n, cc, hA⟩ := h.colAt hk
      have c1 := hA.outer
      have c2 := hA.inner
      have hn' := Lib.hid hA.len
      have fewn : n ≤ 100 := by have := hA.len; omega
      have km' : (k : Int) < (m : Int) := by have := hA.lt; omega
      obtain ⟨o', c', e, ho⟩ := prow_cells hA.row hA.len
      injection e with e1 e2 e3
      subst e1
      rw [ea]
      obtain ⟨z, hz⟩ : ∃ z, ceil W key = z := ⟨_, rfl⟩
      rw [hz]
      have hz' := Lib.hid hz
      clear h ht hk hA ea hkd hz e3 e2 few
      go_enter Tryz.func61, Tryz.ntmps61
      go_wp2_with (first | (go_at_call 40; refine CT.out.mono ?_; rintro e w' ⟨rfl, rfl⟩))
      go_loop [9] (fun iv => ∃ i : Nat, iv = .int .i64 i ∧ i ≤ n ∧ ∀ (j : Nat) (p : Int × Int), j < i → W[j]? = some p → p.1 < key) (fun iv => n - (intOf iv).toNat)
      case atStart => exact ⟨0, rfl, Nat.zero_le _, fun j p h => absurd h (Nat.not_lt_zero _)⟩
      case round =>
        obtain ⟨i, rfl, hi, hk⟩ := hrel
        have K := Lib.hid hk
        clear hk
        by_cases hlt : i < n
        · have b1 : (i : Int) < (n : Int) := by omega
          obtain ⟨g, rfl, hc⟩ := ho (by omega)
          obtain ⟨d, u, hd⟩ : ∃ d u, W[i]? = some (d, u) := ⟨_, _, List.getElem?_eq_getElem (by rw [hn'.out]; exact hlt)⟩
          have d0 := (hc i _ hd).1
          have hd' := Lib.hid hd
          simp only at d0
          clear hc hd ho
          by_cases he : key ≤ d
          · have hr : z = some d := by rw [← hz'.out, ceil_first K.out hd'.out he]
            subst hr
            go_wp2_with fail
            go_ret3
            exact ⟨rfl, rfl⟩
          · go_wp2_with fail
            go_round
            case rel =>
              refine ⟨i + 1, by go_num, by omega, fun j p hj hp => ?_⟩
              rcases Nat.lt_or_ge j i with h | h
              · exact K.out j p h hp
              · obtain rfl : j = i := by omega
                rw [hd'.out] at hp
                injection hp with hp
                rw [← hp]
                show d < key
                omega
            case measure => simp [intOf]; omega
        · obtain rfl : i = n := by omega
          have b1 : ¬ (i : Int) < (i : Int) := by omega
          have hr : z = none := by rw [← hz'.out, ceil_no fun j p hp => K.out j p (by have := (List.getElem?_eq_some_iff.1 hp).1; have := hn'.out; omega) hp]
          subst hr
          clear ho
          go_wp2_with fail
          go_ret3
          exact ⟨rfl, rfl⟩
    · have ea : mCeil A (k : Int) key = (0, false, 17) := by unfold mCeil; rw [if_pos ht, if_neg hkd]
      rw [ea]
      obtain ⟨x, hx⟩ : ∃ x, A.kind (k : Int) = x := ⟨_, rfl⟩
      rw [hx] at k3 hkd
      have hb : (x != 3) = true := by simp [hkd]
      clear h ht hk ea hx hkd
      go_enter Tryz.func61, Tryz.ntmps61
      go_wp2_with (first | (go_at_call 40; refine CT.out.mono ?_; rintro e w' ⟨rfl, rfl⟩))
      go_ret3
      exact ⟨rfl, rfl⟩
  · rw [decide_eq_false ht] at CT
    have CT := Lib.hid CT
    have ea : mCeil A c key = (0, false, 3) := by unfold mCeil; rw [if_neg ht]
    rw [ea]
    clear h ht ea
    go_enter Tryz.func61, Tryz.ntmps61
    go_wp2_with (first | (go_at_call 40; refine CT.out.mono ?_; rintro e w' ⟨rfl, rfl⟩))
    go_ret3
    exact ⟨rfl, rfl⟩

set_option maxRecDepth 100000 in
theorem rrange8 (h : RM w r A Y) (ok : A.Ok) (c a b : Int) :
    Calls Tryz.prog 63 #[.pointer (some ⟨r, 0, none⟩), .int .i64 c, .int .i64 a, .int .i64 b] w fun e w' => e = .returned (.tuple #[.int .i64 ((mRange A c a b).1 : Nat), .int .i64 ((mRange A c a b).2 : Nat)]) ∧ w = w' := by
  have CT := there_any h ok c
  by_cases ht : A.there c
  · rw [decide_eq_true ht] at CT
    have CT := Lib.hid CT
    obtain ⟨k, rfl, hk⟩ := nat_of_there ht
    obtain ⟨kg, km, kcap, k1, k2, k3⟩ := kind_facts h ok ht
    by_cases hkd : A.kind (k : Int) = 3
    · rw [hkd] at k3
      obtain ⟨W, hW⟩ : ∃ W, A.col (k : Int) = W := ⟨_, rfl⟩
      have ea : mRange A (k : Int) a b = (rng W a b, 0) := by unfold mRange; rw [if_pos ht, if_pos hkd, hW]
      rw [hW] at hk
      have few := (ok.ups W (List.mem_of_getElem? hk)).2
      obtain ⟨g, m, cap, o, n, cc, hA⟩ := h.colAt hk
      have c1 := hA.outer
      have c2 := hA.inner
      have hn' := Lib.hid hA.len
      have fewn : n ≤ 100 := by have := hA.len; omega
      have km' : (k : Int) < (m : Int) := by have := hA.lt; omega
      obtain ⟨o', c', e, ho⟩ := prow_cells hA.row hA.len
      injection e with e1 e2 e3
      subst e1
      rw [ea]
      clear h ht hk hA ea hkd e3 e2 few
      go_enter Tryz.func63, Tryz.ntmps63
      go_wp2_with (first | (go_at_call 40; refine CT.out.mono ?_; rintro e w' ⟨rfl, rfl⟩))
      go_loop [10, 11] (fun nv iv => ∃ (i q : Nat), iv = .int .i64 i ∧ nv = .int .i64 q ∧ i ≤ n ∧ q ≤ i ∧ q = rng (W.take i) a b) (fun nv iv => n - (intOf iv).toNat)
      case atStart => exact ⟨0, 0, rfl, rfl, Nat.zero_le _, Nat.le_refl _, rfl⟩
      case round =>
        obtain ⟨i, q, rfl, rfl, hi, hqi, hk⟩ := hrel
        have K := Lib.hid hk
        clear hk
        by_cases hlt : i < n
        · have b1 : (i : Int) < (n : Int) := by omega
          obtain ⟨g, rfl, hc⟩ := ho (by omega)
          obtain ⟨d, u, hd⟩ : ∃ d u, W[i]? = some (d, u) := ⟨_, _, List.getElem?_eq_getElem (by rw [hn'.out]; exact hlt)⟩
          have d0 := (hc i _ hd).1
          have hd' := Lib.hid hd
          have K2 := Lib.hid (rng_take (a := a) (b := b) hd)
          simp only at d0
          clear hc hd ho
          by_cases h1 : a ≤ d
          · by_cases h2 : d ≤ b
            · go_wp2_with fail
              go_round
              case rel => exact ⟨i + 1, q + 1, by go_num, by go_num, by omega, by omega, by rw [K2.out, ← K.out, if_pos ⟨h1, h2⟩]⟩
              case measure => simp [intOf]; omega
            · go_wp2_with fail
              go_round
              case rel => exact ⟨i + 1, q, by go_num, rfl, by omega, by omega, by rw [K2.out, ← K.out, if_neg fun h => h2 h.2]; rfl⟩
              case measure => simp [intOf]; omega
          · go_wp2_with fail
            go_round
            case rel => exact ⟨i + 1, q, by go_num, rfl, by omega, by omega, by rw [K2.out, ← K.out, if_neg fun h => h1 h.1]; rfl⟩
            case measure => simp [intOf]; omega
        · obtain rfl : i = n := by omega
          have b1 : ¬ (i : Int) < (i : Int) := by omega
          have hr : q = rng W a b := by rw [K.out, List.take_of_length_le (by rw [hn'.out]; exact Nat.le_refl _)]
          clear ho
          go_wp2_with fail
          go_ret2
          exact ⟨rfl, rfl⟩
    · have ea : mRange A (k : Int) a b = (0, 17) := by unfold mRange; rw [if_pos ht, if_neg hkd]
      rw [ea]
      obtain ⟨x, hx⟩ : ∃ x, A.kind (k : Int) = x := ⟨_, rfl⟩
      rw [hx] at k3 hkd
      have hb : (x != 3) = true := by simp [hkd]
      clear h ht hk ea hx hkd
      go_enter Tryz.func63, Tryz.ntmps63
      go_wp2_with (first | (go_at_call 40; refine CT.out.mono ?_; rintro e w' ⟨rfl, rfl⟩))
      go_ret2
      exact ⟨rfl, rfl⟩
  · rw [decide_eq_false ht] at CT
    have CT := Lib.hid CT
    have ea : mRange A c a b = (0, 3) := by unfold mRange; rw [if_neg ht]
    rw [ea]
    clear h ht ea
    go_enter Tryz.func63, Tryz.ntmps63
    go_wp2_with (first | (go_at_call 40; refine CT.out.mono ?_; rintro e w' ⟨rfl, rfl⟩))
    go_ret2
    exact ⟨rfl, rfl⟩
end
end Go.Proofs.YthidipigpfcbbaaGreatDoor

namespace Go.Proofs.YthidipigpfcbbaaGreatDoor
open Go.RowKit Go.Maps Go.Extern.Stop Go.Stop Go.Extern

/-- Set: what it leaves. B: from there on the list's block may lie. -/
def RSet (w w' : World) (r : Nat) (A : M8) (Y : Nat → Prop) (B : Nat) : Prop := ∃ Y', RM w' r A Y' ∧ (∀ x, Y' x → Y x ∨ B ≤ x) ∧ Keeps (fun x => x = r) w w'

set_option maxRecDepth 100000 in
theorem rset8 {w : World} {r : Nat} {A : M8} {Y : Nat → Prop} (h : RM w r A Y) (ok : A.Ok) {k : Nat} (hk : k < A.L.length) {v : Sl8} {W : Tl} (hv : PRow w (slv8 v) W) {B : Nat} (hB : B ≤ w.heap.size) (hown : ∀ g, (slv8 v).ownBlock = some g → B ≤ g) :
    Calls Tryz.prog 42 #[.pointer (some ⟨r, 0, none⟩), .int .i64 (k : Int), slv8 v] w fun e w' => e = .returned (.tuple #[]) ∧ RSet w w' r (A.setC (k : Int) W) Y B := by
  obtain ⟨vK, vL, ws, h⟩ := h
  have hP := Lib.hid h
  obtain ⟨n, hn⟩ : ∃ n, ws.length = n := ⟨_, rfl⟩
  obtain ⟨o, cap, rfl, ho⟩ := lrow_cells h.lists hn
  have few := ok.few
  have hl := h.len
  have km : (k : Int) < (n : Int) := by omega
  have kn : k < n := by omega
  have n8 : n ≤ 8 := by omega
  obtain ⟨g, rfl, _⟩ := ho (by omega)
  have S1 := Lib.hid (fun V (K : Keeps (fun _ => False) w V) => (⟨(h.blk.keeps K id).at_ 1, (h.blk.keeps K id).free 1, h.blk.keeps K id⟩ : V.cell? ⟨r, 1, none⟩ = some (.slice (some ⟨g, 0, none⟩) n cap) ∧ V.frozen? ⟨r, 1, none⟩ = false ∧ Whole V r 92 #[vK, .slice (some ⟨g, 0, none⟩) n cap]))
  have k1 : Keeps (fun _ => False) w (w.alloc (.cells #[] 55)) := (Keeps.refl _ w).alloc _
  have M0 := Lib.hid (show Mine listK w (w.alloc (.cells #[] 55)) (.slice (some ⟨w.heap.size, 0, none⟩) 0 0) [] from ⟨row_none listK (Whole.made w _ _) rfl, fun g hg => by simp [Value.ownBlock] at hg; omega⟩)
  have R0 := Lib.hid (show listK.Row (w.alloc (.cells #[] 55)) (.slice (some ⟨g, 0, none⟩) n cap) ws from ownsRow_keeps h.lists k1 fun _ _ => id)
  have k1' := Lib.hid k1
  have c1 := (S1.out _ k1).1
  obtain ⟨v1, v2, v3⟩ := v
  have hn' := Lib.hid hn
  have fin : ∀ (V : World) (g' c' : Nat), Mine listK w V (.slice (some ⟨g', 0, none⟩) n c') ws → Keeps (fun _ => False) w V → RSet w ((V.setCell ⟨g', k, none⟩ (slv8 (v1, v2, v3))).setCell ⟨r, 1, none⟩ (.slice (some ⟨g', 0, none⟩) n c')) r (A.setC (k : Int) W) Y B := fun V g' c' hM kV => by
    obtain ⟨hM1, hM2⟩ := hM
    have hg' : w.heap.size ≤ g' := hM2 g' rfl
    have hr := hP.out.blk.lt
    obtain ⟨V2, hV2⟩ : ∃ V2, V2 = V.setCell ⟨g', k, none⟩ (slv8 (v1, v2, v3)) := ⟨_, rfl⟩
    have kV2 : Keeps (fun _ => False) w V2 := by rw [hV2]; exact kV.setCell (fun h => by have : g' < w.heap.size := h; omega) _
    have hM' : (V.setCell ⟨g', k, none⟩ (slv8 (v1, v2, v3))).ownsRow 0 listK.e listK.size (.slice (some ⟨g', 0, none⟩) n c') n ((listK.cs ws).set k (slv8 (v1, v2, v3))) := by
      have := hM1
      unfold RK.Row at this
      rw [hn'.out] at this
      exact (this.stored k _).1
    have hcs : (listK.cs ws).set k (slv8 (v1, v2, v3)) = listK.cs (ws.set k (v1, v2, v3)) := by
      show (ws.map slv8).set k _ = (ws.set k _).map slv8
      rw [List.map_set]
    rw [hcs] at hM'
    rw [← hV2] at hM' ⊢
    obtain ⟨V3, hV3⟩ : ∃ V3, V3 = V2.setCell ⟨r, 1, none⟩ (.slice (some ⟨g', 0, none⟩) n c') := ⟨_, rfl⟩
    have ks : Keeps (fun x => x = r) V2 V3 := by rw [hV3]; exact (Keeps.refl (fun x => x = r) V2).setCell (p := ⟨r, 1, none⟩) (fun _ => rfl) _
    rw [← hV3]
    have kk : Keeps (fun x => x = r) w V3 := (kV2.mono fun _ _ => False.elim).trans ks fun _ _ e => e
    have nrow : ∀ {t : TypeId} {size : Nat} {v : Value} {m : Nat} {xs : List Value}, w.ownsRow 0 t size v m xs → t ≠ 92 → ∀ g, v.ownBlock = some g → ¬ g = r := fun hv n2 g hg e => row_ne hv hP.out.blk n2 (by rw [hg, e])
    have hlen : (ws.set k (v1, v2, v3)).length = n := by rw [List.length_set]; exact hn'.out
    refine ⟨fun y => Y y ∨ y = g' ∨ (slv8 (v1, v2, v3)).ownBlock = some y, ⟨vK, _, ws.set k (v1, v2, v3), {
      blk := by rw [hV3]; exact (hP.out.blk.keeps kV2 id).set_ 1 _
      kinds := ownsRow_keeps hP.out.kinds kk (nrow hP.out.kinds (by decide))
      lists := by
        show World.ownsRow _ _ _ _ _ (ws.set k (v1, v2, v3)).length _
        rw [hlen]
        exact ownsRow_keeps hM' ks fun x hx e => by
          simp [Value.ownBlock] at hx
          omega
      len := by rw [hlen, ← hn'.out, hP.out.len]; simp [M8.setC]
      each := fun j u m hu hm => by
        have hm' : (A.L.set k W)[j]? = some m := by simpa [M8.setC] using hm
        by_cases e : j = k
        · subst e
          have h1 : (v1, v2, v3) = u := by
            have := List.getElem?_set_self (l := ws) (a := ((v1, v2, v3) : Sl8)) (i := j) (by rw [hn'.out]; exact kn)
            rw [this] at hu
            exact Option.some.inj hu
          have h2 : W = m := by
            have := List.getElem?_set_self (l := A.L) (a := W) (i := j) hk
            rw [this] at hm'
            exact Option.some.inj hm'
          subst h1 h2
          exact ownsRow_keeps hv kk (nrow hv (by decide))
        · rw [List.getElem?_set_ne (fun h => e h.symm)] at hu hm'
          exact ownsRow_keeps (hP.out.each j u m hu hm') kk (nrow (hP.out.each j u m hu hm') (by decide))
      inY := ⟨.inl hP.out.inY.1, fun x hx => .inl (hP.out.inY.2.1 x hx), fun x hx => .inr (.inl (by simp [Value.ownBlock] at hx; omega)), fun u hu x hx => by
        rcases List.mem_or_eq_of_mem_set hu with h | h
        · exact .inl (hP.out.inY.2.2.2 u h x hx)
        · subst h; exact .inr (.inr hx)⟩
      old := fun y hy => by
        rcases hy with hy | hy | hy
        · exact Nat.lt_of_lt_of_le (hP.out.old y hy) kk.size
        · rw [hy]; exact (World.ownsRow.lt (ownsRow_keeps hM' ks fun x hx e => by simp [Value.ownBlock] at hx; omega) g' rfl).2
        · exact Nat.lt_of_lt_of_le (World.ownsRow.lt hv y hy).2 kk.size }⟩, fun y hy => ?_, kk⟩
    rcases hy with hy | hy | hy
    · exact .inl hy
    · exact .inr (by rw [hy]; omega)
    · exact .inr (hown y hy)
  have FIN := Lib.hid fin
  clear fin h hl few ho hk hv hown hn k1
  have hr := hP.out.blk.lt
  simp only [slv8] at FIN ⊢
  go_enter Tryz.func42, Tryz.ntmps42
  go_wp2_with (first
    | (at_builtin; refine wpList_append_row listK rfl _ _ rfl w _ [] ws rfl M0.out k1'.out _ rfl R0.out n (by rw [List.length_nil, Nat.zero_add]; exact hn'.out) (by omega) ?_; intro ao ac w2 hM hK _; obtain ⟨g2, rfl, hg2⟩ := mine_some hM hn'.out (by omega); have M2 := Lib.hid hM; have K2 := Lib.hid hK; obtain ⟨e0, e1⟩ := mine_cell hM hn'.out k (by show k < n * 1; omega); rw [show (listK.cs ([] ++ ws))[k]? = some (slv8 (ws[k]'(by rw [hn'.out]; exact kn))) from (by show (ws.map slv8)[k]? = _; rw [List.getElem?_map, List.getElem?_eq_getElem (by rw [hn'.out]; exact kn)]; rfl)] at e0; obtain ⟨f1, f2, _⟩ := S1.out w2 hK; have hne : ¬ g2 = r := (by omega); have hne' : ¬ r = g2 := (by omega); clear hM hK))
  go_end0
  exact ⟨rfl, FIN.out _ _ _ M2.out K2.out⟩
end Go.Proofs.YthidipigpfcbbaaGreatDoor

namespace Go.Proofs.YthidipigpfcbbaaGreatDoor
open Go.RowKit Go.Maps Go.Extern.Stop Go.Stop Go.Extern

theorem RSet.mid {w wc w' : World} {r : Nat} {A0 A : M8} {Y : Nat → Prop} (h : RM w r A0 Y) (k : Keeps (fun _ => False) w wc) (hs : RSet wc w' r A Y w.heap.size) : RMid w w' r A Y := by
  obtain ⟨Y', h1, h2, h3⟩ := hs
  exact ⟨Y', h1, h2, (k.mono fun _ _ => False.elim : Keeps Y w wc).trans h3 fun x _ e => by rw [e]; exact h.inY⟩
theorem Mine.alloc {α : Type} {K : RK α} {w0 w : World} {v : Value} {l : List α} (h : Mine K w0 w v l) (o : Obj) : Mine K w0 (w.alloc o) v l := h.same ((Keeps.refl _ w).alloc o)
theorem prow_lit {w : World} {b : Nat} {p : Int × Int} (h : Whole w b 59 #[.int .i64 p.1, .int .i64 p.2]) : PRow w (.slice (some ⟨b, 0, none⟩) 1 1) [p] :=
  ⟨rfl, .inr ⟨b, 1, _, rfl, Nat.zero_le _, h, Nat.le_refl _, (by decide : 1 ≤ maxLen), rfl, rfl⟩⟩
theorem made_next (w : World) (o : Obj) (t : TypeId) (cs : Array Value) : Whole ((w.alloc o).alloc (.cells cs t)) (w.heap.size + 1) t cs := by
  have := Whole.made (w.alloc o) t cs
  rwa [World.size_alloc] at this

set_option maxRecDepth 100000 in
set_option maxHeartbeats 2000000 in
theorem rdel8 {w : World} {r : Nat} {A : M8} {Y : Nat → Prop} (h : RM w r A Y) (hok : A.Ok) (c key : Int) :
    Calls Tryz.prog 59 #[.pointer (some ⟨r, 0, none⟩), .int .i64 c, .int .i64 key] w fun e w' => e = .returned (.int .i64 ((mDel A c key).2 : Nat)) ∧ RMid w w' r (mDel A c key).1 Y := by
  have CT := there_any h hok c
  by_cases ht : A.there c
  · rw [decide_eq_true ht] at CT
    have CT := Lib.hid CT
    obtain ⟨k, rfl, hk⟩ := nat_of_there ht
    obtain ⟨W, hW⟩ : ∃ W, A.col (k : Int) = W := ⟨_, rfl⟩
    have ea : mDel A (k : Int) key = (A.setC (k : Int) (del W key), 0) := by unfold mDel; rw [if_pos ht, hW]
    rw [hW] at hk
    have hkl : k < A.L.length := (List.getElem?_eq_some_iff.1 hk).1
    have few := (hok.ups W (List.mem_of_getElem? hk)).2
    obtain ⟨g, m, cap, o, n, cc, hA⟩ := h.colAt hk
    have hn' := Lib.hid hA.len
    have fewn : n ≤ 100 := by have := hA.len; omega
    have km' : (k : Int) < (m : Int) := by have := hA.lt; omega
    obtain ⟨o', c', e, ho⟩ := prow_cells hA.row hA.len
    injection e with e1 e2 e3
    subst e1
    rw [ea]
    have HA := Lib.hid hA
    have c1 := hA.outer
    have c2 := hA.inner
    have H0 := Lib.hid h
    have ok := Lib.hid hok
    clear h ht hk hA ea e3 e2 few hok
    go_enter Tryz.func59, Tryz.ntmps59
    go_wp2_with (first | (go_at_call 40; refine CT.out.mono ?_; rintro e w' ⟨rfl, rfl⟩))
    go_loopw [7, 8] (fun lv iv wr => ∃ (i : Nat) (lo : Option Addr) (kk lc : Nat), iv = .int .i64 i ∧ lv = .slice lo kk lc ∧ i ≤ n ∧ kk ≤ i ∧ (del (W.take i) key).length = kk ∧ Mine pairK w wr (.slice lo kk lc) (del (W.take i) key) ∧ Keeps (fun _ => False) w wr) (fun lv iv _ => n - (intOf iv).toNat)
    case atStart => exact ⟨0, none, 0, 0, rfl, rfl, Nat.zero_le _, Nat.le_refl _, rfl, ⟨World.ownsRow_nil .., fun g hg => by simp [Value.ownBlock] at hg⟩, Keeps.refl _ _⟩
    case round =>
      clear c1 c2
      obtain ⟨i, lo, kk, lc, rfl, rfl, hi, hkk, hlk, hM, hK⟩ := hrel
      have lk := Lib.hid hlk
      replace lk := lk.out
      have M1 := Lib.hid hM
      have K1 := Lib.hid hK
      have d1 := (HA.out.same hK).outer
      have d2 := (HA.out.same hK).inner
      by_cases hlt : i < n
      · have b1 : (i : Int) < (n : Int) := by omega
        obtain ⟨g', rfl, hc⟩ := ho (by omega)
        obtain ⟨d, u, hd⟩ : ∃ d u, W[i]? = some (d, u) := ⟨_, _, List.getElem?_eq_getElem (by rw [hn'.out]; exact hlt)⟩
        obtain ⟨q0, q1⟩ := hc i _ hd
        have d3 := (hK.cell (cell_lt q0) id).trans q0
        have d4 := (hK.cell (cell_lt q1) id).trans q1
        simp only at d3 d4
        have DT := Lib.hid (del_take (k := key) hd)
        clear hM hK q0 q1 hc hd ho
        by_cases he : d = key
        · subst he
          have hb : (d != d) = false := by simp
          clear hlk
          go_wp2_with fail
          go_roundw
          case rel =>
            have e0 := DT.out
            rw [if_pos rfl, List.append_nil] at e0
            exact ⟨i + 1, lo, kk, lc, by go_num, rfl, by omega, by omega, by rw [e0]; exact lk, by rw [e0]; exact M1.out, K1.out⟩
          case measure => simp [intOf]; omega
        · have hb : (d != key) = true := by simpa using he
          go_wp2_with (first
            | (at_builtin; refine wpList_append_row pairK rfl _ _ rfl w _ (del (W.take i) key) [(d, u)] rfl (M1.out.alloc _) (K1.out.alloc _) _ rfl (prow_lit (p := (d, u)) (Whole.made wr 59 #[.int .i64 ((d, u)).1, .int .i64 ((d, u)).2])) (kk + 1) (by simp [lk]) (by omega) ?_; intro ao2 ac2 w2 hM hK hK3; have M2 := Lib.hid hM; have K2 := Lib.hid hK; clear hM hK hK3))
          go_roundw
          case rel =>
            have e0 := DT.out
            rw [if_neg he] at e0
            exact ⟨i + 1, ao2, kk + 1, ac2, by go_num, rfl, by omega, by omega, by rw [e0, List.length_append, lk]; rfl, by rw [e0]; exact M2.out, K2.out⟩
          case measure => simp [intOf]; omega
      · obtain rfl : i = n := by omega
        have b1 : ¬ (i : Int) < (i : Int) := by omega
        have ME := Lib.hid (show Mine pairK w wr (.slice lo kk lc) (del W key) from by
          have := M1.out
          rw [List.take_of_length_le (by rw [hn'.out]; exact Nat.le_refl _)] at this
          exact this)
        have KE := K1
        clear hM hK ho hlk
        go_wp2_with (first | (go_at_call 42; refine (rset8 (H0.out.same KE.out) ok.out hkl (v := (lo, kk, lc)) ME.out.1 KE.out.size ME.out.2).mono ?_; rintro e w9 ⟨rfl, hS⟩; have S9 := Lib.hid (RSet.mid H0.out KE.out hS); clear hS))
        go_ret
        exact ⟨rfl, S9.out⟩
  · rw [decide_eq_false ht] at CT
    have CT := Lib.hid CT
    have ea : mDel A c key = (A, 3) := by unfold mDel; rw [if_neg ht]
    rw [ea]
    have H0 := Lib.hid h
    clear h ht ea
    go_enter Tryz.func59, Tryz.ntmps59
    go_wp2_with (first | (go_at_call 40; refine CT.out.mono ?_; rintro e w' ⟨rfl, rfl⟩))
    go_ret
    exact ⟨rfl, RMid.same H0.out (Keeps.refl _ _)⟩

set_option maxRecDepth 100000 in
set_option maxHeartbeats 4000000 in
theorem rput8 {w : World} {r : Nat} {A : M8} {Y : Nat → Prop} (h : RM w r A Y) (hok : A.Ok) (c key v : Int) :
    Calls Tryz.prog 20 #[.pointer (some ⟨r, 0, none⟩), .int .i64 c, .int .i64 key, .int .i64 v] w fun e w' => e = .returned (.int .i64 ((mPut A c key v).2 : Nat)) ∧ RMid w w' r (mPut A c key v).1 Y := by
  have CT := there_any h hok c
  by_cases ht : A.there c
  · rw [decide_eq_true ht] at CT
    have CT := Lib.hid CT
    obtain ⟨k, rfl, hk⟩ := nat_of_there ht
    obtain ⟨kg, km, kcap, k1, k2, k3⟩ := kind_facts h hok ht
    obtain ⟨W, hW⟩ : ∃ W, A.col (k : Int) = W := ⟨_, rfl⟩
    have hk0 := hk
    rw [hW] at hk
    have hkl : k < A.L.length := (List.getElem?_eq_some_iff.1 hk).1
    obtain ⟨up, few⟩ := hok.ups W (List.mem_of_getElem? hk)
    obtain ⟨g, m, cap, o, n, cc, hA⟩ := h.colAt hk
    have hn' := Lib.hid hA.len
    have fewn : n ≤ 100 := by have := hA.len; omega
    have km' : (k : Int) < (m : Int) := by have := hA.lt; omega
    obtain ⟨o', c', e, ho⟩ := prow_cells hA.row hA.len
    injection e with e1 e2 e3
    subst e1
    have cf := find8_any hA (by omega) key
    obtain ⟨z, hz⟩ : ∃ z, (plc W key : Int) - 1 = z := ⟨_, rfl⟩
    rw [hz] at cf
    have CF := Lib.hid cf
    have HA := Lib.hid hA
    have c1 := hA.outer
    have c2 := hA.inner
    have H0 := Lib.hid h
    have ok := Lib.hid hok
    have UP := Lib.hid up
    have hlen := hA.len
    by_cases hfull : look W key = none ∧ 100 ≤ W.length
    · have ea : mPut A (k : Int) key v = (A, 8) := by unfold mPut; rw [if_pos ht, hW, if_pos hfull]
      rw [ea]
      have b1 : z < 0 := by rw [← hz, plc_zero.2 hfull.1]; decide
      have b2 : (100 : Int) ≤ (n : Int) := by have := hfull.2; omega
      clear h ht hk hk0 hA ea e3 e2 few hok cf hz ho up hfull hlen
      go_enter Tryz.func20, Tryz.ntmps20
      go_wp2_with (first | (go_at_call 40; refine CT.out.mono ?_; rintro e w' ⟨rfl, rfl⟩) | (go_at_call 41; refine CF.out.mono ?_; rintro e w' ⟨rfl, rfl⟩))
      go_ret
      exact ⟨rfl, RMid.same H0.out (Keeps.refl _ _)⟩
    have ea : mPut A (k : Int) key v = (A.setC (k : Int) (put W key (mVal A (k : Int) v)), 0) := by unfold mPut; rw [if_pos ht, hW, if_neg hfull]
    rw [ea]
    obtain ⟨vv, hvv⟩ : ∃ vv, mVal A (k : Int) v = vv := ⟨_, rfl⟩
    rw [hvv]
    have hsome : z < 0 → ¬ (100 : Int) ≤ (n : Int) := fun hz0 h5 => hfull ⟨plc_zero.1 (by omega), by omega⟩
    obtain ⟨x, hx⟩ : ∃ x, A.kind (k : Int) = x := ⟨_, rfl⟩
    unfold mVal at hvv
    rw [hx] at k3 hvv
    have C4 : (z < 0 ∧ ¬ (100 : Int) ≤ (n : Int)) ∨ ¬ z < 0 := by
      by_cases e : z < 0
      · exact .inl ⟨e, hsome e⟩
      · exact .inr e
    clear h ht hk hk0 hA ea e3 e2 few hok cf hz up hfull hlen hx hsome
    by_cases hx2 : x = 2
    · subst hx2
      obtain rfl : vv = 1 := hvv.symm
      clear hvv
      rcases C4 with ⟨bz1, bz2⟩ | bz1
      all_goals
        go_enter Tryz.func20, Tryz.ntmps20
        go_wp2_with (first | (go_at_call 40; refine CT.out.mono ?_; rintro e w' ⟨rfl, rfl⟩) | (go_at_call 41; refine CF.out.mono ?_; rintro e w' ⟨rfl, rfl⟩))
        go_loopw [9, 10, 11] (fun lv pv iv wr => ∃ (i : Nat) (lo : Option Addr) (kk lc : Nat) (p : Bool), iv = .int .i64 i ∧ lv = .slice lo kk lc ∧ pv = .bool p ∧ i ≤ n ∧ kk ≤ i + 1 ∧ (wl (W.take i) key 1 p).length = kk ∧ Mine pairK w wr (.slice lo kk lc) (wl (W.take i) key 1 p) ∧ Keeps (fun _ => False) w wr ∧ wp_ (W.take i) key p) (fun _ _ iv _ => n - (intOf iv).toNat)
        case atStart => exact ⟨0, none, 0, 0, false, rfl, rfl, rfl, Nat.zero_le _, Nat.zero_le _, rfl, ⟨World.ownsRow_nil .., fun g hg => by simp [Value.ownBlock] at hg⟩, Keeps.refl _ _, fun _ x hx => by simp at hx, fun h => by cases h⟩
        case round =>
          clear c1 c2
          obtain ⟨i, lo, kk, lc, p, rfl, rfl, rfl, hi, hkk, hlk, hM, hK, hp⟩ := hrel
          have M1 := Lib.hid hM
          have K1 := Lib.hid hK
          have P1 := Lib.hid hp
          have d1 := (HA.out.same hK).outer
          have d2 := (HA.out.same hK).inner
          have nB : ¬ (Value.slice lo kk lc).ownBlock = some wr.heap.size := fun e => by have := (World.ownsRow.lt hM.1 _ e).2; omega
          have lk := hlk
          have hlk' := Lib.hid hlk
          by_cases hlt : i < n
          · have b1 : (i : Int) < (n : Int) := by omega
            obtain ⟨g', rfl, hc⟩ := ho (by omega)
            obtain ⟨d, u, hd⟩ : ∃ d u, W[i]? = some (d, u) := ⟨_, _, List.getElem?_eq_getElem (by rw [hn'.out]; exact hlt)⟩
            obtain ⟨q0, q1⟩ := hc i _ hd
            have d3 := (hK.cell (cell_lt q0) id).trans q0
            have d4 := (hK.cell (cell_lt q1) id).trans q1
            simp only at d3 d4
            have HT := Lib.hid (take_add hd)
            have HB := Lib.hid (show ∀ x ∈ W.take i, x.1 < d from fun x hx => by
              obtain ⟨j, hj, rfl⟩ := List.getElem_of_mem hx
              have hj' : j < i := by rw [List.length_take] at hj; omega
              rw [List.getElem_take]
              exact up_at UP.out (List.getElem?_eq_getElem (by rw [hn'.out]; omega)) hd hj')
            clear hM hK q0 q1 hc hd ho hlk hp
            rcases Int.lt_trichotomy d key with hdc | hdc | hdc
            · -- ahead of the key: nothing is put yet
              have hpf : p = false := by
                cases p with
                | false => rfl
                | true =>
                  obtain ⟨x, hx, hcx⟩ := P1.out.2 rfl
                  have := HB.out x hx
                  omega
              subst hpf
              have e1 : decide (key ≤ d) = false := decide_eq_false (by omega)
              have e2 : (d != key) = true := by simp; omega
              go_wp2_with (first | (at_builtin; refine wpList_append_row pairK rfl _ _ rfl w _ (wl (W.take i) key 1 false) [(d, u)] rfl ((M1.out.alloc _).alloc _) ((K1.out.alloc _).alloc _) _ rfl (prow_lit (p := (d, u)) (made_next wr _ 59 #[.int .i64 ((d, u)).1, .int .i64 ((d, u)).2])) (kk + 1) (by simp [lk]) (by omega) ?_; intro ao2 ac2 w2 hM hK hK3; have M2 := Lib.hid hM; have K2 := Lib.hid hK; clear hM hK hK3))
              go_roundw
              case rel => exact ⟨i + 1, ao2, kk + 1, ac2, false, by go_num, rfl, rfl, by omega, by omega, by rw [HT.out]; show (W.take i ++ [(d, u)]).length = _; rw [List.length_append]; exact congrArg (· + 1) hlk'.out, by rw [HT.out]; exact M2.out, K2.out, fun _ x hx => by
                rw [HT.out] at hx
                rcases List.mem_append.1 hx with hx | hx
                · exact P1.out.1 rfl x hx
                · simp at hx; subst hx; exact hdc, fun h => by cases h⟩
              case measure => simp [intOf]; omega
            · -- the key itself
              subst hdc
              have hpf : p = false := by
                cases p with
                | false => rfl
                | true =>
                  obtain ⟨x, hx, hcx⟩ := P1.out.2 rfl
                  have := HB.out x hx
                  omega
              subst hpf
              have e1 : d ≤ d := by omega
              have e2 : (d != d) = false := by simp
              go_wp2_with (first | (at_builtin; refine wpList_append_row pairK rfl _ _ rfl w _ (wl (W.take i) d 1 false) [(d, 1)] rfl ((M1.out.alloc _).alloc _) ((K1.out.alloc _).alloc _) _ rfl (prow_lit (p := (d, 1)) (made_next wr _ 59 #[.int .i64 ((d, 1)).1, .int .i64 ((d, 1)).2])) (kk + 1) (by simp [lk]) (by omega) ?_; intro ao2 ac2 w2 hM hK hK3; have M2 := Lib.hid hM; have K2 := Lib.hid hK; have z4 : w2.cell? ⟨wr.heap.size, 0, none⟩ = some (.int .i64 d) := (((Whole.made wr 59 #[.int .i64 d, .int .i64 u]).alloc _).keeps hK3 nB).at_ 0; have z5 : w2.cell? ⟨wr.heap.size, 1, none⟩ = some (.int .i64 u) := (((Whole.made wr 59 #[.int .i64 d, .int .i64 u]).alloc _).keeps hK3 nB).at_ 1; clear hM hK hK3))
              go_roundw
              case rel => exact ⟨i + 1, ao2, kk + 1, ac2, true, by go_num, rfl, rfl, by omega, by omega, by
                rw [HT.out]
                show (put (W.take i ++ [(d, u)]) d 1).length = _
                rw [put_eq HB.out, List.length_append]
                exact congrArg (· + 1) hlk'.out, by
                rw [HT.out]
                show Mine pairK w w2 _ (put (W.take i ++ [(d, u)]) d 1)
                rw [put_eq HB.out]
                exact M2.out, K2.out, (fun h => by cases h), fun _ => ⟨(d, u), by rw [HT.out]; simp, e1⟩⟩
              case measure => simp [intOf]; omega
            · have e1 : key ≤ d := by omega
              have e2 : (d != key) = true := by simp; omega
              cases p with
              | true =>
                go_wp2_with (first | (at_builtin; refine wpList_append_row pairK rfl _ _ rfl w _ (wl (W.take i) key 1 true) [(d, u)] rfl ((M1.out.alloc _).alloc _) ((K1.out.alloc _).alloc _) _ rfl (prow_lit (p := (d, u)) (made_next wr _ 59 #[.int .i64 ((d, u)).1, .int .i64 ((d, u)).2])) (kk + 1) (by simp [lk]) (by omega) ?_; intro ao2 ac2 w2 hM hK hK3; have M2 := Lib.hid hM; have K2 := Lib.hid hK; clear hM hK hK3))
                go_roundw
                case rel => exact ⟨i + 1, ao2, kk + 1, ac2, true, by go_num, rfl, rfl, by omega, by omega, by
                  rw [HT.out]
                  show (put (W.take i ++ [(d, u)]) key 1).length = _
                  rw [put_gt hdc, List.length_append]
                  exact congrArg (· + 1) hlk'.out, by
                  rw [HT.out]
                  show Mine pairK w w2 _ (put (W.take i ++ [(d, u)]) key 1)
                  rw [put_gt hdc]
                  exact M2.out, K2.out, (fun h => by cases h), fun _ => ⟨(d, u), by rw [HT.out]; simp, e1⟩⟩
                case measure => simp [intOf]; omega
              | false =>
                have hkk' : kk ≤ i := by
                  have h1 : (W.take i).length = kk := hlk'.out
                  rw [List.length_take] at h1
                  omega
                go_wp2_with (first
                  | (at_builtin; refine wpList_append_row pairK rfl _ _ rfl w _ ((wl (W.take i) key 1 false) ++ [(key, 1)]) [(d, u)] rfl (M2.out.alloc _) (K2.out.alloc _) _ rfl (prow_lit (p := (d, u)) (Whole.made w2 59 #[.int .i64 ((d, u)).1, .int .i64 ((d, u)).2])) (kk + 1 + 1) (by simp [lk]) (by omega) ?_; intro ao3 ac3 w3 hM hK hK3; have M3 := Lib.hid hM; have K3 := Lib.hid hK; clear hM hK hK3)
                  | (at_builtin; refine wpList_append_row pairK rfl _ _ rfl w _ (wl (W.take i) key 1 false) [(key, 1)] rfl ((M1.out.alloc _).alloc _) ((K1.out.alloc _).alloc _) _ rfl (prow_lit (p := (key, 1)) (made_next wr _ 59 #[.int .i64 ((key, 1)).1, .int .i64 ((key, 1)).2])) (kk + 1) (by simp [lk]) (by omega) ?_; intro ao2 ac2 w2 hM hK hK3; have M2 := Lib.hid hM; have K2 := Lib.hid hK; have z4 : w2.cell? ⟨wr.heap.size, 0, none⟩ = some (.int .i64 d) := (((Whole.made wr 59 #[.int .i64 d, .int .i64 u]).alloc _).keeps hK3 nB).at_ 0; have z5 : w2.cell? ⟨wr.heap.size, 1, none⟩ = some (.int .i64 u) := (((Whole.made wr 59 #[.int .i64 d, .int .i64 u]).alloc _).keeps hK3 nB).at_ 1; clear hM hK hK3))
                go_roundw
                case rel => exact ⟨i + 1, ao3, kk + 1 + 1, ac3, true, by go_num, rfl, rfl, by omega, by omega, by
                  rw [HT.out]
                  show (put (W.take i ++ [(d, u)]) key 1).length = _
                  rw [put_gt hdc, put_all (P1.out.1 rfl), List.length_append, List.length_append]
                  exact congrArg (· + 1 + 1) hlk'.out, by
                  rw [HT.out]
                  show Mine pairK w w3 _ (put (W.take i ++ [(d, u)]) key 1)
                  rw [put_gt hdc, put_all (P1.out.1 rfl)]
                  exact M3.out, K3.out, (fun h => by cases h), fun _ => ⟨(d, u), by rw [HT.out]; simp, e1⟩⟩
                case measure => simp [intOf]; omega
          · obtain rfl : i = n := by omega
            have b1 : ¬ (i : Int) < (i : Int) := by omega
            have ht : W.take i = W := List.take_of_length_le (by rw [hn'.out]; exact Nat.le_refl _)
            rw [ht] at M1 P1 lk
            clear hM hK hp ho hlk hlk'
            cases p with
            | true =>
              have ME := Lib.hid (show Mine pairK w wr (.slice lo kk lc) (put W key 1) from M1.out)
              have KE := K1
              go_wp2_with (first | (go_at_call 42; refine (rset8 (H0.out.same KE.out) ok.out hkl (v := (lo, kk, lc)) ME.out.1 KE.out.size ME.out.2).mono ?_; rintro e w9 ⟨rfl, hS⟩; have S9 := Lib.hid (RSet.mid H0.out KE.out hS); clear hS))
              go_ret
              exact ⟨rfl, S9.out⟩
            | false =>
              go_wp2_with (first
                | (go_at_call 42; refine (rset8 (H0.out.same KE.out) ok.out hkl (v := (ao2, kk + 1, ac2)) ME.out.1 KE.out.size ME.out.2).mono ?_; rintro e w9 ⟨rfl, hS⟩; have S9 := Lib.hid (RSet.mid H0.out KE.out hS); clear hS)
                | (at_builtin; refine wpList_append_row pairK rfl _ _ rfl w _ (wl W key 1 false) [(key, 1)] rfl (M1.out.alloc _) (K1.out.alloc _) _ rfl (prow_lit (p := (key, 1)) (Whole.made wr 59 #[.int .i64 ((key, 1)).1, .int .i64 ((key, 1)).2])) (kk + 1) (by simp [lk]) (by omega) ?_; intro ao2 ac2 w2 hM hK hK3; have M2 := Lib.hid hM; have K2 := Lib.hid hK; have ME := Lib.hid (show Mine pairK w w2 (.slice ao2 (kk + 1) ac2) (put W key 1) from by rw [put_all (P1.out.1 rfl)]; exact hM); have KE := Lib.hid hK; clear hM hK hK3))
              go_ret
              exact ⟨rfl, S9.out⟩
    · rw [if_neg hx2] at hvv
      subst hvv
      have hb2 : (x == 2) = false := by simpa using hx2
      clear hx2
      rcases C4 with ⟨bz1, bz2⟩ | bz1
      all_goals
        go_enter Tryz.func20, Tryz.ntmps20
        go_wp2_with (first | (go_at_call 40; refine CT.out.mono ?_; rintro e w' ⟨rfl, rfl⟩) | (go_at_call 41; refine CF.out.mono ?_; rintro e w' ⟨rfl, rfl⟩))
        go_loopw [9, 10, 11] (fun lv pv iv wr => ∃ (i : Nat) (lo : Option Addr) (kk lc : Nat) (p : Bool), iv = .int .i64 i ∧ lv = .slice lo kk lc ∧ pv = .bool p ∧ i ≤ n ∧ kk ≤ i + 1 ∧ (wl (W.take i) key v p).length = kk ∧ Mine pairK w wr (.slice lo kk lc) (wl (W.take i) key v p) ∧ Keeps (fun _ => False) w wr ∧ wp_ (W.take i) key p) (fun _ _ iv _ => n - (intOf iv).toNat)
        case atStart => exact ⟨0, none, 0, 0, false, rfl, rfl, rfl, Nat.zero_le _, Nat.zero_le _, rfl, ⟨World.ownsRow_nil .., fun g hg => by simp [Value.ownBlock] at hg⟩, Keeps.refl _ _, fun _ x hx => by simp at hx, fun h => by cases h⟩
        case round =>
          clear c1 c2
          obtain ⟨i, lo, kk, lc, p, rfl, rfl, rfl, hi, hkk, hlk, hM, hK, hp⟩ := hrel
          have M1 := Lib.hid hM
          have K1 := Lib.hid hK
          have P1 := Lib.hid hp
          have d1 := (HA.out.same hK).outer
          have d2 := (HA.out.same hK).inner
          have nB : ¬ (Value.slice lo kk lc).ownBlock = some wr.heap.size := fun e => by have := (World.ownsRow.lt hM.1 _ e).2; omega
          have lk := hlk
          have hlk' := Lib.hid hlk
          by_cases hlt : i < n
          · have b1 : (i : Int) < (n : Int) := by omega
            obtain ⟨g', rfl, hc⟩ := ho (by omega)
            obtain ⟨d, u, hd⟩ : ∃ d u, W[i]? = some (d, u) := ⟨_, _, List.getElem?_eq_getElem (by rw [hn'.out]; exact hlt)⟩
            obtain ⟨q0, q1⟩ := hc i _ hd
            have d3 := (hK.cell (cell_lt q0) id).trans q0
            have d4 := (hK.cell (cell_lt q1) id).trans q1
            simp only at d3 d4
            have HT := Lib.hid (take_add hd)
            have HB := Lib.hid (show ∀ x ∈ W.take i, x.1 < d from fun x hx => by
              obtain ⟨j, hj, rfl⟩ := List.getElem_of_mem hx
              have hj' : j < i := by rw [List.length_take] at hj; omega
              rw [List.getElem_take]
              exact up_at UP.out (List.getElem?_eq_getElem (by rw [hn'.out]; omega)) hd hj')
            clear hM hK q0 q1 hc hd ho hlk hp
            rcases Int.lt_trichotomy d key with hdc | hdc | hdc
            · -- ahead of the key: nothing is put yet
              have hpf : p = false := by
                cases p with
                | false => rfl
                | true =>
                  obtain ⟨x, hx, hcx⟩ := P1.out.2 rfl
                  have := HB.out x hx
                  omega
              subst hpf
              have e1 : decide (key ≤ d) = false := decide_eq_false (by omega)
              have e2 : (d != key) = true := by simp; omega
              go_wp2_with (first | (at_builtin; refine wpList_append_row pairK rfl _ _ rfl w _ (wl (W.take i) key v false) [(d, u)] rfl ((M1.out.alloc _).alloc _) ((K1.out.alloc _).alloc _) _ rfl (prow_lit (p := (d, u)) (made_next wr _ 59 #[.int .i64 ((d, u)).1, .int .i64 ((d, u)).2])) (kk + 1) (by simp [lk]) (by omega) ?_; intro ao2 ac2 w2 hM hK hK3; have M2 := Lib.hid hM; have K2 := Lib.hid hK; clear hM hK hK3))
              go_roundw
              case rel => exact ⟨i + 1, ao2, kk + 1, ac2, false, by go_num, rfl, rfl, by omega, by omega, by rw [HT.out]; show (W.take i ++ [(d, u)]).length = _; rw [List.length_append]; exact congrArg (· + 1) hlk'.out, by rw [HT.out]; exact M2.out, K2.out, fun _ x hx => by
                rw [HT.out] at hx
                rcases List.mem_append.1 hx with hx | hx
                · exact P1.out.1 rfl x hx
                · simp at hx; subst hx; exact hdc, fun h => by cases h⟩
              case measure => simp [intOf]; omega
            · -- the key itself
              subst hdc
              have hpf : p = false := by
                cases p with
                | false => rfl
                | true =>
                  obtain ⟨x, hx, hcx⟩ := P1.out.2 rfl
                  have := HB.out x hx
                  omega
              subst hpf
              have e1 : d ≤ d := by omega
              have e2 : (d != d) = false := by simp
              go_wp2_with (first | (at_builtin; refine wpList_append_row pairK rfl _ _ rfl w _ (wl (W.take i) d v false) [(d, v)] rfl ((M1.out.alloc _).alloc _) ((K1.out.alloc _).alloc _) _ rfl (prow_lit (p := (d, v)) (made_next wr _ 59 #[.int .i64 ((d, v)).1, .int .i64 ((d, v)).2])) (kk + 1) (by simp [lk]) (by omega) ?_; intro ao2 ac2 w2 hM hK hK3; have M2 := Lib.hid hM; have K2 := Lib.hid hK; have z4 : w2.cell? ⟨wr.heap.size, 0, none⟩ = some (.int .i64 d) := (((Whole.made wr 59 #[.int .i64 d, .int .i64 u]).alloc _).keeps hK3 nB).at_ 0; have z5 : w2.cell? ⟨wr.heap.size, 1, none⟩ = some (.int .i64 u) := (((Whole.made wr 59 #[.int .i64 d, .int .i64 u]).alloc _).keeps hK3 nB).at_ 1; clear hM hK hK3))
              go_roundw
              case rel => exact ⟨i + 1, ao2, kk + 1, ac2, true, by go_num, rfl, rfl, by omega, by omega, by
                rw [HT.out]
                show (put (W.take i ++ [(d, u)]) d v).length = _
                rw [put_eq HB.out, List.length_append]
                exact congrArg (· + 1) hlk'.out, by
                rw [HT.out]
                show Mine pairK w w2 _ (put (W.take i ++ [(d, u)]) d v)
                rw [put_eq HB.out]
                exact M2.out, K2.out, (fun h => by cases h), fun _ => ⟨(d, u), by rw [HT.out]; simp, e1⟩⟩
              case measure => simp [intOf]; omega
            · have e1 : key ≤ d := by omega
              have e2 : (d != key) = true := by simp; omega
              cases p with
              | true =>
                go_wp2_with (first | (at_builtin; refine wpList_append_row pairK rfl _ _ rfl w _ (wl (W.take i) key v true) [(d, u)] rfl ((M1.out.alloc _).alloc _) ((K1.out.alloc _).alloc _) _ rfl (prow_lit (p := (d, u)) (made_next wr _ 59 #[.int .i64 ((d, u)).1, .int .i64 ((d, u)).2])) (kk + 1) (by simp [lk]) (by omega) ?_; intro ao2 ac2 w2 hM hK hK3; have M2 := Lib.hid hM; have K2 := Lib.hid hK; clear hM hK hK3))
                go_roundw
                case rel => exact ⟨i + 1, ao2, kk + 1, ac2, true, by go_num, rfl, rfl, by omega, by omega, by
                  rw [HT.out]
                  show (put (W.take i ++ [(d, u)]) key v).length = _
                  rw [put_gt hdc, List.length_append]
                  exact congrArg (· + 1) hlk'.out, by
                  rw [HT.out]
                  show Mine pairK w w2 _ (put (W.take i ++ [(d, u)]) key v)
                  rw [put_gt hdc]
                  exact M2.out, K2.out, (fun h => by cases h), fun _ => ⟨(d, u), by rw [HT.out]; simp, e1⟩⟩
                case measure => simp [intOf]; omega
              | false =>
                have hkk' : kk ≤ i := by
                  have h1 : (W.take i).length = kk := hlk'.out
                  rw [List.length_take] at h1
                  omega
                go_wp2_with (first
                  | (at_builtin; refine wpList_append_row pairK rfl _ _ rfl w _ ((wl (W.take i) key v false) ++ [(key, v)]) [(d, u)] rfl (M2.out.alloc _) (K2.out.alloc _) _ rfl (prow_lit (p := (d, u)) (Whole.made w2 59 #[.int .i64 ((d, u)).1, .int .i64 ((d, u)).2])) (kk + 1 + 1) (by simp [lk]) (by omega) ?_; intro ao3 ac3 w3 hM hK hK3; have M3 := Lib.hid hM; have K3 := Lib.hid hK; clear hM hK hK3)
                  | (at_builtin; refine wpList_append_row pairK rfl _ _ rfl w _ (wl (W.take i) key v false) [(key, v)] rfl ((M1.out.alloc _).alloc _) ((K1.out.alloc _).alloc _) _ rfl (prow_lit (p := (key, v)) (made_next wr _ 59 #[.int .i64 ((key, v)).1, .int .i64 ((key, v)).2])) (kk + 1) (by simp [lk]) (by omega) ?_; intro ao2 ac2 w2 hM hK hK3; have M2 := Lib.hid hM; have K2 := Lib.hid hK; have z4 : w2.cell? ⟨wr.heap.size, 0, none⟩ = some (.int .i64 d) := (((Whole.made wr 59 #[.int .i64 d, .int .i64 u]).alloc _).keeps hK3 nB).at_ 0; have z5 : w2.cell? ⟨wr.heap.size, 1, none⟩ = some (.int .i64 u) := (((Whole.made wr 59 #[.int .i64 d, .int .i64 u]).alloc _).keeps hK3 nB).at_ 1; clear hM hK hK3))
                go_roundw
                case rel => exact ⟨i + 1, ao3, kk + 1 + 1, ac3, true, by go_num, rfl, rfl, by omega, by omega, by
                  rw [HT.out]
                  show (put (W.take i ++ [(d, u)]) key v).length = _
                  rw [put_gt hdc, put_all (P1.out.1 rfl), List.length_append, List.length_append]
                  exact congrArg (· + 1 + 1) hlk'.out, by
                  rw [HT.out]
                  show Mine pairK w w3 _ (put (W.take i ++ [(d, u)]) key v)
                  rw [put_gt hdc, put_all (P1.out.1 rfl)]
                  exact M3.out, K3.out, (fun h => by cases h), fun _ => ⟨(d, u), by rw [HT.out]; simp, e1⟩⟩
                case measure => simp [intOf]; omega
          · obtain rfl : i = n := by omega
            have b1 : ¬ (i : Int) < (i : Int) := by omega
            have ht : W.take i = W := List.take_of_length_le (by rw [hn'.out]; exact Nat.le_refl _)
            rw [ht] at M1 P1 lk
            clear hM hK hp ho hlk hlk'
            cases p with
            | true =>
              have ME := Lib.hid (show Mine pairK w wr (.slice lo kk lc) (put W key v) from M1.out)
              have KE := K1
              go_wp2_with (first | (go_at_call 42; refine (rset8 (H0.out.same KE.out) ok.out hkl (v := (lo, kk, lc)) ME.out.1 KE.out.size ME.out.2).mono ?_; rintro e w9 ⟨rfl, hS⟩; have S9 := Lib.hid (RSet.mid H0.out KE.out hS); clear hS))
              go_ret
              exact ⟨rfl, S9.out⟩
            | false =>
              go_wp2_with (first
                | (go_at_call 42; refine (rset8 (H0.out.same KE.out) ok.out hkl (v := (ao2, kk + 1, ac2)) ME.out.1 KE.out.size ME.out.2).mono ?_; rintro e w9 ⟨rfl, hS⟩; have S9 := Lib.hid (RSet.mid H0.out KE.out hS); clear hS)
                | (at_builtin; refine wpList_append_row pairK rfl _ _ rfl w _ (wl W key v false) [(key, v)] rfl (M1.out.alloc _) (K1.out.alloc _) _ rfl (prow_lit (p := (key, v)) (Whole.made wr 59 #[.int .i64 ((key, v)).1, .int .i64 ((key, v)).2])) (kk + 1) (by simp [lk]) (by omega) ?_; intro ao2 ac2 w2 hM hK hK3; have M2 := Lib.hid hM; have K2 := Lib.hid hK; have ME := Lib.hid (show Mine pairK w w2 (.slice ao2 (kk + 1) ac2) (put W key v) from by rw [put_all (P1.out.1 rfl)]; exact hM); have KE := Lib.hid hK; clear hM hK hK3))
              go_ret
              exact ⟨rfl, S9.out⟩
  · rw [decide_eq_false ht] at CT
    have CT := Lib.hid CT
    have ea : mPut A c key v = (A, 3) := by unfold mPut; rw [if_neg ht]
    rw [ea]
    have H0 := Lib.hid h
    clear h ht ea
    go_enter Tryz.func20, Tryz.ntmps20
    go_wp2_with (first | (go_at_call 40; refine CT.out.mono ?_; rintro e w' ⟨rfl, rfl⟩))
    go_ret
    exact ⟨rfl, RMid.same H0.out (Keeps.refl _ _)⟩
end Go.Proofs.YthidipigpfcbbaaGreatDoor
