/-
  The document's sets (concordref07.Sets) in memory; Find, Version, Read of them by contract.
-/
import Derived.Test.YtkolkimmhlmlgaaDoorStAlive
namespace Go.Proofs.YtkolkimmhlmlgaaDoor
open Go.RowKit Go.Maps Go.Extern.Stop Go.Stop Go.Extern

/-! ### plain -/
theorem plc_first {R : Tl} {c v : Int} {i : Nat} (h : ∀ (j : Nat) (p : Int × Int), j < i → R[j]? = some p → p.1 ≠ c) (hi : R[i]? = some (c, v)) : plc R c = i + 1 ∧ look R c = some v := by
  induction R generalizing i with
  | nil => simp at hi
  | cons q t ih =>
    obtain ⟨d, u⟩ := q
    cases i with
    | zero =>
      simp at hi
      obtain ⟨rfl, rfl⟩ := hi
      simp [plc, look]
    | succ i =>
      have hd : ¬ c = d := fun e => h 0 (d, u) (by omega) rfl e.symm
      obtain ⟨h1, h2⟩ := ih (i := i) (fun j p hj hp => h (j + 1) p (by omega) (by simpa using hp)) (by simpa using hi)
      simp only [plc, look, if_neg hd]
      refine ⟨?_, h2⟩
      rw [h1, if_neg (by omega)]
theorem plc_no {R : Tl} {c : Int} (h : ∀ (j : Nat) (p : Int × Int), R[j]? = some p → p.1 ≠ c) : plc R c = 0 ∧ look R c = none := by
  have : look R c = none := look_none.2 fun hm => by
    obtain ⟨p, hp, e⟩ := List.mem_map.1 hm
    obtain ⟨j, hj, rfl⟩ := List.getElem_of_mem hp
    exact h j _ (List.getElem?_eq_getElem hj) e
  exact ⟨plc_zero.2 this, this⟩

/-! ### in memory -/
/-- A slice, as a plain value. -/
abbrev Sl := Option Addr × Nat × Nat
def slv (x : Sl) : Value := .slice x.1 x.2.1 x.2.2

/-- Rows of slices of what is written. -/
def slK : RK Sl where
  T := 30
  e := 29
  size := 1
  bytes := 24
  z := .slice none 0 0
  cs := fun l => l.map slv
  app := fun l m => by simp
  len := fun l => by simp
  one := fun l u hu => by obtain ⟨b, _, rfl⟩ := List.mem_map.1 hu; rfl
  hu := Tryd.underlying30
  info := by kernel_rfl
  zs := rfl
  pos := by decide
  few := by decide

structure RSt (w : World) (r : Nat) (vR vW vM : Value) (ws : List Sl) (A : AS) (Y : Nat → Prop) : Prop where
  blk : Whole w r 32 #[vR, vW, vM]
  reads : Row2 .i64 50 w vR A.R
  writes : Row2 .u64 60 w vW A.W
  marks : slK.Row w vM ws
  len : ws.length = A.M.length
  each : ∀ (i : Nat) (v : Sl) (m : Tl), ws[i]? = some v → A.M[i]? = some m → Row2 .u64 60 w (slv v) m
  inY : Y r ∧ (∀ g, vR.ownBlock = some g → Y g) ∧ (∀ g, vW.ownBlock = some g → Y g) ∧ (∀ g, vM.ownBlock = some g → Y g) ∧ ∀ v ∈ ws, ∀ g, (slv v).ownBlock = some g → Y g
  old : ∀ y, Y y → y < w.heap.size

def RS (w : World) (r : Nat) (A : AS) (Y : Nat → Prop) : Prop := ∃ vR vW vM ws, RSt w r vR vW vM ws A Y

section
variable {w w' : World} {r : Nat} {vR vW vM : Value} {ws : List Sl} {A : AS} {Y S : Nat → Prop}

theorem RSt.keeps (h : RSt w r vR vW vM ws A Y) (k : Keeps S w w') (hS : ∀ y, Y y → ¬ S y) : RSt w' r vR vW vM ws A Y where
  blk := h.blk.keeps k (hS _ h.inY.1)
  reads := ownsRow_keeps h.reads k fun g hg => hS _ (h.inY.2.1 g hg)
  writes := ownsRow_keeps h.writes k fun g hg => hS _ (h.inY.2.2.1 g hg)
  marks := ownsRow_keeps h.marks k fun g hg => hS _ (h.inY.2.2.2.1 g hg)
  len := h.len
  each := fun i v m hv hm => ownsRow_keeps (h.each i v m hv hm) k fun g hg => hS _ (h.inY.2.2.2.2 v (List.mem_of_getElem? hv) g hg)
  inY := h.inY
  old := fun y hy => Nat.lt_of_lt_of_le (h.old y hy) k.size
theorem RS.keeps (h : RS w r A Y) (k : Keeps S w w') (hS : ∀ y, Y y → ¬ S y) : RS w' r A Y := by
  obtain ⟨vR, vW, vM, ws, h⟩ := h; exact ⟨vR, vW, vM, ws, h.keeps k hS⟩
theorem RS.same (h : RS w r A Y) (k : Keeps (fun _ => False) w w') : RS w' r A Y := h.keeps k fun _ _ => id
theorem RS.old (h : RS w r A Y) : ∀ y, Y y → y < w.heap.size := by obtain ⟨vR, vW, vM, ws, h⟩ := h; exact h.old
theorem RS.inY (h : RS w r A Y) : Y r := by obtain ⟨vR, vW, vM, ws, h⟩ := h; exact h.inY.1
end

/-- Behind a call of the document's. -/
def RDid (w w' : World) (r : Nat) (A : AS) (Y : Nat → Prop) : Prop := ∃ Y', RS w' r A Y' ∧ Mvs w Y Y' ∧ Keeps Y w w'

theorem RDid.same {w w' : World} {r : Nat} {A : AS} {Y : Nat → Prop} (h : RS w r A Y) (k : Keeps (fun _ => False) w w') : RDid w w' r A Y :=
  ⟨Y, h.same k, fun _ hx => .inl hx, k.mono fun _ _ => False.elim⟩

/-- A row's shape and its cells. -/
theorem row2_cells {q : IntKind} {t : TypeId} {w : World} {v : Value} {l : Tl} {n : Nat} (h : Row2 q t w v l) (hn : l.length = n) :
    ∃ o c, v = .slice o n c ∧ (0 < n → ∃ g, o = some ⟨g, 0, none⟩ ∧ ∀ i p, l[i]? = some p → w.cell? ⟨g, i * 2, none⟩ = some (.int .u64 p.1) ∧ w.cell? ⟨g, i * 2 + 1, none⟩ = some (.int q p.2)) := by
  obtain ⟨o, c, rfl, ho⟩ := row_shape h
  subst hn
  refine ⟨o, c, rfl, fun h0 => ?_⟩
  obtain ⟨g, rfl⟩ := ho h0
  refine ⟨g, rfl, fun i p hp => ?_⟩
  have hi : i < l.length := (List.getElem?_eq_some_iff.1 hp).1
  exact ⟨(World.ownsRow.cellAt h (i * 2) (by omega)).trans (cells2_fst _ _ i _ hp), (World.ownsRow.cellAt h (i * 2 + 1) (by omega)).trans (cells2_snd _ _ i _ hp)⟩

theorem find_any {w : World} {r : Nat} {A : AS} {Y : Nat → Prop} (h : RS w r A Y) (ok : A.Ok) (c : Int) :
    Calls Tryd.prog 28 #[.pointer (some ⟨r, 0, none⟩), .int .u64 c] w fun e w' => e = .returned (.int .i64 ((plc A.W c : Int) - 1)) ∧ w = w' := by
  obtain ⟨vR, vW, vM, ws, h⟩ := h
  have few := ok.wfew
  obtain ⟨n, hn⟩ : ∃ n, A.W.length = n := ⟨_, rfl⟩
  obtain ⟨o, cap, rfl, ho⟩ := row2_cells h.writes hn
  have c1 : w.cell? ⟨r, 1, none⟩ = some (.slice o n cap) := h.blk.at_ 1
  obtain ⟨z, hz⟩ : ∃ z, (plc A.W c : Int) - 1 = z := ⟨_, rfl⟩
  rw [hn] at few
  rw [hz]
  have hn' := Lib.hid hn
  have hz' := Lib.hid hz
  clear h hn hz
  go_enter Tryd.func28, Tryd.ntmps28
  go_wp2_with fail
  go_loop [5] (fun iv => ∃ i : Nat, iv = .int .i64 i ∧ i ≤ n ∧ ∀ (j : Nat) (p : Int × Int), j < i → A.W[j]? = some p → p.1 ≠ c) (fun iv => n - (intOf iv).toNat)
  case atStart => exact ⟨0, rfl, Nat.zero_le _, fun j p h => absurd h (Nat.not_lt_zero _)⟩
  case round =>
    obtain ⟨i, rfl, hi, hk⟩ := hrel
    have K := Lib.hid hk
    clear hk
    by_cases hlt : i < n
    · have b1 : (i : Int) < (n : Int) := by omega
      obtain ⟨g, rfl, hc⟩ := ho (by omega)
      obtain ⟨d, u, hd⟩ : ∃ d u, A.W[i]? = some (d, u) := ⟨_, _, List.getElem?_eq_getElem (by rw [hn'.out]; exact hlt)⟩
      have d0 := (hc i _ hd).1
      have hd' := Lib.hid hd
      simp only at d0
      clear hc hd ho
      by_cases he : d = c
      · subst he
        have hr : z = (i : Int) := by rw [← hz'.out, (plc_first K.out hd'.out).1]; omega
        subst hr
        go_wp2_with fail
        go_ret
        exact ⟨rfl, rfl⟩
      · have hb : (d == c) = false := by simpa using he
        clear he
        go_wp2_with fail
        go_round
        case rel =>
          refine ⟨i + 1, by go_num, by omega, fun j p hj hp => ?_⟩
          rcases Nat.lt_or_ge j i with h | h
          · exact K.out j p h hp
          · obtain rfl : j = i := by omega
            rw [hd'.out] at hp
            injection hp with hp
            rw [← hp]
            simpa using hb
        case measure => simp [intOf]; omega
    · obtain rfl : i = n := by omega
      have b1 : ¬ (i : Int) < (i : Int) := by omega
      have hr : z = -1 := by
        rw [← hz'.out, (plc_no fun j p hp => K.out j p (by have := (List.getElem?_eq_some_iff.1 hp).1; have := hn'.out; omega) hp).1]
        rfl
      subst hr
      clear ho
      go_wp2_with fail
      go_ret
      exact ⟨rfl, rfl⟩

theorem rver_any {w : World} {r : Nat} {A : AS} {Y : Nat → Prop} (h : RS w r A Y) (ok : A.Ok) (c : Int) :
    Calls Tryd.prog 30 #[.pointer (some ⟨r, 0, none⟩), .int .u64 c] w fun e w' => e = .returned (.tuple #[.int .i64 ((look A.R c).getD 0), .bool (look A.R c).isSome]) ∧ w = w' := by
  obtain ⟨vR, vW, vM, ws, h⟩ := h
  have few := ok.rfew
  obtain ⟨n, hn⟩ : ∃ n, A.R.length = n := ⟨_, rfl⟩
  obtain ⟨o, cap, rfl, ho⟩ := row2_cells h.reads hn
  have c1 : w.cell? ⟨r, 0, none⟩ = some (.slice o n cap) := h.blk.at_ 0
  obtain ⟨z, hz⟩ : ∃ z, (look A.R c) = z := ⟨_, rfl⟩
  rw [hn] at few
  rw [hz]
  have hn' := Lib.hid hn
  have hz' := Lib.hid hz
  clear h hn hz
  go_enter Tryd.func30, Tryd.ntmps30
  go_wp2_with fail
  go_loop [6] (fun iv => ∃ i : Nat, iv = .int .i64 i ∧ i ≤ n ∧ ∀ (j : Nat) (p : Int × Int), j < i → A.R[j]? = some p → p.1 ≠ c) (fun iv => n - (intOf iv).toNat)
  case atStart => exact ⟨0, rfl, Nat.zero_le _, fun j p h => absurd h (Nat.not_lt_zero _)⟩
  case round =>
    obtain ⟨i, rfl, hi, hk⟩ := hrel
    have K := Lib.hid hk
    clear hk
    by_cases hlt : i < n
    · have b1 : (i : Int) < (n : Int) := by omega
      obtain ⟨g, rfl, hc⟩ := ho (by omega)
      obtain ⟨d, u, hd⟩ : ∃ d u, A.R[i]? = some (d, u) := ⟨_, _, List.getElem?_eq_getElem (by rw [hn'.out]; exact hlt)⟩
      obtain ⟨d0, d1⟩ := hc i _ hd
      have hd' := Lib.hid hd
      simp only at d0 d1
      clear hc hd ho
      by_cases he : d = c
      · subst he
        have hr : z = some u := by rw [← hz'.out, (plc_first K.out hd'.out).2]
        subst hr
        go_wp2_with fail
        go_ret2
        exact ⟨rfl, rfl⟩
      · have hb : (d == c) = false := by simpa using he
        clear he
        go_wp2_with fail
        go_round
        case rel =>
          refine ⟨i + 1, by go_num, by omega, fun j p hj hp => ?_⟩
          rcases Nat.lt_or_ge j i with h | h
          · exact K.out j p h hp
          · obtain rfl : j = i := by omega
            rw [hd'.out] at hp
            injection hp with hp
            rw [← hp]
            simpa using hb
        case measure => simp [intOf]; omega
    · obtain rfl : i = n := by omega
      have b1 : ¬ (i : Int) < (i : Int) := by omega
      have hr : z = none := by
        rw [← hz'.out, (plc_no fun j p hp => K.out j p (by have := (List.getElem?_eq_some_iff.1 hp).1; have := hn'.out; omega) hp).2]
      subst hr
      clear ho
      go_wp2_with fail
      go_ret2
      exact ⟨rfl, rfl⟩
end Go.Proofs.YtkolkimmhlmlgaaDoor
