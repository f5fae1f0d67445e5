/-
  blocks: take by contract: the place of a block that was freed, the place of a new one, or ErrFull.
-/
import Derived.Test.YtenhmficiegpiaaGreatDoorBkGive
import Derived.Test.YtenhmficiegpiaaGreatDoorWdCell
namespace Go.Proofs.YtenhmficiegpiaaGreatDoor
open Go.RowKit Go.Extern.Stop Go.Stop Go.Extern

theorem alen_there (a bw : Nat) (ws : List Int) (cnt : Nat) (w : World) (h : Arena w a bw ws cnt) :
    Calls Tryz.prog 34 #[.pointer (some ⟨a, 0, none⟩)] w fun e w' => e = .returned (.int .i64 ws.length) ∧ w = w' := by
  have c0 := h.there
  have h3 := h.2.2.1
  have h4 := h.2.2.2
  clear h
  go_enter Tryz.func34, Tryz.ntmps34
  go_wp2_with (go_at_call 57; refine (none_there a ⟨bw, 0, none⟩ ws.length ws.length h3 h4 _ c0).mono ?_; rintro e w' ⟨rfl, rfl⟩)
  go_ret
  exact ⟨rfl, rfl⟩

theorem alen_nil (w : World) :
    Calls Tryz.prog 34 #[.pointer none] w fun e w' => e = .returned (.int .i64 0) ∧ w = w' := by
  go_enter Tryz.func34, Tryz.ntmps34
  go_wp2_with (go_at_call 57; refine (none_nil _).mono ?_; rintro e w' ⟨rfl, rfl⟩)
  go_ret
  exact ⟨rfl, rfl⟩

theorem rowAt_upd (rows : Int → Option RowV) (n m : Nat) (r : Nat × Nat × Nat) : rowAt (upd rows (n : Int) (some r)) m = if m = n then some r else rowAt rows m := by
  unfold rowAt upd
  by_cases h : m = n
  · subst h; simp
  · rw [if_neg h, if_neg (by omega)]

/-- The row of a size is another one now: in its old block, or in a new one. -/
theorem BkRaw.row {w w' : World} {b a bw mb fb : Nat} {ws : List Int} {cnt : Nat} {f : Int → Option BV} {fr : Nat → List Nat} {top : Nat} {rows : Int → Option RowV} {X S : Nat → Prop} (h : BkRaw w b a bw mb fb ws cnt f fr top rows X) (n : Nat) (hn : 1 ≤ n ∧ n ≤ 64) (g m cap : Nat) (l : List Nat)
    (hM : HoldsM Tryz.prog 3 rowE w' fb (upd rows (n : Int) (some (g, m, cap)))) (k : Keeps S w w') (hS : ∀ x, x < w.heap.size → S x → x = fb ∨ (rowVal (rowAt rows n)).ownBlock = some x)
    (hown : w'.ownsRow 0 3 1 (rowVal (some (g, m, cap))) l.length (placeCells l)) (hg : (rowVal (rowAt rows n)).ownBlock = some g ∨ w.heap.size ≤ g) (hg' : g < w'.heap.size) :
    BkRaw w' b a bw mb fb ws cnt f (setFr fr n l) top (upd rows (n : Int) (some (g, m, cap))) (fun x => X x ∨ x = g) := by
  have hb := h.blk.lt
  obtain ⟨la, lbw⟩ := h.arena.lt
  obtain ⟨⟨lk, la', lo, ln, ld, h1⟩, h2, h3⟩ := h.arena
  have nS : ∀ {t : TypeId} {cs : Array Value} {q : Nat}, Whole w q t cs → t ≠ 3 → ¬ S q := by
    intro t cs q hq ht hs
    rcases hS q hq.lt hs with rfl | e
    · exact hq.ne_map h.freed rfl
    · exact row_ne (h.own n) hq (fun e => ht e.symm) e
  have nM : ¬ S mb := fun hs => by
    rcases hS mb h.all.lt hs with e | e
    · exact h.ne e
    · exact row_ne_map (h.own n) h.all e
  exact {
    blk := h.blk.keeps k (nS h.blk (by decide))
    arena := ⟨⟨lk, la', lo, ln, ld, h1.keeps k (nS h1 (by decide))⟩, h2.keeps k (nS h2 (by decide)), h3⟩
    all := h.all.keeps k nM
    freed := hM
    own := fun j => by
      rw [rowAt_upd]
      unfold setFr
      by_cases hj : j = n
      · rw [if_pos hj, if_pos hj]; exact hown
      · rw [if_neg hj, if_neg hj]
        refine ownsRow_keeps (h.own j) k fun x hx hs => ?_
        have hx' := ((h.own j).lt x hx).2
        rcases hS x hx' hs with rfl | e
        · exact row_ne_map (h.own j) h.freed hx
        · exact h.apart j n hj x hx e
    apart := fun i j hij x => by
      rw [rowAt_upd, rowAt_upd]
      by_cases hi : i = n
      · subst hi
        rw [if_pos rfl, if_neg (fun e => hij e.symm)]
        intro hx hx'
        have e : x = g := by simp [rowVal, Value.ownBlock] at hx; exact hx.symm
        subst e
        rcases hg with hg | hg
        · exact h.apart i j hij x hg hx'
        · have := ((h.own j).lt x hx').2; omega
      · rw [if_neg hi]
        by_cases hj : j = n
        · subst hj
          rw [if_pos rfl]
          intro hx hx'
          have e : x = g := by simp [rowVal, Value.ownBlock] at hx'; exact hx'.symm
          subst e
          rcases hg with hg | hg
          · exact h.apart i j hij x hx hg
          · have := ((h.own i).lt x hx).2; omega
        · rw [if_neg hj]; exact h.apart i j hij x
    keys := fun j hj => by
      unfold upd at hj
      split at hj
      · rename_i e; subst e; omega
      · exact h.keys j hj
    ne := h.ne
    inX := ⟨.inl h.inX.1, .inl h.inX.2.1, .inl h.inX.2.2.1, .inl h.inX.2.2.2.1, .inl h.inX.2.2.2.2⟩
    rowX := fun j x => by
      rw [rowAt_upd]
      split
      · intro hx
        simp [rowVal, Value.ownBlock] at hx
        exact .inr hx.symm
      · intro hx; exact .inl (h.rowX j x hx)
    old := fun x hx => by
      rcases hx with hx | rfl
      · exact Nat.lt_of_lt_of_le (h.old x hx) k.size
      · exact hg' }

theorem BkRaw.setTop {w : World} {b a bw mb fb : Nat} {ws : List Int} {cnt : Nat} {f : Int → Option BV} {fr : Nat → List Nat} {top : Nat} {rows : Int → Option RowV} {X : Nat → Prop} (h : BkRaw w b a bw mb fb ws cnt f fr top rows X) (t : Nat) (x : Int) (hx : x = (t : Int)) :
    BkRaw (w.setCell ⟨b, 3, none⟩ (.int .i64 x)) b a bw mb fb ws cnt f fr t rows X ∧ Keeps (fun y => y = b) w (w.setCell ⟨b, 3, none⟩ (.int .i64 x)) := by
  subst hx
  have k : Keeps (fun y => y = b) w (w.setCell ⟨b, 3, none⟩ (.int .i64 (t : Int))) := (Keeps.refl (fun y => y = b) w).setCell (p := ⟨b, 3, none⟩) (fun _ => rfl) _
  obtain ⟨⟨lk, la', lo, ln, ld, h1⟩, h2, h3⟩ := h.arena
  exact ⟨{
    blk := h.blk.set_ 3 _
    arena := ⟨⟨lk, la', lo, ln, ld, h1.keeps k fun e => h1.ne_ h.blk (by decide) e⟩, h2.keeps k fun e => h2.ne_ h.blk (by decide) e, h3⟩
    all := h.all.keeps k fun e => h.blk.ne_map h.all e.symm
    freed := h.freed.keeps k fun e => h.blk.ne_map h.freed e.symm
    own := fun n => ownsRow_keeps (h.own n) k fun g hg e => row_ne (h.own n) h.blk (by decide) (by rw [hg, e])
    apart := h.apart
    keys := h.keys
    ne := h.ne
    inX := h.inX
    rowX := h.rowX
    old := fun y hy => Nat.lt_of_lt_of_le (h.old y hy) k.size }, k⟩

theorem rows_keys {w : World} {b a bw mb fb : Nat} {ws : List Int} {cnt : Nat} {f : Int → Option BV} {fr : Nat → List Nat} {top : Nat} {rows : Int → Option RowV} {X : Nat → Prop} (h : BkRaw w b a bw mb fb ws cnt f fr top rows X) :
    ∀ j, (rows j).isSome = true → j ∈ (List.range 65).map fun (i : Nat) => (i : Int) := fun j hj => by
  have := h.keys j hj
  exact List.mem_map.2 ⟨j.toNat, List.mem_range.2 (by omega), by omega⟩

/-- A size's slice that is not empty. -/
theorem row_some {w : World} {b a bw mb fb : Nat} {ws : List Int} {cnt : Nat} {f : Int → Option BV} {fr : Nat → List Nat} {top : Nat} {rows : Int → Option RowV} {X : Nat → Prop} (h : BkRaw w b a bw mb fb ws cnt f fr top rows X) (n : Nat) (l : List Nat) (p : Nat) (hfr : fr n = l ++ [p]) :
    ∃ g cap, rowAt rows n = some (g, l.length + 1, cap) ∧ l.length + 1 ≤ cap ∧ cap ≤ maxLen ∧ g < w.heap.size ∧ w.cell? ⟨g, l.length, none⟩ = some (.int .i64 p) ∧ w.ownsRow 0 3 1 (rowVal (some (g, l.length, cap))) l.length (placeCells l) := by
  have ho := h.own n
  rw [hfr] at ho
  have hlt := ho.lt
  obtain ⟨o1, o2⟩ := ho
  rcases o2 with ⟨_, hz⟩ | ⟨g, cap, cur, hv, _, hg, hnc, hcm, hcs, ht⟩
  · simp at hz
  · have hr : rowAt rows n = some (g, l.length + 1, cap) := by
      rcases hq : rowAt rows n with _ | ⟨g', m', c'⟩
      · rw [hq] at hv; simp [rowVal] at hv
      · rw [hq] at hv
        simp [rowVal] at hv
        obtain ⟨e1, e2, e3⟩ := hv
        rw [e1, e2, e3]
    have hl : (l ++ [p]).length = l.length + 1 := by simp
    rw [hl] at hnc ht
    have hgl := lt_of_block hg
    have hmap : placeCells (l ++ [p]) = placeCells l ++ [Value.int .i64 (p : Int)] := by simp [placeCells]
    have hpl : (placeCells l).length = l.length := by simp [placeCells]
    rw [hmap] at ht
    refine ⟨g, cap, hr, hnc, hcm, hgl, ?_, ?_⟩
    · rw [cell_of_row w g l.length cur 3 (0, 0) hg]
      have : (cur.toList.take ((l.length + 1) * 1))[l.length]? = some (Value.int .i64 (p : Int)) := by
        rw [ht, List.getElem?_append_right (by omega), hpl]
        simp
      rw [List.getElem?_take] at this
      simpa using this
    · refine ⟨by simpa using hpl, .inr ⟨g, cap, cur, rfl, Nat.zero_le _, hg, by omega, hcm, hcs, ?_⟩⟩
      have := congrArg (List.take l.length) ht
      rw [List.take_take, List.take_append_of_le_length (by omega), List.take_of_length_le (l := placeCells l) (by omega)] at this
      rw [← this]
      congr 1
      omega
end Go.Proofs.YtenhmficiegpiaaGreatDoor
