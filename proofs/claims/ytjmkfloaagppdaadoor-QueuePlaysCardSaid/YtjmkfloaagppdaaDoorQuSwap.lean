/-
  queue: (*line).Swap by contract.
-/
import Derived.Test.YtjmkfloaagppdaaDoorQuLess
import Derived.BigRegion
import Derived.StillTailTactics
import Derived.Laws.OwnMore
namespace Go.Proofs.YtjmkfloaagppdaaDoor
open Go.RowKit Go.Extern.Stop Go.Stop Go.Extern

/-- A drawn region whose head only reads and whose end is in one order, in a world of its own name. -/
theorem still_tail_at {P : Program} {id : Nat} {Q : Exit → Act → World → Prop} {a : Act} {w : World} {l : List Oper} (n : Nat) (hm : P.follows .mixedOrders = true) (hB : Region.lexTailB .any l.toArray n = true) (W : World) (hW : W = w.drew)
    (h : wpStill P l.toArray W (fun a' => wpList P l.toArray Q (l.drop n) a' W) (l.take n) a) : (Code.region id l.toArray true).wp P Q a w := by
  subst hW
  exact wp_region_still_tail n hm hB h

/-- The world behind the exchange in the row. -/
def swWorld (w : World) (g i j : Nat) (t u : Tm) : World :=
  (((w.setCell ⟨g, i * 2, none⟩ (.int .i64 u.1)).setCell ⟨g, i * 2 + 1, none⟩ (.int .i64 u.2)).setCell ⟨g, j * 2, none⟩ (.int .i64 t.1)).setCell ⟨g, j * 2 + 1, none⟩ (.int .i64 t.2)

theorem TRow.set {w : World} {g c k : Nat} {l : List Tm} (h : TRow w (.slice (some ⟨g, 0, none⟩) l.length c) l) (hk : k < l.length) (t : Tm) :
    TRow ((w.setCell ⟨g, k * 2, none⟩ (.int .i64 t.1)).setCell ⟨g, k * 2 + 1, none⟩ (.int .i64 t.2)) (.slice (some ⟨g, 0, none⟩) (l.set k t).length c) (l.set k t) := by
  have h1 := ((h.stored (k * 2) (.int .i64 t.1)).1.stored (k * 2 + 1) (.int .i64 t.2)).1
  rw [tmCells_set l k hk t] at h1
  show World.ownsRow _ _ _ _ _ (l.set k t).length _
  rw [show (l.set k t).length = l.length from List.length_set ..]
  exact h1

theorem swWorld_row {w : World} {g c i j : Nat} {l : List Tm} (h : TRow w (.slice (some ⟨g, 0, none⟩) l.length c) l) (hi : i < l.length) (hj : j < l.length) :
    TRow (swWorld w g i j (at_ l i) (at_ l j)) (.slice (some ⟨g, 0, none⟩) (sw l i j).length c) (sw l i j) :=
  (h.set hi (at_ l j)).set (by simpa using hj) (at_ l i)

theorem swWorld_keeps (w : World) (g i j : Nat) (t u : Tm) : Keeps (fun x => x = g) w (swWorld w g i j t u) :=
  ((((Keeps.refl (fun x => x = g) w).setCell (p := ⟨g, i * 2, none⟩) (fun _ => rfl) _).setCell (p := ⟨g, i * 2 + 1, none⟩) (fun _ => rfl) _).setCell (p := ⟨g, j * 2, none⟩) (fun _ => rfl) _).setCell (p := ⟨g, j * 2 + 1, none⟩) (fun _ => rfl) _

theorem Keeps.of_grown {w w' : World} {b : Nat} (h : w.grownBy w' (some b)) : Keeps (fun x => x = b) w w' :=
  (Keeps.refl (fun x => x = b) w).grown h fun _ hk _ => (Option.some.inj hk).symm

theorem Pos.sw {f : Int → Option Pl} {l : List Tm} (h : Pos f l) (few : l.length ≤ 200) {i j : Nat} (hi : i < l.length) (hj : j < l.length) :
    Pos (upd (upd f (at_ l j).2 ⟨i, by omega⟩) (at_ l i).2 ⟨j, by omega⟩) (sw l i j) := by
  intro id k
  have once := fun {a b : Nat} (ha : a < l.length) (hb : b < l.length) (e : (at_ l a).2 = (at_ l b).2) => h.once few ha hb e
  rw [length_sw]
  by_cases e1 : id = (at_ l i).2
  · subst e1
    simp only [upd, if_true]
    constructor
    · intro e
      injection e with e
      subst e
      exact ⟨hj, by rw [at_sw hi hj, if_pos rfl]⟩
    · rintro ⟨hk, e⟩
      rw [at_sw hi hj] at e
      by_cases c1 : k.val = j
      · congr 1; exact Fin.ext c1.symm
      · rw [if_neg c1] at e
        by_cases c2 : k.val = i
        · rw [if_pos c2] at e
          exact absurd (c2.trans (once hj hi e).symm) c1
        · rw [if_neg c2] at e
          exact absurd (once hk hi e) c2
  · have u1 : upd (upd f (at_ l j).2 ⟨i, by omega⟩) (at_ l i).2 ⟨j, by omega⟩ id = upd f (at_ l j).2 ⟨i, by omega⟩ id := by simp [upd, e1]
    rw [u1]
    by_cases e2 : id = (at_ l j).2
    · subst e2
      simp only [upd, if_true]
      have hij : ¬ i = j := fun e => e1 (by rw [e])
      constructor
      · intro e
        injection e with e
        subst e
        exact ⟨hi, by rw [at_sw hi hj, if_neg hij, if_pos rfl]⟩
      · rintro ⟨hk, e⟩
        rw [at_sw hi hj] at e
        by_cases c1 : k.val = j
        · rw [if_pos c1] at e
          exact absurd e.symm e1
        · rw [if_neg c1] at e
          by_cases c2 : k.val = i
          · congr 1; exact Fin.ext c2.symm
          · rw [if_neg c2] at e
            exact absurd (once hk hj e) c1
    · have u2 : upd f (at_ l j).2 ⟨i, by omega⟩ id = f id := by simp [upd, e2]
      rw [u2, h id k]
      constructor
      · rintro ⟨hk, e⟩
        refine ⟨hk, ?_⟩
        rw [at_sw hi hj, if_neg (fun c => e2 (by rw [← e, c])), if_neg (fun c => e1 (by rw [← e, c]))]
        exact e
      · rintro ⟨hk, e⟩
        refine ⟨hk, ?_⟩
        rw [at_sw hi hj] at e
        by_cases c1 : k.val = j
        · rw [if_pos c1] at e; exact absurd e.symm e1
        · rw [if_neg c1] at e
          by_cases c2 : k.val = i
          · rw [if_pos c2] at e; exact absurd e.symm e2
          · rwa [if_neg c2] at e

/-- The keys that a map of places has at the most. -/
theorem upd_keys {V : Type} {f : Int → Option V} {l : List Int} (h : ∀ k, (f k).isSome = true → k ∈ l) (k : Int) (v : V) : ∀ j, (upd f k v j).isSome = true → j ∈ k :: l := by
  intro j hj
  by_cases e : j = k
  · exact e ▸ List.mem_cons_self ..
  · simp only [upd, if_neg e] at hj
    exact List.mem_cons_of_mem _ (h j hj)

theorem TRow.of_len {w : World} {a : Option Addr} {n c : Nat} {l : List Tm} (h : TRow w (.slice a l.length c) l) (hn : l.length = n) : TRow w (.slice a n c) l := by
  subst hn
  exact h

/-- Behind the exchange in the row. -/
structure Half (w : World) (q mb g n c : Nat) (f : Int → Option Pl) (l : List Tm) : Prop where
  blk : Whole w q 59 #[.slice (some ⟨g, 0, none⟩) n c, .map (some mb)]
  len : l.length = n
  row : TRow w (.slice (some ⟨g, 0, none⟩) l.length c) l
  map : HoldsM Tryd.prog 3 plE w mb f

theorem Half.keeps {w w' : World} {q mb g n c : Nat} {f : Int → Option Pl} {l : List Tm} {S : Nat → Prop} (h : Half w q mb g n c f l) (k : Keeps S w w') (h1 : ¬ S q) (h2 : ¬ S g) (h3 : ¬ S mb) : Half w' q mb g n c f l :=
  ⟨h.blk.keeps k h1, h.len, ownsRow_keeps h.row k (fun x hx => by simp [Value.ownBlock] at hx; rw [← hx]; exact h2), h.map.keeps k h3⟩
theorem Half.drew {w : World} {q mb g n c : Nat} {f : Int → Option Pl} {l : List Tm} (h : Half w q mb g n c f l) : Half w.drew q mb g n c f l := h.keeps ((Keeps.refl (fun _ => False) w).drew) id id id

theorem LineP.half {w : World} {q mb g n c : Nat} {f : Int → Option Pl} {l : List Tm} {X : Nat → Prop} (h : LineP w q mb (.slice (some ⟨g, 0, none⟩) n c) f l X) (hn : l.length = n) : Half w q mb g n c f l :=
  ⟨h.blk, hn, by subst hn; exact h.row, h.map⟩

theorem Half.apart {w : World} {q mb g n c : Nat} {f : Int → Option Pl} {l : List Tm} (h : Half w q mb g n c f l) : ¬ q = g ∧ ¬ mb = g ∧ ¬ q = mb ∧ ¬ g = mb :=
  ⟨fun e => row_ne h.row h.blk (by decide) (by rw [e]; rfl), fun e => row_ne_map h.row h.map (by rw [e]; rfl), fun e => h.blk.ne_map h.map e, fun e => row_ne_map h.row h.map (by rw [← e]; rfl)⟩

theorem Half.sw {w : World} {q mb g n c i j : Nat} {f : Int → Option Pl} {l : List Tm} (h : Half w q mb g n c f l) (hi : i < l.length) (hj : j < l.length) : Half (swWorld w g i j (at_ l i) (at_ l j)) q mb g n c f (sw l i j) :=
  have k := swWorld_keeps w g i j (at_ l i) (at_ l j)
  ⟨h.blk.keeps k h.apart.1, (length_sw ..).trans h.len, swWorld_row h.row hi hj, h.map.keeps k h.apart.2.1⟩

/-- The map is told something anew. -/
theorem Half.put {w w' : World} {q mb g n c : Nat} {f f' : Int → Option Pl} {l : List Tm} (h : Half w q mb g n c f l) (k : Keeps (fun x => x = mb) w w') (hM : HoldsM Tryd.prog 3 plE w' mb f') : Half w' q mb g n c f' l :=
  ⟨h.blk.keeps k h.apart.2.2.1, h.len, ownsRow_keeps h.row k (fun x hx => by simp [Value.ownBlock] at hx; rw [← hx]; exact h.apart.2.2.2), hM⟩

theorem Half.line {w w' : World} {q mb g n c : Nat} {f f' : Int → Option Pl} {l l' : List Tm} {X : Nat → Prop} (h : LineP w q mb (.slice (some ⟨g, 0, none⟩) n c) f l X) (h' : Half w' q mb g n c f' l') (hp : Pos f' l') (hw : ∀ t ∈ l', wfT t) (few : l'.length ≤ 200) (hs : w.heap.size ≤ w'.heap.size) : Line w' q l' X :=
  ⟨mb, _, f', { blk := h'.blk, row := TRow.of_len h'.row h'.len, map := h'.map, pos := hp, few := few, wf := hw, inX := h.inX, old := fun x hx => Nat.lt_of_lt_of_le (h.old x hx) hs }⟩

theorem half_cells {w : World} {q mb g n c i j : Nat} {f : Int → Option Pl} {l : List Tm} (h : Half w q mb g n c f l) (hi : i < n) (hj : j < n) {x y : Int} (hx : (at_ l i).2 = x) (hy : (at_ l j).2 = y) :
    w.cell? ⟨q, 0, none⟩ = some (.slice (some ⟨g, 0, none⟩) n c) ∧ w.cell? ⟨q, 1, none⟩ = some (.map (some mb)) ∧ w.cell? ⟨g, i * 2 + 1, none⟩ = some (.int .i64 x) ∧ w.cell? ⟨g, j * 2 + 1, none⟩ = some (.int .i64 y) :=
  ⟨h.blk.at_ 0, h.blk.at_ 1, by rw [← hx]; exact TRow.id h.row i (by rw [h.len]; exact hi), by rw [← hy]; exact TRow.id h.row j (by rw [h.len]; exact hj)⟩

set_option maxRecDepth 100000 in
theorem line_swap {w : World} {q : Nat} {l : List Tm} {X : Nat → Prop} (h : Line w q l X) (i j : Nat) (hi : i < l.length) (hj : j < l.length) (hne : ¬ i = j) :
    Calls Tryd.prog 100 #[.pointer (some ⟨q, 0, none⟩), .int .i64 i, .int .i64 j] w fun e w' => e = .returned (.tuple #[]) ∧ Line w' q (sw l i j) X ∧ Keeps X w w' := by
  obtain ⟨mb, v, f, h⟩ := h
  obtain ⟨g, c, rfl⟩ := TRow.form h.row (by omega)
  have few := h.few
  have c0 : w.cell? ⟨q, 0, none⟩ = some (.slice (some ⟨g, 0, none⟩) l.length c) := h.blk.at_ 0
  have i0 := TRow.when h.row i hi
  have i1 := TRow.id h.row i hi
  have j0 := TRow.when h.row j hj
  have j1 := TRow.id h.row j hj
  have hil : (i : Int) < l.length := by omega
  have hjl : (j : Int) < l.length := by omega
  have fi0 : w.frozen? ⟨g, i * 2, none⟩ = false := h.row.frozenAt _
  have fi1 : w.frozen? ⟨g, i * 2 + 1, none⟩ = false := h.row.frozenAt _
  have fj0 : w.frozen? ⟨g, j * 2, none⟩ = false := h.row.frozenAt _
  have fj1 : w.frozen? ⟨g, j * 2 + 1, none⟩ = false := h.row.frozenAt _
  have p1 : ¬ i * 2 = j * 2 := by omega
  have p2 : ¬ i * 2 = j * 2 + 1 := by omega
  have p3 : ¬ i * 2 + 1 = j * 2 := by omega
  have p4 : ¬ i * 2 + 1 = j * 2 + 1 := by omega
  obtain ⟨t, ht⟩ : ∃ t, at_ l i = t := ⟨_, rfl⟩
  obtain ⟨u, hu⟩ : ∃ t, at_ l j = t := ⟨_, rfl⟩
  rw [ht] at i0 i1
  rw [hu] at j0 j1
  obtain ⟨n, hn⟩ : ∃ n, l.length = n := ⟨_, rfl⟩
  rw [hn] at c0 hil hjl hi hj few h
  have h' := Lib.hid h
  clear h
  have ht' := Lib.hid ht
  have hu' := Lib.hid hu
  have hn' := Lib.hid hn
  clear ht hu hn
  go_enter Tryd.func100, Tryd.ntmps100
  go_wp2_with fail
  go_region
  have hh1 := ((h'.out.half hn'.out).sw (i := i) (j := j) (by rw [hn'.out]; exact hi) (by rw [hn'.out]; exact hj)).drew.drew
  rw [ht'.out, hu'.out] at hh1
  have k1 := Lib.hid ((swWorld_keeps w g i j t u).drew.drew)
  have wt : (Lit.int .i64 t.2).wf = true := (h'.out.wf t (by rw [← ht'.out]; exact at_mem (by rw [hn'.out]; exact hi))).2
  have wu : (Lit.int .i64 u.2).wf = true := (h'.out.wf u (by rw [← hu'.out]; exact at_mem (by rw [hn'.out]; exact hj))).2
  have hl := Lib.hid h'.out.pos.keys
  have hln : (l.map (·.2)).length ≤ 200 := by rw [List.length_map, hn'.out]; exact few
  obtain ⟨W1, hW1⟩ : ∃ W, W = (swWorld w g i j t u).drew.drew := ⟨_, rfl⟩
  rw [← hW1] at hh1 k1
  have hW1' := Lib.hid hW1
  obtain ⟨s0, s1, s2, s3⟩ := half_cells hh1 hi hj (x := u.2) (y := t.2) (by rw [at_sw (by rw [hn'.out]; exact hi) (by rw [hn'.out]; exact hj), if_neg hne, if_pos rfl, hu'.out]) (by rw [at_sw (by rw [hn'.out]; exact hi) (by rw [hn'.out]; exact hj), if_pos rfl, ht'.out])
  have H1 := Lib.hid hh1
  clear hh1 hW1 i0 i1 j0 j1 c0 fi0 fi1 fj0 fj1 p1 p2 p3 p4
  go_wp2_with fail
  refine still_tail_at 13 (by kernel_rfl) (by kernel_rfl) W1 hW1'.out ?_
  simp only [List.take_succ_cons, List.take_zero, List.drop_succ_cons, List.drop_zero]
  repeat still_step
  refine wpStill_nil ?_
  clear s0 s1 s2 s3
  have hi62 : i < 4611686018427387904 := by omega
  have hj62 : j < 4611686018427387904 := by omega
  go_wp2_with (first | (at_mapUpdate; refine wpList_upd _ rfl _ _ _ 55 rfl 3 3 plE Tryd.underlying3 Tryd.underlying55 mb f rfl H1.out.map _ hl.out (by unfold maxLen; omega) u.2 rfl wu ⟨i, hi62⟩ rfl ?_; intro W2 hM2 hG2; have M2 := Lib.hid hM2; have K2 := Lib.hid (Keeps.of_grown hG2); clear hM2 hG2))
  have hh2 := (H1.out.put K2.out M2.out).drew
  obtain ⟨s0, s1, s2, s3⟩ := half_cells hh2 hi hj (x := u.2) (y := t.2) (by rw [at_sw (by rw [hn'.out]; exact hi) (by rw [hn'.out]; exact hj), if_neg hne, if_pos rfl, hu'.out]) (by rw [at_sw (by rw [hn'.out]; exact hi) (by rw [hn'.out]; exact hj), if_pos rfl, ht'.out])
  obtain ⟨W3, hW3⟩ : ∃ W, W = W2.drew := ⟨_, rfl⟩
  rw [← hW3] at hh2 s0 s1 s2 s3
  have K3 := Lib.hid (show Keeps (fun x => x = mb) W1 W3 by rw [hW3]; exact K2.out.drew)
  have hW3' := Lib.hid hW3
  have H2 := Lib.hid hh2
  clear hh2 hW3 M2
  refine still_tail_at 13 (by kernel_rfl) (by kernel_rfl) W3 hW3'.out ?_
  simp only [List.take_succ_cons, List.take_zero, List.drop_succ_cons, List.drop_zero]
  repeat still_step
  refine wpStill_nil ?_
  clear s0 s1 s2 s3
  go_wp2_with (first | (at_mapUpdate; refine wpList_upd _ rfl _ _ _ 55 rfl 3 3 plE Tryd.underlying3 Tryd.underlying55 mb _ rfl H2.out.map _ (upd_keys hl.out _ _) (by unfold maxLen; simp only [List.length_cons]; omega) t.2 rfl wt ⟨j, hj62⟩ rfl ?_; intro W4 hM4 hG4; have M4 := Lib.hid hM4; have K4 := Lib.hid (Keeps.of_grown hG4); clear hM4 hG4))
  go_end0
  have hil' : i < l.length := by rw [hn'.out]; exact hi
  have hjl' : j < l.length := by rw [hn'.out]; exact hj
  have kk : Keeps (fun x => x = g ∨ x = mb) w W4 := ((k1.out.mono fun _ _ h => .inl h).trans K3.out fun _ _ h => .inr h).trans K4.out fun _ _ h => .inr h
  have hp := h'.out.pos.sw (by rw [hn'.out]; exact few) hil' hjl'
  have hM := M4.out
  rw [← hu'.out, ← ht'.out] at hM
  refine ⟨rfl, Half.line h'.out ((H2.out.put K4.out M4.out)) (f' := _) (by rw [← hu'.out, ← ht'.out]; exact hp) (fun x hx => h'.out.wf x ((sw_perm hil' hjl').mem_iff.1 hx)) (by rw [length_sw, hn'.out]; exact few) kk.size, kk.mono fun x _ h => ?_⟩
  rcases h with rfl | rfl
  · exact h'.out.inX.2.2 _ rfl
  · exact h'.out.inX.2.1
end Go.Proofs.YtjmkfloaagppdaaDoor
