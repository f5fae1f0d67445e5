/-
  The document's own arena (concordref01.Arena): what it is in memory ('Ref'), and Do by contract: a Load, a Store, a CAS that finds what it expects, one that does not, and one of a place that is not there.
-/
import Derived.Test.YtokcchgccfpbpaaDoorWdPlay
import Derived.OwnWalk
import Derived.WalkSpells
namespace Go.Proofs.YtokcchgccfpbpaaDoor
open Go.RowKit Go.Extern.Stop Go.Stop Go.Extern

theorem ownsRow_keeps {w w' : World} {base : Nat} {e : TypeId} {size : Nat} {v : Value} {n : Nat} {xs : List Value} {S : Nat → Prop} (h : w.ownsRow base e size v n xs) (k : Keeps S w w') (hS : ∀ b, v.ownBlock = some b → ¬ S b) : w'.ownsRow base e size v n xs := by
  obtain ⟨h1, h2⟩ := h
  refine ⟨h1, ?_⟩
  rcases h2 with h2 | ⟨g, cap, cur, rfl, hg, hh, r⟩
  · exact .inl h2
  · exact .inr ⟨g, cap, cur, rfl, hg, (k.block g (lt_of_block hh) (hS g rfl)).trans hh, r⟩

/-- The value of a slice that owns a row of elements is a slice at its head. -/
theorem own_form {w : World} {base : Nat} {e : TypeId} {size : Nat} {v : Value} {n : Nat} {xs : List Value} (h : w.ownsRow base e size v n xs) (hn : 0 < n) : ∃ g cap, v = .slice (some ⟨g, 0, none⟩) n cap ∧ base ≤ g ∧ g < w.heap.size := by
  rcases h.2 with ⟨_, h0⟩ | ⟨g, cap, cur, rfl, hg, hh, _⟩
  · omega
  · exact ⟨g, cap, rfl, hg, lt_of_block hh⟩

theorem own_whole_ne {w : World} {base : Nat} {e : TypeId} {size : Nat} {v : Value} {n : Nat} {xs : List Value} {g : Nat} {t : TypeId} {cs : Array Value} (h : w.ownsRow base e size v n xs) (hg : Whole w g t cs) (hne : e ≠ t) : v.ownBlock ≠ some g := by
  rcases h.2 with ⟨rfl, _⟩ | ⟨g', cap, cur, rfl, _, hh, _⟩
  · simp [Value.ownBlock]
  · intro he
    obtain rfl : g' = g := by simpa [Value.ownBlock] using he
    exact Whole.ne_ (t := e) hh hg hne rfl

theorem add_head (g j : Nat) : ((⟨g, 0, none⟩ : Addr).add j) = ⟨g, j, none⟩ := by
  unfold Addr.add
  split
  · subst_vars; rfl
  · simp

theorem Whole.adds {w : World} {g : Nat} {t : TypeId} {cs : List Value} (h : Whole w g t cs.toArray) : ∀ j u, cs[j]? = some u → w.cell? ((⟨g, 0, none⟩ : Addr).add j) = some u := by
  intro j u hu
  have e1 : ((⟨g, 0, none⟩ : Addr).add j) = ⟨g, j, none⟩ := by
    unfold Addr.add
    split
    · subst_vars; rfl
    · simp
  rw [e1, h.at_ j]
  simpa using hu

theorem info_access : (Tryd.prog.info? 51).map (fun i => (i.zero, i.size, i.bytes)) = some (some (.agg #[.int .i64 0, .int .i64 0, .int .u64 0, .int .u64 0, .bool false]), 5, 40) := by kernel_rfl

/-- The values of words. -/
def wordVals (ws : List Int) : List Value := ws.map (Value.int .u64 ·)

/-- Block r is the document's arena of the words ws, with m accesses noted; its rows and itself lie from lo on, the row of accesses from B on. -/
def Ref (w : World) (r lo B : Nat) (ws : List Int) (m : Nat) : Prop :=
  ∃ g c va xs, Whole w r 34 #[.slice (some ⟨g, 0, none⟩) ws.length c, va] ∧ w.ownsRow lo 35 1 (.slice (some ⟨g, 0, none⟩) ws.length c) ws.length (wordVals ws) ∧ w.ownsRow B 51 5 va m xs ∧ lo ≤ r ∧ lo ≤ B

theorem Ref.keeps {w w' : World} {r lo B m : Nat} {ws : List Int} {S : Nat → Prop} (h : Ref w r lo B ws m) (k : Keeps S w w') (hS : ∀ x, x < w.heap.size → lo ≤ x → ¬ S x) : Ref w' r lo B ws m := by
  obtain ⟨g, c, va, xs, h1, h2, h3, h4, h5⟩ := h
  refine ⟨g, c, va, xs, h1.keeps k (hS _ h1.lt h4), ownsRow_keeps h2 k fun b hb => hS b (h2.lt b hb).2 (h2.lt b hb).1, ownsRow_keeps h3 k fun b hb => hS b (h3.lt b hb).2 (Nat.le_trans h5 (h3.lt b hb).1), h4, h5⟩

/-- The blocks that an access of the document's arena may change. -/
def Hers (w : World) (r B : Nat) (k : Nat) : Prop := k = r ∨ (B ≤ k ∧ ∃ cs, Whole w k 51 cs)

theorem own_cells {w : World} {base : Nat} {e : TypeId} {size : Nat} {v : Value} {n : Nat} {xs : List Value} (h : w.ownsRow base e size v n xs) {b : Nat} (hb : v.ownBlock = some b) : ∃ cs, Whole w b e cs := by
  rcases h.2 with ⟨rfl, _⟩ | ⟨g', cap, cur, rfl, _, hh, _⟩
  · simp [Value.ownBlock] at hb
  · obtain rfl : g' = b := by simpa [Value.ownBlock] using hb
    exact ⟨cur, hh⟩

/-- What Do leaves. -/
def Did (w : World) (r lo B : Nat) (ws : List Int) (m : Nat) (u : Int) (done : Bool) (e : Ending) (w' : World) : Prop :=
  e = .returned (.tuple #[.int .u64 u, .bool done, .int .i64 0]) ∧ Ref w' r lo B ws (m + 1) ∧ Keeps (Hers w r B) w w'

theorem ownsRow_mono {w : World} {base base' : Nat} {e : TypeId} {size : Nat} {v : Value} {n : Nat} {xs : List Value} (h : w.ownsRow base e size v n xs) (hb : base' ≤ base) : w.ownsRow base' e size v n xs := by
  obtain ⟨h1, h2⟩ := h
  refine ⟨h1, ?_⟩
  rcases h2 with h2 | ⟨g, cap, cur, rfl, hg, hh, r⟩
  · exact .inl h2
  · exact .inr ⟨g, cap, cur, rfl, Nat.le_trans hb hg, hh, r⟩

/-- The world ahead of Do's second append. -/
def midWorld (w1 : World) (g1 i r : Nat) (x : Value) (v1 : Value) (o : Obj) : World := ((w1.setCell ⟨g1, i, none⟩ x).setCell ⟨r, 0, none⟩ v1).alloc o

section
variable {w w1 : World} {r g1 n cap1 i m B lo : Nat} {old0 va x : Value} {xs xs1 : List Value} {o : Obj}

theorem mid_keeps (K1 : Keeps (fun _ => False) w w1) (hg : w.heap.size ≤ g1) : Keeps (fun k => k = r) w (midWorld w1 g1 i r x (.slice (some ⟨g1, 0, none⟩) n cap1) o) :=
  ((((K1.mono fun _ _ h => h.elim : Keeps (fun k => k = r) w w1)).setCell (p := ⟨g1, i, none⟩) (fun h => absurd h (by simp only; omega)) x).setCell (p := ⟨r, 0, none⟩) (fun _ => rfl) _).alloc o

theorem mid_ref (h1 : Whole w r 34 #[old0, va]) (K1 : Keeps (fun _ => False) w w1) (hg : w.heap.size ≤ g1) :
    Whole (midWorld w1 g1 i r x (.slice (some ⟨g1, 0, none⟩) n cap1) o) r 34 #[.slice (some ⟨g1, 0, none⟩) n cap1, va] := by
  have hr := h1.lt
  have a := ((h1.keeps K1 id).far (p := ⟨g1, i, none⟩) (by simp only; omega) x).set_ 0 (.slice (some ⟨g1, 0, none⟩) n cap1)
  exact (by simpa using a : Whole _ r _ _).alloc o

theorem mid_acc (h1 : Whole w r 34 #[old0, va]) (h3 : w.ownsRow B 51 5 va m xs) (K1 : Keeps (fun _ => False) w w1) (hg : w.heap.size ≤ g1) :
    (midWorld w1 g1 i r x (.slice (some ⟨g1, 0, none⟩) n cap1) o).ownsRow B 51 5 va m xs :=
  ownsRow_keeps h3 (mid_keeps K1 hg) fun b hb e => own_whole_ne h3 h1 (by decide) (by rw [hb, e])

theorem mid_words (hr : r < w.heap.size) (hg : w.heap.size ≤ g1) (ho : w1.ownsRow w.heap.size 35 1 (.slice (some ⟨g1, 0, none⟩) n cap1) n xs1) :
    (midWorld w1 g1 i r x (.slice (some ⟨g1, 0, none⟩) n cap1) o).ownsRow w.heap.size 35 1 (.slice (some ⟨g1, 0, none⟩) n cap1) n (xs1.set i x) := by
  refine World.ownsRow.alloc ?_ o
  refine ownsRow_setCell_other (ho.stored i x).1 ?_ _
  simp [Value.ownBlock]
  omega

theorem mid_new {x' : Value} {t : TypeId} {cs : List Value} : ∀ j u, cs[j]? = some u → (midWorld w1 g1 i r x x' (.cells cs.toArray t)).cell? ((⟨w1.heap.size, 0, none⟩ : Addr).add j) = some u := by
  refine Whole.adds (t := t) ?_
  have := Whole.made ((w1.setCell ⟨g1, i, none⟩ x).setCell ⟨r, 0, none⟩ x') t cs.toArray
  simpa [midWorld] using this

theorem did_of {w2 : World} {g2 cap2 : Nat} {xs2 : List Value} {ws' : List Int} (h1 : Whole w r 34 #[old0, va]) (h3 : w.ownsRow B 51 5 va m xs) (hlr : lo ≤ r) (hlB : lo ≤ B) (K1 : Keeps (fun _ => False) w w1) (hg : w.heap.size ≤ g1)
    (ho : w1.ownsRow w.heap.size 35 1 (.slice (some ⟨g1, 0, none⟩) n cap1) n xs1) (hxs : xs1.set i x = wordVals ws') (hn : n = ws'.length)
    (G2 : (midWorld w1 g1 i r x (.slice (some ⟨g1, 0, none⟩) n cap1) o).grownBy w2 va.ownBlock) (o2 : w2.ownsRow B 51 5 (.slice (some ⟨g2, 0, none⟩) (m + 1) cap2) (m + 1) xs2) :
    Whole w2 r 34 #[.slice (some ⟨g1, 0, none⟩) n cap1, va] ∧
    Ref (w2.setCell ⟨r, 1, none⟩ (.slice (some ⟨g2, 0, none⟩) (m + 1) cap2)) r lo B ws' (m + 1) ∧ Keeps (Hers w r B) w (w2.setCell ⟨r, 1, none⟩ (.slice (some ⟨g2, 0, none⟩) (m + 1) cap2)) := by
  have hr := h1.lt
  have hne := own_whole_ne h3 h1 (by decide)
  have W3 : Whole _ r _ _ := mid_ref (i := i) (n := n) (cap1 := cap1) (x := x) (o := o) h1 K1 hg
  have W2 : Whole w2 r 34 #[.slice (some ⟨g1, 0, none⟩) n cap1, va] := (G2.block r W3.lt (fun e => hne e.symm)).trans W3
  have hvb : ∀ b, va.ownBlock = some b → B ≤ b ∧ b < w.heap.size := h3.lt
  have m3 := mid_words (i := i) (x := x) (o := o) hr hg ho
  rw [hxs] at m3
  have m2 : w2.ownsRow w.heap.size 35 1 (.slice (some ⟨g1, 0, none⟩) n cap1) n (wordVals ws') := m3.kept G2 (.inr fun e => by
    have := hvb g1 (by rw [← e]; rfl)
    omega)
  have m1 := ownsRow_setCell_other m2 (a := ⟨r, 1, none⟩) (by simp [Value.ownBlock]; omega) (.slice (some ⟨g2, 0, none⟩) (m + 1) cap2)
  have q1 := ownsRow_setCell_other o2 (a := ⟨r, 1, none⟩) (own_whole_ne o2 W2 (by decide)) (.slice (some ⟨g2, 0, none⟩) (m + 1) cap2)
  have w1' : Whole _ r _ _ := W2.set_ 1 (.slice (some ⟨g2, 0, none⟩) (m + 1) cap2)
  subst hn
  refine ⟨W2, ⟨g1, cap1, _, _, by simpa using w1', ownsRow_mono m1 (by omega), q1, hlr, hlB⟩, ?_⟩
  refine Keeps.setCell ?_ (p := ⟨r, 1, none⟩) (fun _ => .inl rfl) _
  exact ((mid_keeps K1 hg).mono fun _ _ e => Or.inl e).grown G2 fun b hb _ => .inr ⟨(hvb b hb).1, own_cells h3 hb⟩
end

theorem first_of {w w1 : World} {r i g c : Nat} {va v1 : Value} {ws : List Int} {u : Int} (h1 : Whole w r 34 #[.slice (some ⟨g, 0, none⟩) ws.length c, va]) (hi : i < ws.length) (hu : ws.getD i 0 = u)
    (ho : w1.ownsRow w.heap.size 35 1 v1 (0 + ws.length) ([] ++ wordVals ws)) (hg : (w.alloc (.cells #[] 35)).grownBy w1 (some w.heap.size)) :
    ∃ g1 cap1, v1 = .slice (some ⟨g1, 0, none⟩) ws.length cap1 ∧ w.heap.size ≤ g1 ∧ g1 < w1.heap.size ∧ Keeps (fun _ => False) w w1 ∧ w1.ownsRow w.heap.size 35 1 (.slice (some ⟨g1, 0, none⟩) ws.length cap1) ws.length (wordVals ws) ∧
      w1.cell? ⟨g1, i, none⟩ = some (.int .u64 u) ∧ w1.frozen? ⟨g1, i, none⟩ = false ∧ w1.cell? ⟨r, 0, none⟩ = some (.slice (some ⟨g, 0, none⟩) ws.length c) ∧ w1.cell? ⟨r, 1, none⟩ = some va ∧ w1.frozen? ⟨r, 0, none⟩ = false ∧ ¬ g1 = r ∧ ¬ r = g1 ∧ r < w1.heap.size := by
  rw [Nat.zero_add, List.nil_append] at ho
  obtain ⟨g1, cap1, rfl, hg1, hl1⟩ := own_form ho (by omega)
  have K1 : Keeps (fun _ => False) w w1 := ((Keeps.refl (fun _ => False) w).alloc (.cells #[] 35)).grown hg (fun k hk hlt => by
    have := Option.some.inj hk
    omega)
  have W1 := h1.keeps K1 id
  have hr := h1.lt
  have hx : w1.cell? ⟨g1, i, none⟩ = some (.int .u64 u) := by
    rw [ho.cellAt i (by omega), ← hu]
    simp [wordVals, List.getD, hi]
  exact ⟨g1, cap1, rfl, hg1, hl1, K1, ho, hx, ho.frozenAt i, W1.at_ 0, W1.at_ 1, W1.free 0, by omega, by omega, W1.lt⟩

theorem set_self (ws : List Int) (i : Nat) (hi : i < ws.length) : (wordVals ws).set i (.int .u64 (ws.getD i 0)) = wordVals ws := by
  have h : (wordVals ws)[i]? = some (.int .u64 (ws.getD i 0)) := by simp [wordVals, List.getD, hi]
  apply List.ext_getElem?
  intro k
  rw [List.getElem?_set]
  split
  · subst_vars
    split
    · exact h.symm
    · rename_i hlt; simp [wordVals] at hlt; omega
  · rfl

theorem do_out (r lo B : Nat) (ws : List Int) (m : Nat) (k i old x : Int) (hi : i < 0 ∨ (ws.length : Int) ≤ i) (w : World) (h : Ref w r lo B ws m) :
    Calls Tryd.prog 17 #[.pointer (some ⟨r, 0, none⟩), .int .i64 k, .int .i64 i, .int .u64 old, .int .u64 x] w fun e w' => e = .returned (.tuple #[.int .u64 0, .bool false, .int .i64 3]) ∧ w = w' := by
  obtain ⟨g, c, va, xs, h1, h2, h3, h4, h5⟩ := h
  have c0 : w.cell? ⟨r, 0, none⟩ = some (.slice (some ⟨g, 0, none⟩) ws.length c) := h1.at_ 0
  clear h1 h2 h3
  by_cases hn : i < 0
  all_goals
    first
    | have hq : i < 0 := hn
    | have hq : (ws.length : Int) ≤ i := by omega
    clear hi
    go_enter Tryd.func17, Tryd.ntmps17
    go_wp2
    go_ret3
    exact ⟨rfl, rfl⟩

set_option maxRecDepth 100000 in
set_option maxHeartbeats 2000000 in
theorem do_store (r lo B : Nat) (ws : List Int) (m i : Nat) (p q : Int) (hi : i < ws.length) (hn : ws.length ≤ 16384) (hm : m ≤ 100000) (w : World) (hB : B ≤ w.heap.size) (h : Ref w r lo B ws m) :
    Calls Tryd.prog 17 #[.pointer (some ⟨r, 0, none⟩), .int .i64 2, .int .i64 i, .int .u64 p, .int .u64 q] w fun e w' => Did w r lo B (ws.set i q) m (ws.getD i 0) true e w' := by
  obtain ⟨g, c, va, xs, h1, h2, h3, h4, h5⟩ := h
  have c0 : w.cell? ⟨r, 0, none⟩ = some (.slice (some ⟨g, 0, none⟩) ws.length c) := h1.at_ 0
  have hr := h1.lt
  have d0 : w.cell? ⟨g, i, none⟩ = some (.int .u64 (ws.getD i 0)) := (h2.cellAt i (by omega)).trans (by simp [wordVals, List.getD, hi])
  have hlo : lo ≤ w.heap.size := by omega
  have hwsn := Lib.hid (show (wordVals ws).set i (.int .u64 q) = wordVals (ws.set i q) from (by simp [wordVals, List.map_set]))
  have hlen := Lib.hid (show ((ws.set i q)).length = ws.length from by simp)
  obtain ⟨u, hu⟩ : ∃ u, ws.getD i 0 = u := ⟨_, rfl⟩
  rw [hu] at d0 ⊢
  have hu' := Lib.hid hu
  clear hu
  obtain ⟨i0, hi0, hz0, hs0, hb0⟩ := info_parts info_word
  obtain ⟨i1, hi1, hz1, hs1, hb1⟩ := info_parts info_access
  have h1' := Lib.hid h1
  have h2' := Lib.hid h2
  have h3' := Lib.hid h3
  clear h1 h2 h3
  go_enter Tryd.func17, Tryd.ntmps17
  go_wp2_with (first
    | (at_builtin; refine wpList_append_own _ rfl (.tmp 46) (.tmp 50) 28 rfl w.heap.size 35 i0 (.int .u64 0) 1 8 Tryd.underlying28 hi0 hz0 hs0 hb0 rfl (by decide) (.slice (some ⟨w.heap.size, 0, none⟩) 0 0) 0 [] rfl ?c0 ⟨g, 0, none⟩ ws.length c (wordVals ws) rfl ?c1 ?c2 ?c3 ?c4 ?c5 ?c6 ?main; case' main => (intro v1 w1 hown1 hgrow1 hnil1; clear hnil1; obtain ⟨g1, cap1, hv1, hg1, hl1, K1, own1, x1, fz1, y0, y1, e0, ner, ner2, hr1⟩ := first_of h1'.out hi hu'.out hown1 hgrow1; rw [hv1]; clear hown1 hgrow1 hv1; have K1' := Lib.hid K1; have own1' := Lib.hid own1; clear K1 own1))
    | (at_builtin; (refine wpList_append_own _ rfl (.tmp 64) (.tmp 71) 32 rfl B 51 i1 (.agg #[.int .i64 0, .int .i64 0, .int .u64 0, .int .u64 0, .bool false]) 5 40 Tryd.underlying32 hi1 hz1 hs1 hb1 rfl (by decide) va m xs rfl ?d0 ⟨w1.heap.size, 0, none⟩ 1 1 [.int .i64 2, .int .i64 i, .int .u64 u, .int .u64 q, .bool true] rfl ?d1 ?d2 ?d3 ?d4 ?d5 ?d6 ?main2); case' main2 => (intro v2 w2 hown2 hgrow2 hnil2; clear hnil2; obtain ⟨g2, cap2, hv2, hg2, hl2⟩ := own_form hown2 (by omega); rw [hv2]; rw [hv2] at hown2; clear hv2; obtain ⟨z1, z2, z3⟩ := did_of (lo := lo) (ws' := (ws.set i q)) (x := .int .u64 q) h1'.out h3'.out h4 h5 K1'.out hg1 own1'.out hwsn.out hlen.out.symm hgrow2 hown2; have z1c : w2.cell? ⟨r, 1, none⟩ = some va := z1.at_ 1; have z1f := z1.free 1; have z2' := Lib.hid z2; have z3' := Lib.hid z3; clear z1 z2 z3 hown2 hgrow2)))
  case d0 => exact mid_acc h1'.out h3'.out K1'.out hg1
  try case d1 => rfl
  try case d2 => exact mid_new
  case d3 =>
    first
    | exact ⟨rfl, rfl, rfl, rfl⟩
    | intro v hv
      simp only [List.mem_cons, List.not_mem_nil, or_false] at hv
      rcases hv with rfl | rfl | rfl | rfl | rfl <;> rfl
  case d4 => unfold maxLen; omega
  case d5 => omega
  case d6 =>
    have := K1'.out.size
    simp
    omega
  case c0 => exact World.ownsRow_made w #[] 0 (Nat.le_refl _) (by decide) rfl
  try case c1 => simp [wordVals]
  case c2 =>
    first
    | exact (h2'.out.alloc _).cells rfl
    | intro j v hv
      have := (h2'.out.alloc (.cells #[] 35)).cells (g := g) rfl j v hv
      rwa [add_head] at this
  case c3 =>
    intro v hv
    simp only [wordVals, List.mem_map] at hv
    obtain ⟨_, _, rfl⟩ := hv
    rfl
  case c4 => unfold maxLen; omega
  case c5 => omega
  try case c6 => simp
  go_ret3
  exact ⟨rfl, z2'.out, z3'.out⟩

set_option maxRecDepth 100000 in
set_option maxHeartbeats 2000000 in
theorem do_load (r lo B : Nat) (ws : List Int) (m i : Nat) (p q : Int) (hi : i < ws.length) (hn : ws.length ≤ 16384) (hm : m ≤ 100000) (w : World) (hB : B ≤ w.heap.size) (h : Ref w r lo B ws m) :
    Calls Tryd.prog 17 #[.pointer (some ⟨r, 0, none⟩), .int .i64 1, .int .i64 i, .int .u64 p, .int .u64 q] w fun e w' => Did w r lo B ws m (ws.getD i 0) true e w' := by
  obtain ⟨g, c, va, xs, h1, h2, h3, h4, h5⟩ := h
  have c0 : w.cell? ⟨r, 0, none⟩ = some (.slice (some ⟨g, 0, none⟩) ws.length c) := h1.at_ 0
  have hr := h1.lt
  have d0 : w.cell? ⟨g, i, none⟩ = some (.int .u64 (ws.getD i 0)) := (h2.cellAt i (by omega)).trans (by simp [wordVals, List.getD, hi])
  have hlo : lo ≤ w.heap.size := by omega
  have hwsn := Lib.hid (show (wordVals ws).set i (.int .u64 (ws.getD i 0)) = wordVals ws from (set_self ws i hi))
  have hlen := Lib.hid (show (ws).length = ws.length from by simp)
  obtain ⟨u, hu⟩ : ∃ u, ws.getD i 0 = u := ⟨_, rfl⟩
  rw [hu] at d0 hwsn ⊢
  have hu' := Lib.hid hu
  clear hu
  obtain ⟨i0, hi0, hz0, hs0, hb0⟩ := info_parts info_word
  obtain ⟨i1, hi1, hz1, hs1, hb1⟩ := info_parts info_access
  have h1' := Lib.hid h1
  have h2' := Lib.hid h2
  have h3' := Lib.hid h3
  clear h1 h2 h3
  go_enter Tryd.func17, Tryd.ntmps17
  go_wp2_with (first
    | (at_builtin; refine wpList_append_own _ rfl (.tmp 46) (.tmp 50) 28 rfl w.heap.size 35 i0 (.int .u64 0) 1 8 Tryd.underlying28 hi0 hz0 hs0 hb0 rfl (by decide) (.slice (some ⟨w.heap.size, 0, none⟩) 0 0) 0 [] rfl ?c0 ⟨g, 0, none⟩ ws.length c (wordVals ws) rfl ?c1 ?c2 ?c3 ?c4 ?c5 ?c6 ?main; case' main => (intro v1 w1 hown1 hgrow1 hnil1; clear hnil1; obtain ⟨g1, cap1, hv1, hg1, hl1, K1, own1, x1, fz1, y0, y1, e0, ner, ner2, hr1⟩ := first_of h1'.out hi hu'.out hown1 hgrow1; rw [hv1]; clear hown1 hgrow1 hv1; have K1' := Lib.hid K1; have own1' := Lib.hid own1; clear K1 own1))
    | (at_builtin; (refine wpList_append_own _ rfl (.tmp 64) (.tmp 71) 32 rfl B 51 i1 (.agg #[.int .i64 0, .int .i64 0, .int .u64 0, .int .u64 0, .bool false]) 5 40 Tryd.underlying32 hi1 hz1 hs1 hb1 rfl (by decide) va m xs rfl ?d0 ⟨w1.heap.size, 0, none⟩ 1 1 [.int .i64 1, .int .i64 i, .int .u64 u, .int .u64 u, .bool true] rfl ?d1 ?d2 ?d3 ?d4 ?d5 ?d6 ?main2); case' main2 => (intro v2 w2 hown2 hgrow2 hnil2; clear hnil2; obtain ⟨g2, cap2, hv2, hg2, hl2⟩ := own_form hown2 (by omega); rw [hv2]; rw [hv2] at hown2; clear hv2; obtain ⟨z1, z2, z3⟩ := did_of (lo := lo) (ws' := ws) (x := .int .u64 u) h1'.out h3'.out h4 h5 K1'.out hg1 own1'.out hwsn.out hlen.out.symm hgrow2 hown2; have z1c : w2.cell? ⟨r, 1, none⟩ = some va := z1.at_ 1; have z1f := z1.free 1; have z2' := Lib.hid z2; have z3' := Lib.hid z3; clear z1 z2 z3 hown2 hgrow2)))
  case d0 => exact mid_acc h1'.out h3'.out K1'.out hg1
  try case d1 => rfl
  try case d2 => exact mid_new
  case d3 =>
    first
    | exact ⟨rfl, rfl, rfl, rfl⟩
    | intro v hv
      simp only [List.mem_cons, List.not_mem_nil, or_false] at hv
      rcases hv with rfl | rfl | rfl | rfl | rfl <;> rfl
  case d4 => unfold maxLen; omega
  case d5 => omega
  case d6 =>
    have := K1'.out.size
    simp
    omega
  case c0 => exact World.ownsRow_made w #[] 0 (Nat.le_refl _) (by decide) rfl
  try case c1 => simp [wordVals]
  case c2 =>
    first
    | exact (h2'.out.alloc _).cells rfl
    | intro j v hv
      have := (h2'.out.alloc (.cells #[] 35)).cells (g := g) rfl j v hv
      rwa [add_head] at this
  case c3 =>
    intro v hv
    simp only [wordVals, List.mem_map] at hv
    obtain ⟨_, _, rfl⟩ := hv
    rfl
  case c4 => unfold maxLen; omega
  case c5 => omega
  try case c6 => simp
  go_ret3
  exact ⟨rfl, z2'.out, z3'.out⟩

set_option maxRecDepth 100000 in
set_option maxHeartbeats 2000000 in
theorem do_cas_no (r lo B : Nat) (ws : List Int) (m i : Nat) (p q : Int) (hp : ws.getD i 0 ≠ p) (hi : i < ws.length) (hn : ws.length ≤ 16384) (hm : m ≤ 100000) (w : World) (hB : B ≤ w.heap.size) (h : Ref w r lo B ws m) :
    Calls Tryd.prog 17 #[.pointer (some ⟨r, 0, none⟩), .int .i64 3, .int .i64 i, .int .u64 p, .int .u64 q] w fun e w' => Did w r lo B ws m (ws.getD i 0) false e w' := by
  obtain ⟨g, c, va, xs, h1, h2, h3, h4, h5⟩ := h
  have c0 : w.cell? ⟨r, 0, none⟩ = some (.slice (some ⟨g, 0, none⟩) ws.length c) := h1.at_ 0
  have hr := h1.lt
  have d0 : w.cell? ⟨g, i, none⟩ = some (.int .u64 (ws.getD i 0)) := (h2.cellAt i (by omega)).trans (by simp [wordVals, List.getD, hi])
  have hlo : lo ≤ w.heap.size := by omega
  have hwsn := Lib.hid (show (wordVals ws).set i (.int .u64 (ws.getD i 0)) = wordVals ws from (set_self ws i hi))
  have hlen := Lib.hid (show (ws).length = ws.length from by simp)
  obtain ⟨u, hu⟩ : ∃ u, ws.getD i 0 = u := ⟨_, rfl⟩
  rw [hu] at d0 hwsn ⊢
  have hup : (u == p) = false := by rw [← hu]; simpa using hp
  clear hp
  have hu' := Lib.hid hu
  clear hu
  obtain ⟨i0, hi0, hz0, hs0, hb0⟩ := info_parts info_word
  obtain ⟨i1, hi1, hz1, hs1, hb1⟩ := info_parts info_access
  have h1' := Lib.hid h1
  have h2' := Lib.hid h2
  have h3' := Lib.hid h3
  clear h1 h2 h3
  go_enter Tryd.func17, Tryd.ntmps17
  go_wp2_with (first
    | (at_builtin; refine wpList_append_own _ rfl (.tmp 46) (.tmp 50) 28 rfl w.heap.size 35 i0 (.int .u64 0) 1 8 Tryd.underlying28 hi0 hz0 hs0 hb0 rfl (by decide) (.slice (some ⟨w.heap.size, 0, none⟩) 0 0) 0 [] rfl ?c0 ⟨g, 0, none⟩ ws.length c (wordVals ws) rfl ?c1 ?c2 ?c3 ?c4 ?c5 ?c6 ?main; case' main => (intro v1 w1 hown1 hgrow1 hnil1; clear hnil1; obtain ⟨g1, cap1, hv1, hg1, hl1, K1, own1, x1, fz1, y0, y1, e0, ner, ner2, hr1⟩ := first_of h1'.out hi hu'.out hown1 hgrow1; rw [hv1]; clear hown1 hgrow1 hv1; have K1' := Lib.hid K1; have own1' := Lib.hid own1; clear K1 own1))
    | (at_builtin; (refine wpList_append_own _ rfl (.tmp 64) (.tmp 71) 32 rfl B 51 i1 (.agg #[.int .i64 0, .int .i64 0, .int .u64 0, .int .u64 0, .bool false]) 5 40 Tryd.underlying32 hi1 hz1 hs1 hb1 rfl (by decide) va m xs rfl ?d0 ⟨w1.heap.size, 0, none⟩ 1 1 [.int .i64 3, .int .i64 i, .int .u64 u, .int .u64 u, .bool false] rfl ?d1 ?d2 ?d3 ?d4 ?d5 ?d6 ?main2); case' main2 => (intro v2 w2 hown2 hgrow2 hnil2; clear hnil2; obtain ⟨g2, cap2, hv2, hg2, hl2⟩ := own_form hown2 (by omega); rw [hv2]; rw [hv2] at hown2; clear hv2; obtain ⟨z1, z2, z3⟩ := did_of (lo := lo) (ws' := ws) (x := .int .u64 u) h1'.out h3'.out h4 h5 K1'.out hg1 own1'.out hwsn.out hlen.out.symm hgrow2 hown2; have z1c : w2.cell? ⟨r, 1, none⟩ = some va := z1.at_ 1; have z1f := z1.free 1; have z2' := Lib.hid z2; have z3' := Lib.hid z3; clear z1 z2 z3 hown2 hgrow2)))
  case d0 => exact mid_acc h1'.out h3'.out K1'.out hg1
  try case d1 => rfl
  try case d2 => exact mid_new
  case d3 =>
    first
    | exact ⟨rfl, rfl, rfl, rfl⟩
    | intro v hv
      simp only [List.mem_cons, List.not_mem_nil, or_false] at hv
      rcases hv with rfl | rfl | rfl | rfl | rfl <;> rfl
  case d4 => unfold maxLen; omega
  case d5 => omega
  case d6 =>
    have := K1'.out.size
    simp
    omega
  case c0 => exact World.ownsRow_made w #[] 0 (Nat.le_refl _) (by decide) rfl
  try case c1 => simp [wordVals]
  case c2 =>
    first
    | exact (h2'.out.alloc _).cells rfl
    | intro j v hv
      have := (h2'.out.alloc (.cells #[] 35)).cells (g := g) rfl j v hv
      rwa [add_head] at this
  case c3 =>
    intro v hv
    simp only [wordVals, List.mem_map] at hv
    obtain ⟨_, _, rfl⟩ := hv
    rfl
  case c4 => unfold maxLen; omega
  case c5 => omega
  try case c6 => simp
  go_ret3
  exact ⟨rfl, z2'.out, z3'.out⟩

set_option maxRecDepth 100000 in
set_option maxHeartbeats 2000000 in
theorem do_cas_yes (r lo B : Nat) (ws : List Int) (m i : Nat) (p q : Int) (hp : ws.getD i 0 = p) (hi : i < ws.length) (hn : ws.length ≤ 16384) (hm : m ≤ 100000) (w : World) (hB : B ≤ w.heap.size) (h : Ref w r lo B ws m) :
    Calls Tryd.prog 17 #[.pointer (some ⟨r, 0, none⟩), .int .i64 3, .int .i64 i, .int .u64 p, .int .u64 q] w fun e w' => Did w r lo B (ws.set i q) m (ws.getD i 0) true e w' := by
  obtain ⟨g, c, va, xs, h1, h2, h3, h4, h5⟩ := h
  have c0 : w.cell? ⟨r, 0, none⟩ = some (.slice (some ⟨g, 0, none⟩) ws.length c) := h1.at_ 0
  have hr := h1.lt
  have d0 : w.cell? ⟨g, i, none⟩ = some (.int .u64 (ws.getD i 0)) := (h2.cellAt i (by omega)).trans (by simp [wordVals, List.getD, hi])
  have hlo : lo ≤ w.heap.size := by omega
  have hwsn := Lib.hid (show (wordVals ws).set i (.int .u64 q) = wordVals (ws.set i q) from (by simp [wordVals, List.map_set]))
  have hlen := Lib.hid (show ((ws.set i q)).length = ws.length from by simp)
  obtain ⟨u, hu⟩ : ∃ u, ws.getD i 0 = u := ⟨_, rfl⟩
  rw [hu] at d0 ⊢
  have hup : (u == p) = true := by rw [← hu]; simpa using hp
  clear hp
  have hu' := Lib.hid hu
  clear hu
  obtain ⟨i0, hi0, hz0, hs0, hb0⟩ := info_parts info_word
  obtain ⟨i1, hi1, hz1, hs1, hb1⟩ := info_parts info_access
  have h1' := Lib.hid h1
  have h2' := Lib.hid h2
  have h3' := Lib.hid h3
  clear h1 h2 h3
  go_enter Tryd.func17, Tryd.ntmps17
  go_wp2_with (first
    | (at_builtin; refine wpList_append_own _ rfl (.tmp 46) (.tmp 50) 28 rfl w.heap.size 35 i0 (.int .u64 0) 1 8 Tryd.underlying28 hi0 hz0 hs0 hb0 rfl (by decide) (.slice (some ⟨w.heap.size, 0, none⟩) 0 0) 0 [] rfl ?c0 ⟨g, 0, none⟩ ws.length c (wordVals ws) rfl ?c1 ?c2 ?c3 ?c4 ?c5 ?c6 ?main; case' main => (intro v1 w1 hown1 hgrow1 hnil1; clear hnil1; obtain ⟨g1, cap1, hv1, hg1, hl1, K1, own1, x1, fz1, y0, y1, e0, ner, ner2, hr1⟩ := first_of h1'.out hi hu'.out hown1 hgrow1; rw [hv1]; clear hown1 hgrow1 hv1; have K1' := Lib.hid K1; have own1' := Lib.hid own1; clear K1 own1))
    | (at_builtin; (refine wpList_append_own _ rfl (.tmp 64) (.tmp 71) 32 rfl B 51 i1 (.agg #[.int .i64 0, .int .i64 0, .int .u64 0, .int .u64 0, .bool false]) 5 40 Tryd.underlying32 hi1 hz1 hs1 hb1 rfl (by decide) va m xs rfl ?d0 ⟨w1.heap.size, 0, none⟩ 1 1 [.int .i64 3, .int .i64 i, .int .u64 u, .int .u64 q, .bool true] rfl ?d1 ?d2 ?d3 ?d4 ?d5 ?d6 ?main2); case' main2 => (intro v2 w2 hown2 hgrow2 hnil2; clear hnil2; obtain ⟨g2, cap2, hv2, hg2, hl2⟩ := own_form hown2 (by omega); rw [hv2]; rw [hv2] at hown2; clear hv2; obtain ⟨z1, z2, z3⟩ := did_of (lo := lo) (ws' := (ws.set i q)) (x := .int .u64 q) h1'.out h3'.out h4 h5 K1'.out hg1 own1'.out hwsn.out hlen.out.symm hgrow2 hown2; have z1c : w2.cell? ⟨r, 1, none⟩ = some va := z1.at_ 1; have z1f := z1.free 1; have z2' := Lib.hid z2; have z3' := Lib.hid z3; clear z1 z2 z3 hown2 hgrow2)))
  case d0 => exact mid_acc h1'.out h3'.out K1'.out hg1
  try case d1 => rfl
  try case d2 => exact mid_new
  case d3 =>
    first
    | exact ⟨rfl, rfl, rfl, rfl⟩
    | intro v hv
      simp only [List.mem_cons, List.not_mem_nil, or_false] at hv
      rcases hv with rfl | rfl | rfl | rfl | rfl <;> rfl
  case d4 => unfold maxLen; omega
  case d5 => omega
  case d6 =>
    have := K1'.out.size
    simp
    omega
  case c0 => exact World.ownsRow_made w #[] 0 (Nat.le_refl _) (by decide) rfl
  try case c1 => simp [wordVals]
  case c2 =>
    first
    | exact (h2'.out.alloc _).cells rfl
    | intro j v hv
      have := (h2'.out.alloc (.cells #[] 35)).cells (g := g) rfl j v hv
      rwa [add_head] at this
  case c3 =>
    intro v hv
    simp only [wordVals, List.mem_map] at hv
    obtain ⟨_, _, rfl⟩ := hv
    rfl
  case c4 => unfold maxLen; omega
  case c5 => omega
  try case c6 => simp
  go_ret3
  exact ⟨rfl, z2'.out, z3'.out⟩

end Go.Proofs.YtokcchgccfpbpaaDoor
