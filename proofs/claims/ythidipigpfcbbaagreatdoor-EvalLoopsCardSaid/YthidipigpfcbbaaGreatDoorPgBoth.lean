/-
  Statements that came in, as a list; what was put behind one another.
-/
import Derived.Test.YthidipigpfcbbaaGreatDoorPgFace
import Derived.Test.YthidipigpfcbbaaGreatDoorRkArg
namespace Go.Proofs.YthidipigpfcbbaaGreatDoor
open Go.RowKit Go.Extern.Stop Go.Stop Go.Extern

/-- Statements as they lie in memory, and what they are. -/
structure StsAt (w : World) (ps : List StV) (l : List (St7 × Fo × Fo)) : Prop where
  len : ps.length = l.length
  each : ∀ (i : Nat) (x : StV) (y : St7 × Fo × Fo), ps[i]? = some x → l[i]? = some y → x.1 = y.1 ∧ SlOf w (slv x.2.1) y.2.1 ∧ SlOf w (slv x.2.2) y.2.2 ∧ (Lit.int .i64 y.1.c).wf = true
theorem StsAt.app {w : World} {ps qs : List StV} {l m : List (St7 × Fo × Fo)} (h : StsAt w ps l) (h' : StsAt w qs m) : StsAt w (ps ++ qs) (l ++ m) := by
  refine ⟨by simp [h.len, h'.len], fun i x y hx hy => ?_⟩
  rcases Nat.lt_or_ge i ps.length with hi | hi
  · rw [List.getElem?_append_left hi] at hx
    rw [List.getElem?_append_left (by rw [← h.len]; exact hi)] at hy
    exact h.each i x y hx hy
  · rw [List.getElem?_append_right hi] at hx
    rw [List.getElem?_append_right (by rw [← h.len]; exact hi), ← h.len] at hy
    exact h'.each _ x y hx hy
theorem StsAt.same {w w' : World} {ps : List StV} {l : List (St7 × Fo × Fo)} (h : StsAt w ps l) (k : Keeps (fun _ => False) w w') : StsAt w' ps l :=
  ⟨h.len, fun i x y hx hy => by
    obtain ⟨h1, h2, h3, h4⟩ := h.each i x y hx hy
    exact ⟨h1, h2.same k, h3.same k, h4⟩⟩

theorem flat_split {α : Type} (f : α → List Value) (n : Nat) (hn : 0 < n) (hf : ∀ x, (f x).length = n) {l : List α} {j : Nat} {u : Value} (h : (l.flatMap f)[j]? = some u) : ∃ i k x, j = i * n + k ∧ k < n ∧ l[i]? = some x ∧ (f x)[k]? = some u := by
  have hj : j < l.length * n := by
    have := (List.getElem?_eq_some_iff.1 h).1
    rwa [flat_len f n hf] at this
  have hi : j / n < l.length := Nat.div_lt_of_lt_mul (by rw [Nat.mul_comm]; exact hj)
  obtain ⟨x, hx⟩ : ∃ x, l[j / n]? = some x := ⟨_, List.getElem?_eq_getElem hi⟩
  have e : j = j / n * n + j % n := by rw [Nat.mul_comm]; exact (Nat.div_add_mod j n).symm
  have := flat_get f n hf l (j / n) (j % n) x hx (Nat.mod_lt _ hn)
  rw [← e, h] at this
  exact ⟨j / n, j % n, x, e, Nat.mod_lt _ hn, hx, this.symm⟩

/-- A slice that came in, as a list. -/
theorem SlOf.sts {w : World} {a : Option Addr} {n c : Nat} {F : Fo} (h : SlOf w (.slice a n c) F) :
    ∃ ps, StsAt w ps F.items ∧ ps.length = n ∧ n = F.len ∧ (a = none → n = 0) ∧ ∀ ad, a = some ad → ∀ j u, (stK.cs ps)[j]? = some u → w.cell? (ad.add j) = some u := by
  have hn : n = F.len := by obtain ⟨a', c', e, _⟩ := h; injection e
  have h0 : a = none → n = 0 := by obtain ⟨a', c', e, _, h3, _⟩ := h; injection e with e1 e2; subst e1; rw [hn]; exact h3
  have item : ∀ i, i < n → ∃ x : StV, ∀ b o, a = some ⟨b, o, none⟩ → ∀ y, F.items[i]? = some y → x.1 = y.1 ∧ SlOf w (slv x.2.1) y.2.1 ∧ SlOf w (slv x.2.2) y.2.2 ∧ (Lit.int .i64 y.1.c).wf = true ∧ ∀ k u, k < 9 → (stCells x)[k]? = some u → w.cell? ⟨b, o + i * 9 + k, none⟩ = some u := fun i hi => by
    obtain ⟨b, o, c', s, B, E, hv, hx, h7, ⟨vB, cB, oB⟩, ⟨vE, cE, oE⟩⟩ := h.item (i := i) (by rw [← hn]; exact hi)
    obtain ⟨xB, rfl, _⟩ := oB.plain
    obtain ⟨xE, rfl, _⟩ := oE.plain
    refine ⟨(s, xB, xE), fun b' o' ha y hy => ?_⟩
    injection hv with hv
    rw [hv] at ha
    injection ha with ha
    injection ha with hb ho
    subst hb
    subst ho
    rw [hx] at hy
    injection hy with hy
    subst hy
    refine ⟨rfl, oB, oE, h7.wf, fun k u hk hu => ?_⟩
    match k, hk, hu with
    | 0, _, hu => simp [stCells] at hu; rw [← hu]; exact h7.k
    | 1, _, hu => simp [stCells] at hu; rw [← hu]; exact h7.c
    | 2, _, hu => simp [stCells] at hu; rw [← hu]; exact h7.r
    | 3, _, hu => simp [stCells] at hu; rw [← hu]; exact h7.ar
    | 4, _, hu => simp [stCells] at hu; rw [← hu]; exact h7.an
    | 5, _, hu => simp [stCells] at hu; rw [← hu]; exact h7.br
    | 6, _, hu => simp [stCells] at hu; rw [← hu]; exact h7.bn
    | 7, _, hu => simp [stCells] at hu; rw [← hu]; exact cB
    | 8, _, hu => simp [stCells] at hu; rw [← hu]; exact cE
    | k + 9, hk, _ => omega
  obtain ⟨f, hf⟩ : ∃ f : Nat → StV, ∀ i, i < n → ∀ b o, a = some ⟨b, o, none⟩ → ∀ y, F.items[i]? = some y → (f i).1 = y.1 ∧ SlOf w (slv (f i).2.1) y.2.1 ∧ SlOf w (slv (f i).2.2) y.2.2 ∧ (Lit.int .i64 y.1.c).wf = true ∧ ∀ k u, k < 9 → (stCells (f i))[k]? = some u → w.cell? ⟨b, o + i * 9 + k, none⟩ = some u := by
    classical
    refine ⟨fun i => if hi : i < n then Classical.choose (item i hi) else (⟨0, 0, 0, 0, 0, 0, 0⟩, (none, 0, 0), (none, 0, 0)), fun i hi => ?_⟩
    simp only [dif_pos hi]
    exact Classical.choose_spec (item i hi)
  have spot : 0 < n → ∃ b o, a = some ⟨b, o, none⟩ := fun h0 => by
    obtain ⟨a', c', e, _, _, h4⟩ := h
    injection e with e1 e2
    subst e1
    obtain ⟨b, o, e, _⟩ := h4 (by rw [← hn]; exact h0)
    exact ⟨b, o, e⟩
  have get : ∀ {i : Nat} {x : StV}, ((List.range n).map f)[i]? = some x → i < n ∧ x = f i := fun {i x} hx => by
    rw [List.getElem?_map] at hx
    obtain ⟨j, hj, rfl⟩ := Option.map_eq_some_iff.1 hx
    obtain ⟨h5, rfl⟩ := List.getElem?_eq_some_iff.1 hj
    rw [List.getElem_range]
    exact ⟨by simpa using h5, rfl⟩
  refine ⟨(List.range n).map f, ⟨by simp; exact hn, fun i x y hx hy => ?_⟩, by simp, hn, h0, fun ad ha j u hu => ?_⟩
  · obtain ⟨hi, rfl⟩ := get hx
    obtain ⟨b, o, e⟩ := spot (by omega)
    obtain ⟨h1, h2, h3, h4, _⟩ := hf i hi b o e y hy
    exact ⟨h1, h2, h3, h4⟩
  · obtain ⟨i, k, x, rfl, hk, hx, hux⟩ := flat_split stCells 9 (by omega) (fun _ => rfl) hu
    obtain ⟨hi, rfl⟩ := get hx
    obtain ⟨b, o, e⟩ := spot (by omega)
    rw [ha] at e
    injection e with e
    subst e
    obtain ⟨y, hy⟩ : ∃ y, F.items[i]? = some y := ⟨_, List.getElem?_eq_getElem (show i < F.items.length by rw [hn] at hi; exact hi)⟩
    obtain ⟨_, _, _, _, h5⟩ := hf i hi b o ha y hy
    rw [add_plain _ rfl, ← Nat.add_assoc]
    exact h5 k u hk hux

/-- A row of statements reads as a forest. -/
theorem sl_row {w0 w : World} {ao : Option Addr} {n c : Nat} {ps : List StV} {l : List (St7 × Fo × Fo)} (hM : Mine stK w0 w (.slice ao n c) ps) (hS : StsAt w ps l) (hn : ps.length = n) (few : n ≤ 1000000) : SlOf w (.slice ao n c) (Fo.ofItems l) := by
  subst hn
  have hl : (Fo.ofItems l).len = ps.length := by unfold Fo.len; rw [Fo.items_of, ← hS.len]
  have hc : ps.length ≤ c ∧ c ≤ maxLen := by
    rcases hM.1.2 with ⟨e, h0⟩ | ⟨g, cap, cur, e, _, _, hnc, hcm, _⟩
    · injection e with _ _ e
      subst e
      exact ⟨by omega, Nat.zero_le _⟩
    · injection e with _ _ e
      subst e
      exact ⟨hnc, hcm⟩
  refine ⟨ao, c, by rw [hl], by rw [hl]; exact hc, fun e => ?_, fun h0 => ?_⟩
  · rw [hl]
    rcases Nat.eq_zero_or_pos ps.length with h | h
    · exact h
    · obtain ⟨g, hg, _⟩ := mine_some hM rfl h
      rw [hg] at e
      cases e
  · obtain ⟨g, rfl, _⟩ := mine_some hM rfl (by rw [hl] at h0; exact h0)
    refine ⟨g, 0, rfl, at_of fun i x hx => ?_⟩
    have hi : i < ps.length := by rw [hS.len]; exact (List.getElem?_eq_some_iff.1 hx).1
    obtain ⟨y, hy⟩ : ∃ y, ps[i]? = some y := ⟨_, List.getElem?_eq_getElem hi⟩
    obtain ⟨h1, h2, h3, h4⟩ := hS.each i y x hy hx
    have cell : ∀ k u, k < 9 → (stCells y)[k]? = some u → w.cell? ⟨g, 0 + i * 9 + k, none⟩ = some u := fun k u hk hu => by
      rw [Nat.zero_add]
      exact (World.ownsRow.cellAt hM.1 (i * 9 + k) (by show i * 9 + k < ps.length * 9; omega)).trans ((flat_get stCells 9 (fun _ => rfl) ps i k _ hy hk).trans hu)
    obtain ⟨s, B, E⟩ := x
    simp only at h1 h2 h3 h4
    subst h1
    exact ⟨⟨cell 0 _ (by omega) rfl, cell 1 _ (by omega) rfl, cell 2 _ (by omega) rfl, cell 3 _ (by omega) rfl, cell 4 _ (by omega) rfl, cell 5 _ (by omega) rfl, cell 6 _ (by omega) rfl, h4⟩, ⟨_, cell 7 _ (by omega) rfl, h2⟩, ⟨_, cell 8 _ (by omega) rfl, h3⟩⟩
theorem right_place (F : Fo) (K : List Int) : (right F K).2 ≤ F.size := by
  have key : ∀ (L : List Ln) (i : Nat), (rightL K L i).2 ≤ i + L.length := fun L => by
    induction L with
    | nil => intro i; exact Nat.zero_le _
    | cons l t ih =>
      intro i
      have := ih (i + 1)
      simp only [rightL, List.length_cons]
      split
      · simp
      · split
        · simp
        · split
          · simp
          · omega
  have := key (lin F 1) 0
  rw [lin_len] at this
  unfold right
  omega
theorem app_items (F G : Fo) : Fo.ofItems (F.items ++ G.items) = F.app G := by rw [← Fo.items_app, Fo.of_items]
end Go.Proofs.YthidipigpfcbbaaGreatDoor
