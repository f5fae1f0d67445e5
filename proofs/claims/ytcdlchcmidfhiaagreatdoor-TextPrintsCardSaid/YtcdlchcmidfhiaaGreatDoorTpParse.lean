/-
  Statements that came in, as a list; what was put behind one another.
  Forests in memory with their blocks ('SlB'): they stay when other blocks change.
  within: what lies in a statement, by contract, if shorter blocks are.
  block: a block of lines, by contract.
  bounded, Parse, by contract.
-/
import Derived.Test.YtcdlchcmidfhiaaGreatDoorPgFace
import Derived.Test.YtcdlchcmidfhiaaGreatDoorRkArg
import Derived.Test.YtcdlchcmidfhiaaGreatDoorTpEnd
import Derived.Test.YtcdlchcmidfhiaaGreatDoorTpStat
import Derived.Test.YtcdlchcmidfhiaaGreatDoorPgOneAll
import Derived.Test.YtcdlchcmidfhiaaGreatDoorTxFace

namespace Go.Proofs.YtcdlchcmidfhiaaGreatDoor
open Go.RowKit Go.Extern.Stop Go.Stop Go.Extern

/-- Statements as they lie in memory, and what they are. -/
structure StsAt (w : World) (ps : List StV) (l : List (St7 × Fo × Fo)) : Prop where
  len : ps.length = l.length
  each : ∀ (i : Nat) (x : StV) (y : St7 × Fo × Fo), ps[i]? = some x → l[i]? = some y → x.1 = y.1 ∧ SlOf w (slv x.2.1) y.2.1 ∧ SlOf w (slv x.2.2) y.2.2 ∧ (Lit.int .i64 y.1.c).wf = true
theorem StsAt.app {w : World} {ps qs : List StV} {l m : List (St7 × Fo × Fo)} (h : StsAt w ps l) (h' : StsAt w qs m) : StsAt w (ps ++ qs) (l ++ m) := by
  refine ⟨by simp [h.len, h'.len], fun i x y hx hy => ?_⟩
  rcases Nat.lt_or_ge i ps.length with hi | hi
  · rw [List.getElem?_append_left hi] at hx
    rw [List.getElem?_append_left (by rw [← h.len]; exact hi)] at hy
    exact h.each i x y hx hy
  · rw [List.getElem?_append_right hi] at hx
    rw [List.getElem?_append_right (by rw [← h.len]; exact hi), ← h.len] at hy
    exact h'.each _ x y hx hy
theorem StsAt.same {w w' : World} {ps : List StV} {l : List (St7 × Fo × Fo)} (h : StsAt w ps l) (k : Keeps (fun _ => False) w w') : StsAt w' ps l :=
  ⟨h.len, fun i x y hx hy => by
    obtain ⟨h1, h2, h3, h4⟩ := h.each i x y hx hy
    exact ⟨h1, h2.same k, h3.same k, h4⟩⟩

theorem flat_split {α : Type} (f : α → List Value) (n : Nat) (hn : 0 < n) (hf : ∀ x, (f x).length = n) {l : List α} {j : Nat} {u : Value} (h : (l.flatMap f)[j]? = some u) : ∃ i k x, j = i * n + k ∧ k < n ∧ l[i]? = some x ∧ (f x)[k]? = some u := by
  have hj : j < l.length * n := by
    have := (List.getElem?_eq_some_iff.1 h).1
    rwa [flat_len f n hf] at this
  have hi : j / n < l.length := Nat.div_lt_of_lt_mul (by rw [Nat.mul_comm]; exact hj)
  obtain ⟨x, hx⟩ : ∃ x, l[j / n]? = some x := ⟨_, List.getElem?_eq_getElem hi⟩
  have e : j = j / n * n + j % n := by rw [Nat.mul_comm]; exact (Nat.div_add_mod j n).symm
  have := flat_get f n hf l (j / n) (j % n) x hx (Nat.mod_lt _ hn)
  rw [← e, h] at this
  exact ⟨j / n, j % n, x, e, Nat.mod_lt _ hn, hx, this.symm⟩

/-- A slice that came in, as a list. -/
theorem SlOf.sts {w : World} {a : Option Addr} {n c : Nat} {F : Fo} (h : SlOf w (.slice a n c) F) :
    ∃ ps, StsAt w ps F.items ∧ ps.length = n ∧ n = F.len ∧ (a = none → n = 0) ∧ ∀ ad, a = some ad → ∀ j u, (stK.cs ps)[j]? = some u → w.cell? (ad.add j) = some u := by
  have hn : n = F.len := by obtain ⟨a', c', e, _⟩ := h; injection e
  have h0 : a = none → n = 0 := by obtain ⟨a', c', e, _, h3, _⟩ := h; injection e with e1 e2; subst e1; rw [hn]; exact h3
  have item : ∀ i, i < n → ∃ x : StV, ∀ b o, a = some ⟨b, o, none⟩ → ∀ y, F.items[i]? = some y → x.1 = y.1 ∧ SlOf w (slv x.2.1) y.2.1 ∧ SlOf w (slv x.2.2) y.2.2 ∧ (Lit.int .i64 y.1.c).wf = true ∧ ∀ k u, k < 9 → (stCells x)[k]? = some u → w.cell? ⟨b, o + i * 9 + k, none⟩ = some u := fun i hi => by
    obtain ⟨b, o, c', s, B, E, hv, hx, h7, ⟨vB, cB, oB⟩, ⟨vE, cE, oE⟩⟩ := h.item (i := i) (by rw [← hn]; exact hi)
    obtain ⟨xB, rfl, _⟩ := oB.plain
    obtain ⟨xE, rfl, _⟩ := oE.plain
    refine ⟨(s, xB, xE), fun b' o' ha y hy => ?_⟩
    injection hv with hv
    rw [hv] at ha
    injection ha with ha
    injection ha with hb ho
    subst hb
    subst ho
    rw [hx] at hy
    injection hy with hy
    subst hy
    refine ⟨rfl, oB, oE, h7.wf, fun k u hk hu => ?_⟩
    match k, hk, hu with
    | 0, _, hu => simp [stCells] at hu; rw [← hu]; exact h7.k
    | 1, _, hu => simp [stCells] at hu; rw [← hu]; exact h7.c
    | 2, _, hu => simp [stCells] at hu; rw [← hu]; exact h7.r
    | 3, _, hu => simp [stCells] at hu; rw [← hu]; exact h7.ar
    | 4, _, hu => simp [stCells] at hu; rw [← hu]; exact h7.an
    | 5, _, hu => simp [stCells] at hu; rw [← hu]; exact h7.br
    | 6, _, hu => simp [stCells] at hu; rw [← hu]; exact h7.bn
    | 7, _, hu => simp [stCells] at hu; rw [← hu]; exact cB
    | 8, _, hu => simp [stCells] at hu; rw [← hu]; exact cE
    | k + 9, hk, _ => omega
  obtain ⟨f, hf⟩ : ∃ f : Nat → StV, ∀ i, i < n → ∀ b o, a = some ⟨b, o, none⟩ → ∀ y, F.items[i]? = some y → (f i).1 = y.1 ∧ SlOf w (slv (f i).2.1) y.2.1 ∧ SlOf w (slv (f i).2.2) y.2.2 ∧ (Lit.int .i64 y.1.c).wf = true ∧ ∀ k u, k < 9 → (stCells (f i))[k]? = some u → w.cell? ⟨b, o + i * 9 + k, none⟩ = some u := by
    classical
    refine ⟨fun i => if hi : i < n then Classical.choose (item i hi) else (⟨0, 0, 0, 0, 0, 0, 0⟩, (none, 0, 0), (none, 0, 0)), fun i hi => ?_⟩
    simp only [dif_pos hi]
    exact Classical.choose_spec (item i hi)
  have spot : 0 < n → ∃ b o, a = some ⟨b, o, none⟩ := fun h0 => by
    obtain ⟨a', c', e, _, _, h4⟩ := h
    injection e with e1 e2
    subst e1
    obtain ⟨b, o, e, _⟩ := h4 (by rw [← hn]; exact h0)
    exact ⟨b, o, e⟩
  have get : ∀ {i : Nat} {x : StV}, ((List.range n).map f)[i]? = some x → i < n ∧ x = f i := fun {i x} hx => by
    rw [List.getElem?_map] at hx
    obtain ⟨j, hj, rfl⟩ := Option.map_eq_some_iff.1 hx
    obtain ⟨h5, rfl⟩ := List.getElem?_eq_some_iff.1 hj
    rw [List.getElem_range]
    exact ⟨by simpa using h5, rfl⟩
  refine ⟨(List.range n).map f, ⟨by simp; exact hn, fun i x y hx hy => ?_⟩, by simp, hn, h0, fun ad ha j u hu => ?_⟩
  · obtain ⟨hi, rfl⟩ := get hx
    obtain ⟨b, o, e⟩ := spot (by omega)
    obtain ⟨h1, h2, h3, h4, _⟩ := hf i hi b o e y hy
    exact ⟨h1, h2, h3, h4⟩
  · obtain ⟨i, k, x, rfl, hk, hx, hux⟩ := flat_split stCells 9 (by omega) (fun _ => rfl) hu
    obtain ⟨hi, rfl⟩ := get hx
    obtain ⟨b, o, e⟩ := spot (by omega)
    rw [ha] at e
    injection e with e
    subst e
    obtain ⟨y, hy⟩ : ∃ y, F.items[i]? = some y := ⟨_, List.getElem?_eq_getElem (show i < F.items.length by rw [hn] at hi; exact hi)⟩
    obtain ⟨_, _, _, _, h5⟩ := hf i hi b o ha y hy
    rw [add_plain _ rfl, ← Nat.add_assoc]
    exact h5 k u hk hux

/-- A row of statements reads as a forest. -/
theorem sl_row {w0 w : World} {ao : Option Addr} {n c : Nat} {ps : List StV} {l : List (St7 × Fo × Fo)} (hM : Mine stK w0 w (.slice ao n c) ps) (hS : StsAt w ps l) (hn : ps.length = n) (few : n ≤ 100000) : SlOf w (.slice ao n c) (Fo.ofItems l) := by
  subst hn
  have hl : (Fo.ofItems l).len = ps.length := by unfold Fo.len; rw [Fo.items_of, ← hS.len]
  have hc : ps.length ≤ c ∧ c ≤ maxLen := by
    rcases hM.1.2 with ⟨e, h0⟩ | ⟨g, cap, cur, e, _, _, hnc, hcm, _⟩
    · injection e with _ _ e
      subst e
      exact ⟨by omega, Nat.zero_le _⟩
    · injection e with _ _ e
      subst e
      exact ⟨hnc, hcm⟩
  refine ⟨ao, c, by rw [hl], by rw [hl]; exact hc, fun e => ?_, fun h0 => ?_⟩
  · rw [hl]
    rcases Nat.eq_zero_or_pos ps.length with h | h
    · exact h
    · obtain ⟨g, hg, _⟩ := mine_some hM rfl h
      rw [hg] at e
      cases e
  · obtain ⟨g, rfl, _⟩ := mine_some hM rfl (by rw [hl] at h0; exact h0)
    refine ⟨g, 0, rfl, at_of fun i x hx => ?_⟩
    have hi : i < ps.length := by rw [hS.len]; exact (List.getElem?_eq_some_iff.1 hx).1
    obtain ⟨y, hy⟩ : ∃ y, ps[i]? = some y := ⟨_, List.getElem?_eq_getElem hi⟩
    obtain ⟨h1, h2, h3, h4⟩ := hS.each i y x hy hx
    have cell : ∀ k u, k < 9 → (stCells y)[k]? = some u → w.cell? ⟨g, 0 + i * 9 + k, none⟩ = some u := fun k u hk hu => by
      rw [Nat.zero_add]
      exact (World.ownsRow.cellAt hM.1 (i * 9 + k) (by show i * 9 + k < ps.length * 9; omega)).trans ((flat_get stCells 9 (fun _ => rfl) ps i k _ hy hk).trans hu)
    obtain ⟨s, B, E⟩ := x
    simp only at h1 h2 h3 h4
    subst h1
    exact ⟨⟨cell 0 _ (by omega) rfl, cell 1 _ (by omega) rfl, cell 2 _ (by omega) rfl, cell 3 _ (by omega) rfl, cell 4 _ (by omega) rfl, cell 5 _ (by omega) rfl, cell 6 _ (by omega) rfl, h4⟩, ⟨_, cell 7 _ (by omega) rfl, h2⟩, ⟨_, cell 8 _ (by omega) rfl, h3⟩⟩
theorem right_place (F : Fo) (K : List Int) : (right F K).2 ≤ F.size := by
  have key : ∀ (L : List Ln) (i : Nat), (rightL K L i).2 ≤ i + L.length := fun L => by
    induction L with
    | nil => intro i; exact Nat.zero_le _
    | cons l t ih =>
      intro i
      have := ih (i + 1)
      simp only [rightL, List.length_cons]
      split
      · simp
      · split
        · simp
        · split
          · simp
          · omega
  have := key (lin F 1) 0
  rw [lin_len] at this
  unfold right
  omega
theorem app_items (F G : Fo) : Fo.ofItems (F.items ++ G.items) = F.app G := by rw [← Fo.items_app, Fo.of_items]
end Go.Proofs.YtcdlchcmidfhiaaGreatDoor

namespace Go.Proofs.YtcdlchcmidfhiaaGreatDoor
open Go.RowKit Go.Extern.Stop Go.Stop Go.Extern

def AtB (P : Nat → Prop) (w : World) : Fo → Nat → Nat → Prop
  | .nil, _, _ => True
  | .cons s F E R, b, o => Cells7 w s b o ∧ (∃ v, w.cell? ⟨b, o + 7, none⟩ = some v ∧ SliceIs v F.len (fun b' o' => P b' ∧ AtB P w F b' o')) ∧ (∃ v, w.cell? ⟨b, o + 8, none⟩ = some v ∧ SliceIs v E.len (fun b' o' => P b' ∧ AtB P w E b' o')) ∧ AtB P w R b (o + 9)
/-- A slice that reads as a forest, in blocks of P. -/
def SlB (P : Nat → Prop) (w : World) (v : Value) (F : Fo) : Prop := SliceIs v F.len (fun b o => P b ∧ AtB P w F b o)
theorem SliceIs.imp0 {v : Value} {n : Nat} {R S : Nat → Nat → Prop} (h : SliceIs v n R) (hRS : 0 < n → ∀ b o, R b o → S b o) : SliceIs v n S := by
  obtain ⟨a, c, h1, h2, h3, h4⟩ := h
  refine ⟨a, c, h1, h2, h3, fun h0 => ?_⟩
  obtain ⟨b, o, e, hr⟩ := h4 h0
  exact ⟨b, o, e, hRS h0 b o hr⟩
theorem AtB.at_ {P : Nat → Prop} {w : World} : ∀ {F : Fo} {b o : Nat}, AtB P w F b o → At w F b o
  | .nil, _, _, _ => trivial
  | .cons s F E R, b, o, h => by
    obtain ⟨h1, ⟨v, h2, h3⟩, ⟨u, h4, h5⟩, h6⟩ := h
    exact ⟨h1, ⟨v, h2, h3.imp fun b o h => AtB.at_ (F := F) h.2⟩, ⟨u, h4, h5.imp fun b o h => AtB.at_ (F := E) h.2⟩, AtB.at_ h6⟩
theorem SlB.of {P : Nat → Prop} {w : World} {v : Value} {F : Fo} (h : SlB P w v F) : SlOf w v F := h.imp fun _ _ q => q.2.at_
theorem Cells7.stay {w w' : World} {s : St7} {b o : Nat} {S : Nat → Prop} (h : Cells7 w s b o) (k : Keeps S w w') (hS : b < w.heap.size → ¬ S b) : Cells7 w' s b o :=
  have go : ∀ {j : Nat} {v : Value}, w.cell? ⟨b, j, none⟩ = some v → w'.cell? ⟨b, j, none⟩ = some v := fun e => (k.cell (cell_lt e) (hS (cell_lt e))).trans e
  ⟨go h.k, go h.c, go h.r, go h.ar, go h.an, go h.br, go h.bn, h.wf⟩
theorem AtB.keeps {P : Nat → Prop} {w w' : World} {S : Nat → Prop} (k : Keeps S w w') (hS : ∀ x, P x → x < w.heap.size → ¬ S x) : ∀ {F : Fo} {b o : Nat}, P b → AtB P w F b o → AtB P w' F b o
  | .nil, _, _, _, _ => trivial
  | .cons s F E R, b, o, hb, h => by
    obtain ⟨h1, ⟨v, h2, h3⟩, ⟨u, h4, h5⟩, h6⟩ := h
    exact ⟨h1.stay k (hS b hb), ⟨v, (k.cell (cell_lt h2) (hS _ hb (cell_lt h2))).trans h2, h3.imp fun b o h => ⟨h.1, AtB.keeps k hS (F := F) h.1 h.2⟩⟩, ⟨u, (k.cell (cell_lt h4) (hS _ hb (cell_lt h4))).trans h4, h5.imp fun b o h => ⟨h.1, AtB.keeps k hS (F := E) h.1 h.2⟩⟩, AtB.keeps k hS hb h6⟩
theorem SlB.keeps {P : Nat → Prop} {w w' : World} {S : Nat → Prop} {v : Value} {F : Fo} (h : SlB P w v F) (k : Keeps S w w') (hS : ∀ x, P x → x < w.heap.size → ¬ S x) : SlB P w' v F := h.imp fun _ _ q => ⟨q.1, q.2.keeps k hS q.1⟩
theorem AtB.lt {P : Nat → Prop} {w : World} {F : Fo} {b o : Nat} (h0 : 0 < F.len) (h : AtB P w F b o) : b < w.heap.size := by
  cases F with
  | nil => exact absurd h0 (Nat.lt_irrefl _)
  | cons s F E R => exact cell_lt h.1.k
theorem AtB.mono {P Q : Nat → Prop} {w : World} (hP : ∀ x, x < w.heap.size → P x → Q x) : ∀ {F : Fo} {b o : Nat}, AtB P w F b o → AtB Q w F b o
  | .nil, _, _, _ => trivial
  | .cons s F E R, b, o, h => by
    obtain ⟨h1, ⟨v, h2, h3⟩, ⟨u, h4, h5⟩, h6⟩ := h
    exact ⟨h1, ⟨v, h2, h3.imp0 fun h0 b o h => ⟨hP _ (h.2.lt h0) h.1, AtB.mono hP (F := F) h.2⟩⟩, ⟨u, h4, h5.imp0 fun h0 b o h => ⟨hP _ (h.2.lt h0) h.1, AtB.mono hP (F := E) h.2⟩⟩, AtB.mono hP h6⟩
theorem SlB.mono {P Q : Nat → Prop} {w : World} {v : Value} {F : Fo} (h : SlB P w v F) (hP : ∀ x, x < w.heap.size → P x → Q x) : SlB Q w v F := h.imp0 fun h0 _ _ q => ⟨hP _ (q.2.lt h0) q.1, q.2.mono hP⟩
theorem SlB.nil_ (P : Nat → Prop) (w : World) : SlB P w (.slice none 0 0) .nil := ⟨none, 0, rfl, ⟨Nat.zero_le _, Nat.zero_le _⟩, fun _ => rfl, fun h => absurd h (Nat.lt_irrefl _)⟩
theorem atB_of {P : Nat → Prop} {w : World} {b : Nat} : ∀ {l : List (St7 × Fo × Fo)} {o : Nat}, (∀ (i : Nat) (x : St7 × Fo × Fo), l[i]? = some x → Cells7 w x.1 b (o + i * 9) ∧ (∃ v, w.cell? ⟨b, o + i * 9 + 7, none⟩ = some v ∧ SlB P w v x.2.1) ∧ (∃ v, w.cell? ⟨b, o + i * 9 + 8, none⟩ = some v ∧ SlB P w v x.2.2)) → AtB P w (Fo.ofItems l) b o
  | [], o, _ => trivial
  | (s, F, E) :: t, o, h => by
    obtain ⟨h1, h2, h3⟩ := h 0 (s, F, E) rfl
    simp only [Nat.zero_mul, Nat.add_zero] at h1 h2 h3
    refine ⟨h1, h2, h3, atB_of (l := t) fun i x hx => ?_⟩
    have := h (i + 1) x (by simpa using hx)
    rwa [show o + (i + 1) * 9 = o + 9 + i * 9 by omega] at this

/-- Statements as they lie in memory, and what they are: in blocks of P. -/
structure StsB (P : Nat → Prop) (w : World) (ps : List StV) (l : List (St7 × Fo × Fo)) : Prop where
  len : ps.length = l.length
  each : ∀ (i : Nat) (x : StV) (y : St7 × Fo × Fo), ps[i]? = some x → l[i]? = some y → x.1 = y.1 ∧ SlB P w (slv x.2.1) y.2.1 ∧ SlB P w (slv x.2.2) y.2.2 ∧ (Lit.int .i64 y.1.c).wf = true
theorem StsB.none_ (P : Nat → Prop) (w : World) : StsB P w [] [] := ⟨rfl, fun i x y h => by simp at h⟩
theorem StsB.snoc {P : Nat → Prop} {w : World} {ps : List StV} {l : List (St7 × Fo × Fo)} (h : StsB P w ps l) {s : St7} {b e : Sl} {F E : Fo} (hF : SlB P w (slv b) F) (hE : SlB P w (slv e) E) (hc : (Lit.int .i64 s.c).wf = true) : StsB P w (ps ++ [(s, b, e)]) (l ++ [(s, F, E)]) := by
  refine ⟨by simp [h.len], fun i x y hx hy => ?_⟩
  rcases Nat.lt_or_ge i ps.length with hi | hi
  · rw [List.getElem?_append_left hi] at hx
    rw [List.getElem?_append_left (by rw [← h.len]; exact hi)] at hy
    exact h.each i x y hx hy
  · rw [List.getElem?_append_right hi] at hx
    rw [List.getElem?_append_right (by rw [← h.len]; exact hi), ← h.len] at hy
    cases hj : i - ps.length with
    | zero =>
      rw [hj] at hx hy
      simp only [List.getElem?_cons_zero, Option.some.injEq] at hx hy
      subst hx
      subst hy
      exact ⟨rfl, hF, hE, hc⟩
    | succ j => rw [hj] at hx; simp at hx
theorem StsB.keeps {P : Nat → Prop} {w w' : World} {S : Nat → Prop} {ps : List StV} {l : List (St7 × Fo × Fo)} (h : StsB P w ps l) (k : Keeps S w w') (hS : ∀ x, P x → x < w.heap.size → ¬ S x) : StsB P w' ps l :=
  ⟨h.len, fun i x y hx hy => by
    obtain ⟨h1, h2, h3, h4⟩ := h.each i x y hx hy
    exact ⟨h1, h2.keeps k hS, h3.keeps k hS, h4⟩⟩

/-- A row of statements reads as a forest. -/
theorem slB_row {w0 w : World} {P : Nat → Prop} {ao : Option Addr} {n c : Nat} {ps : List StV} {l : List (St7 × Fo × Fo)} (hM : Mine stK w0 w (.slice ao n c) ps) (hS : StsB P w ps l) (hP : ∀ x, w0.heap.size ≤ x → (Value.slice ao n c).ownBlock = some x → P x) (hn : ps.length = n) : SlB P w (.slice ao n c) (Fo.ofItems l) := by
  subst hn
  have hl : (Fo.ofItems l).len = ps.length := by unfold Fo.len; rw [Fo.items_of, ← hS.len]
  have hc : ps.length ≤ c ∧ c ≤ maxLen := by
    rcases hM.1.2 with ⟨e, h0⟩ | ⟨g, cap, cur, e, _, _, hnc, hcm, _⟩
    · injection e with _ _ e
      subst e
      exact ⟨by omega, Nat.zero_le _⟩
    · injection e with _ _ e
      subst e
      exact ⟨hnc, hcm⟩
  refine ⟨ao, c, by rw [hl], by rw [hl]; exact hc, fun e => ?_, fun h0 => ?_⟩
  · rw [hl]
    rcases Nat.eq_zero_or_pos ps.length with h | h
    · exact h
    · obtain ⟨g, hg, _⟩ := mine_some hM rfl h
      rw [hg] at e
      cases e
  · obtain ⟨g, rfl, hg⟩ := mine_some hM rfl (by rw [hl] at h0; exact h0)
    refine ⟨g, 0, rfl, hP g hg rfl, atB_of fun i x hx => ?_⟩
    have hi : i < ps.length := by rw [hS.len]; exact (List.getElem?_eq_some_iff.1 hx).1
    obtain ⟨y, hy⟩ : ∃ y, ps[i]? = some y := ⟨_, List.getElem?_eq_getElem hi⟩
    obtain ⟨h1, h2, h3, h4⟩ := hS.each i y x hy hx
    have cell : ∀ k u, k < 9 → (stCells y)[k]? = some u → w.cell? ⟨g, 0 + i * 9 + k, none⟩ = some u := fun k u hk hu => by
      rw [Nat.zero_add]
      exact (World.ownsRow.cellAt hM.1 (i * 9 + k) (by show i * 9 + k < ps.length * 9; omega)).trans ((flat_get stCells 9 (fun _ => rfl) ps i k _ hy hk).trans hu)
    obtain ⟨s, F, E⟩ := x
    simp only at h1 h2 h3 h4
    subst h1
    exact ⟨⟨cell 0 _ (by omega) rfl, cell 1 _ (by omega) rfl, cell 2 _ (by omega) rfl, cell 3 _ (by omega) rfl, cell 4 _ (by omega) rfl, cell 5 _ (by omega) rfl, cell 6 _ (by omega) rfl, h4⟩, ⟨_, cell 7 _ (by omega) rfl, h2⟩, ⟨_, cell 8 _ (by omega) rfl, h3⟩⟩
theorem StsB.mono {P Q : Nat → Prop} {w : World} {ps : List StV} {l : List (St7 × Fo × Fo)} (h : StsB P w ps l) (hP : ∀ x, x < w.heap.size → P x → Q x) : StsB Q w ps l :=
  ⟨h.len, fun i x y hx hy => by
    obtain ⟨h1, h2, h3, h4⟩ := h.each i x y hx hy
    exact ⟨h1, h2.mono hP, h3.mono hP, h4⟩⟩
theorem SlB.len_ {P : Nat → Prop} {w : World} {x : Sl} {F : Fo} (h : SlB P w (slv x) F) : x.2.1 = F.len := by
  obtain ⟨a, c, e, _⟩ := h
  injection e

/-- append of one statement. -/
theorem wp_append_st {ops : Array Oper} {rest : List Oper} {o : Oper} {a : Act} {w : World} {Q : Exit → Act → World → Prop}
    (hg : o.guard = none) (s x : Operand) (hop : o.op = Op.call { callee := Callee.builtin Builtin.append, args := #[s, x], argTypes := #[stK.T, stK.T] })
    (wS : World) (v : Value) (l : List StV) (y : StV) (hs : a.eval s = v) (hown : Mine stK wS w v l) (hz : wS.heap.size ≤ w.heap.size) (g c : Nat) (hx : a.eval x = .slice (some ⟨g, 0, none⟩) 1 c) (hW : Whole w g 45 (stCells y).toArray) (n : Nat) (hn : l.length + 1 = n) (hbig : n ≤ 100000)
    (hK : ∀ ao cap w', Mine stK wS w' (.slice ao n cap) (l ++ [y]) → Keeps (fun x => v.ownBlock = some x) w w' → ((Value.slice ao n cap).ownBlock = v.ownBlock ∨ (Value.slice ao n cap).ownBlock = some w.heap.size) → wpList Tryz.prog ops Q rest (a.put o.dst (.slice ao n cap)) w') :
    wpList Tryz.prog ops Q (o :: rest) a w := by
  refine wpList_append_k stK w hg s x hop v l [y] hs hown.1 ⟨g, 0, none⟩ 1 c rfl hx (fun j u hj => ?_) n hn hbig fun ao cap w' hR hG hO => ?_
  · have e : stK.cs [y] = stCells y := by show [y].flatMap stCells = _; simp
    rw [e] at hj
    rw [add_plain _ rfl]
    have := hW.at_ (0 + j)
    rw [this, Nat.zero_add]
    simpa using hj
  · refine hK ao cap w' ⟨hR, fun q hq => ?_⟩ ((Keeps.refl _ w).grown hG fun k hk _ => hk) hO
    rcases hO with e | e
    · exact hown.2 q (by rw [← e]; exact hq)
    · rw [e] at hq
      injection hq with hq
      rw [← hq]
      exact hz
end Go.Proofs.YtcdlchcmidfhiaaGreatDoor

namespace Go.Proofs.YtcdlchcmidfhiaaGreatDoor
open Go.RowKit Go.Maps Go.Extern.Stop Go.Stop Go.Extern

/-- What a block answers. -/
def BlkOk (S : Str) (i r : Nat) (w : World) (e : Ending) (w' : World) : Prop := ∃ (F : Fo) (k : Nat) (S' : Str) (j : Nat) (b : Sl), e = .returned (.tuple #[slv b, .int .i64 (k : Int)]) ∧ BlkTo S i F k S' j ∧ S'.length ≤ S.length ∧ (k ≠ 0 → k ≠ 1 → j + S'.length ≤ i + S.length) ∧ Whole w' r 71 (rdC S' j) ∧ Keeps (fun x => x = r) w w' ∧ (k ≠ 0 → SlB (fun x => w.heap.size ≤ x) w' (slv b) F) ∧ F.len + S'.length ≤ S.length
/-- Blocks that are shorter, over a world of which nothing is changed. -/
def BlkAll (w0 : World) (n : Nat) : Prop := ∀ (w : World) (S : Str) (i r : Nat), S.length < n → i + S.length ≤ 20000 → w0.heap.size ≤ r → Keeps (fun _ => False) w0 w → Whole w r 71 (rdC S i) → Calls Tryz.prog 30 #[.pointer (some ⟨r, 0, none⟩)] w (BlkOk S i r w)
/-- What within answers. -/
def WithOk (S : Str) (i r sb : Nat) (u : St7) (w : World) (e : Ending) (w' : World) : Prop := ∃ (q : Bool) (B E : Fo) (S' : Str) (j : Nat) (b c : Sl), e = .returned (.bool q) ∧ WithTo S i u q B E S' j ∧ S'.length ≤ S.length ∧ (q = true → j + S'.length ≤ i + S.length) ∧ Whole w' r 71 (rdC S' j) ∧ Keeps (fun x => x = r ∨ x = sb) w w' ∧ Whole w' sb 45 (stAgg u b c) ∧ (q = true → SlB (fun x => w.heap.size ≤ x) w' (slv b) B ∧ SlB (fun x => w.heap.size ≤ x) w' (slv c) E)

theorem put_body7 {w : World} {sb : Nat} {u : St7} (h : Whole w sb 45 (stC u)) (b : Sl) : Whole (w.setCell ⟨sb, 7, none⟩ (.slice b.1 b.2.1 b.2.2)) sb 45 (stAgg u b (none, 0, 0)) := by
  have := h.set_ 7 (.slice b.1 b.2.1 b.2.2)
  simpa [stC, stAgg, slv] using this
theorem put_else8 {w : World} {sb : Nat} {u : St7} {b : Sl} (h : Whole w sb 45 (stAgg u b (none, 0, 0))) (c : Sl) : Whole (w.setCell ⟨sb, 8, none⟩ (.slice c.1 c.2.1 c.2.2)) sb 45 (stAgg u b c) := by
  have := h.set_ 8 (.slice c.1 c.2.1 c.2.2)
  simpa [stAgg, slv] using this
theorem hasE_of {k : Int} : hasE k = true ↔ k = 11 ∨ k = 14 := by unfold hasE; simp
set_option maxRecDepth 100000 in
set_option maxHeartbeats 1000000 in
theorem with_any {w0 w : World} {n : Nat} (BLK : BlkAll w0 n) (S : Str) (i r sb : Nat) (u : St7) (hn : S.length < n) (hl : i + S.length ≤ 20000) (hr : w0.heap.size ≤ r) (hs : w0.heap.size ≤ sb) (K0 : Keeps (fun _ => False) w0 w) (hW : Whole w r 71 (rdC S i)) (hU : Whole w sb 45 (stC u)) :
    Calls Tryz.prog 53 #[.pointer (some ⟨r, 0, none⟩), .pointer (some ⟨sb, 0, none⟩)] w (WithOk S i r sb u w) := by
  have hne : sb ≠ r := fun e => by
    subst e
    unfold Whole at hW hU
    rw [hW] at hU
    injection hU with hU
    injection hU with _ hU
    exact absurd hU (by decide)
  have C1 := Lib.hid (BLK w S i r hn hl hr K0 hW)
  have U0 := Lib.hid hU
  have k0 := Lib.hid K0
  have hne' := Lib.hid hne
  have ltU := Lib.hid hU.lt
  have ltR := Lib.hid hW.lt
  have B0 := Lib.hid BLK
  clear hW hU K0 hne BLK
  go_enter Tryz.func53, Tryz.ntmps53
  go_wp2_with fail
  refine C1.out.mono ?_
  rintro e w2 ⟨F, k, S1, j, b, rfl, hB, h1, h2, hW, hK, hS, hF⟩
  have U2 := Lib.hid (U0.out.keeps hK hne'.out)
  have c5 : w2.cell? ⟨sb, 7, none⟩ = some (.slice none 0 0) := U2.out.at_ 7
  have f5 : w2.frozen? ⟨sb, 7, none⟩ = false := U2.out.free 7
  have c0 : w2.cell? ⟨sb, 0, none⟩ = some (.int .i64 u.k) := U2.out.at_ 0
  have BT := Lib.hid hB
  have R2 := Lib.hid hW
  have K2 := Lib.hid hK
  have S2 := Lib.hid hS
  have hj := Lib.hid h2
  clear hB hW hK hS C1 h2 hF
  obtain ⟨ob, nb, cb⟩ := b
  simp only [slv] at S2 ⊢
  obtain ⟨W3, hW3⟩ : ∃ V, V = w2.setCell ⟨sb, 7, none⟩ (.slice ob nb cb) := ⟨_, rfl⟩
  have U3 := Lib.hid (show Whole W3 sb 45 (stAgg u (ob, nb, cb) (none, 0, 0)) by rw [hW3]; exact put_body7 U2.out (ob, nb, cb))
  have R3 := Lib.hid (show Whole W3 r 71 (rdC S1 j) by rw [hW3]; exact R2.out.far (p := ⟨sb, 7, none⟩) (fun h => hne'.out h.symm) _)
  have J3 : Keeps (fun x => x = sb) w2 W3 := by rw [hW3]; exact (Keeps.refl (fun x => x = sb) w2).setCell (p := ⟨sb, 7, none⟩) (fun _ => rfl) _
  have K3 := Lib.hid ((K2.out.mono (T := fun x => x = r ∨ x = sb) fun _ _ h => .inl h).trans J3 fun _ _ h => .inr h)
  have S3 := Lib.hid (fun h : k ≠ 0 => (S2.out h).keeps J3 fun x hx _ e => by have := ltU.out; omega)
  have hW3' := Lib.hid hW3
  clear hW3 J3
  have fin : ∀ q : Bool, q = (k == 3) → (k ≠ 2 ∨ (u.k ≠ 11 ∧ u.k ≠ 14)) → WithOk S i r sb u w (.returned (.bool q)) W3 := fun q hq hk => by
    have WT := with_body (s := u) BT.out hk
    rw [← hq] at WT
    refine ⟨q, F, .nil, S1, j, (ob, nb, cb), (none, 0, 0), rfl, WT, h1, fun e => ?_, R3.out, K3.out, U3.out, fun e => ?_⟩
    · rw [e] at hq
      have : k = 3 := by simpa using hq.symm
      exact hj.out (by omega) (by omega)
    · rw [e] at hq
      have : k = 3 := by simpa using hq.symm
      exact ⟨S3.out (by omega), SlB.nil_ _ _⟩
  have FIN := Lib.hid fin
  clear fin
  by_cases k2 : k = 2
  · subst k2
    have CE := Lib.hid (fun V => hasElse_any (w := V) u.k)
    cases hx : hasE u.k with
    | false =>
      rw [hx] at CE
      have FE := Lib.hid (FIN.out false rfl (.inr (by unfold hasE at hx; simpa using hx)))
      clear hx FIN
      go_wp2_with fail
      rw [← hW3'.out]
      refine (CE.out _).mono ?_
      rintro e w' ⟨rfl, rfl⟩
      clear CE c5 f5 c0
      go_wp2_with fail
      go_ret
      exact FE.out
    | true =>
      rw [hx] at CE
      have hx' := Lib.hid (hasE_of.1 hx)
      have C2 := Lib.hid (B0.out W3 S1 j r (by omega) (by have := hj.out (by omega) (by omega); omega) hr (k0.out.trans K3.out fun x hx h => by rcases h with h | h <;> omega) R3.out)
      clear hx FIN
      go_wp2_with fail
      rw [← hW3'.out]
      refine (CE.out _).mono ?_
      rintro e w' ⟨rfl, rfl⟩
      clear CE c5 f5 c0
      go_wp2_with fail
      refine C2.out.mono ?_
      rintro e w4 ⟨E, m, S4, j4, c, rfl, hB, g1, g2, hW, hK, hS, _⟩
      have U4 := Lib.hid (U3.out.keeps hK hne'.out)
      have c8 : w4.cell? ⟨sb, 8, none⟩ = some (.slice none 0 0) := U4.out.at_ 8
      have f8 : w4.frozen? ⟨sb, 8, none⟩ = false := U4.out.free 8
      have BT4 := Lib.hid hB
      have R4 := Lib.hid hW
      have K4 := Lib.hid (K3.out.trans hK fun _ _ h => .inl h)
      have S4' := Lib.hid hS
      have S4b := Lib.hid ((S3.out (by omega)).keeps hK fun x hx _ e => by have := ltR.out; omega)
      have szw := Lib.hid K3.out.size
      clear hB hW hK hS C2
      obtain ⟨oc, nc, cc⟩ := c
      simp only [slv] at S4' ⊢
      have m3I : ((m : Int) == 3) = (m == 3) := by
        by_cases h : m = 3
        · subst h; rfl
        · rw [beq_eq_false_iff_ne.2 h, beq_eq_false_iff_ne.2 (by omega)]
      obtain ⟨W5, hW5⟩ : ∃ V, V = w4.setCell ⟨sb, 8, none⟩ (.slice oc nc cc) := ⟨_, rfl⟩
      have U5 := Lib.hid (show Whole W5 sb 45 (stAgg u (ob, nb, cb) (oc, nc, cc)) by rw [hW5]; exact put_else8 U4.out (oc, nc, cc))
      have R5 := Lib.hid (show Whole W5 r 71 (rdC S4 j4) by rw [hW5]; exact R4.out.far (p := ⟨sb, 8, none⟩) (fun h => hne'.out h.symm) _)
      have J5 : Keeps (fun x => x = sb) w4 W5 := by rw [hW5]; exact (Keeps.refl (fun x => x = sb) w4).setCell (p := ⟨sb, 8, none⟩) (fun _ => rfl) _
      have K5 := Lib.hid (K4.out.trans J5 fun _ _ h => .inr h)
      have S5 := Lib.hid (S4b.out.keeps J5 fun x hx _ e => by have := ltU.out; omega)
      have S5' := Lib.hid (fun h : m ≠ 0 => ((S4'.out h).mono fun x _ q => Nat.le_trans szw.out q).keeps J5 fun x hx _ e => by have := ltU.out; omega)
      have FE : Hid (∀ q : Bool, q = (m == 3) → WithOk S i r sb u w (.returned (.bool q)) W5) := Lib.hid fun q hq => by
        have WT := with_else BT.out hx'.out BT4.out
        rw [← hq] at WT
        refine ⟨q, F, E, S4, j4, (ob, nb, cb), (oc, nc, cc), rfl, WT, by omega, fun e => ?_, R5.out, K5.out, U5.out, fun e => ?_⟩
        · rw [e] at hq
          have h3 : m = 3 := by simpa using hq.symm
          have := g2 (by omega) (by omega)
          have := hj.out (by omega) (by omega)
          omega
        · rw [e] at hq
          have h3 : m = 3 := by simpa using hq.symm
          exact ⟨S5.out, S5'.out (by omega)⟩
      have hW5' := Lib.hid hW5
      clear hW5 J5 g2 g1
      have FQ := Lib.hid (FE.out _ rfl)
      clear FE
      generalize (m == 3) = q at *
      go_wp2_with fail
      rw [← hW5'.out]
      go_ret
      exact FQ.out
  · have k2I : ((k : Int) == 2) = false := by simp; omega
    have k3I : ((k : Int) == 3) = (k == 3) := by
      by_cases h : k = 3
      · subst h; rfl
      · rw [beq_eq_false_iff_ne.2 h, beq_eq_false_iff_ne.2 (by omega)]
    have FE := Lib.hid (FIN.out _ rfl (.inl k2))
    clear FIN k2
    generalize (k == 3) = q at *
    go_wp2_with fail
    rw [← hW3'.out]
    go_ret
    exact FE.out
end Go.Proofs.YtcdlchcmidfhiaaGreatDoor

namespace Go.Proofs.YtcdlchcmidfhiaaGreatDoor
open Go.RowKit Go.Maps Go.Extern.Stop Go.Stop Go.Extern

theorem reads_ck : ∀ (fs : List Fm) (ws : List Str) (s s' : St7), readFs s fs ws = some s' → s'.k = s.k ∧ ((0 ≤ s.c ∧ s.c < 10000) → (0 ≤ s'.c ∧ s'.c < 10000))
  | [], [], s, s', h => by simp only [readFs] at h; injection h with h; subst h; exact ⟨rfl, id⟩
  | [], w :: ws, s, s', h => by simp [readFs] at h
  | f :: fs, [], s, s', h => by simp [readFs] at h
  | f :: fs, w :: ws, s, s', h => by
    simp only [readFs] at h
    cases hr : readF s f w with
    | none => rw [hr] at h; cases h
    | some t =>
      rw [hr] at h
      obtain ⟨h1, h2⟩ := reads_ck fs ws t s' h
      have ht : t.k = s.k ∧ ((0 ≤ s.c ∧ s.c < 10000) → (0 ≤ t.c ∧ t.c < 10000)) := by
        cases f
        · simp only [readF] at hr
          obtain ⟨m, hm, rfl⟩ := Option.map_eq_some_iff.1 hr
          have := (plain_canon hm).1
          exact ⟨rfl, fun _ => ⟨by simp only; omega, by simp only; omega⟩⟩
        · simp only [readF] at hr
          obtain ⟨m, hm, rfl⟩ := Option.map_eq_some_iff.1 hr
          exact ⟨rfl, id⟩
        · simp only [readF] at hr
          obtain ⟨m, hm, rfl⟩ := Option.map_eq_some_iff.1 hr
          exact ⟨rfl, id⟩
        · simp only [readF] at hr
          split at hr
          · cases hr
          · injection hr with hr; subst hr; exact ⟨rfl, id⟩
        · simp only [readF] at hr
          obtain ⟨m, hm, rfl⟩ := Option.map_eq_some_iff.1 hr
          exact ⟨rfl, id⟩
        · simp only [readF] at hr
          split at hr
          · injection hr with hr; subst hr; exact ⟨rfl, id⟩
          · cases hr
      exact ⟨h1.trans ht.1, fun q => h2 (ht.2 q)⟩
theorem stmt_ck {ws : List Str} {s : St7} (h : stmtT ws = some s) : (∃ k : Nat, 0 < k ∧ k < 17 ∧ s.k = (k : Int)) ∧ (Lit.int .i64 s.c).wf = true := by
  cases ws with
  | nil => cases h
  | cons w t =>
    simp only [stmtT] at h
    split at h
    · cases h
    · rename_i hk
      obtain ⟨h1, h2⟩ := reads_ck _ _ _ _ h
      have h3 := h2 ⟨by show (0 : Int) ≤ 0; omega, by show (0 : Int) < 10000; omega⟩
      refine ⟨⟨kindOf w, by omega, (kind_back hk).1, h1⟩, ?_⟩
      simp [Lit.wf, IntKind.min, IntKind.max, IntKind.signed, IntKind.bits]
      omega
theorem of_snoc (l : List (St7 × Fo × Fo)) (s : St7) (B E : Fo) : Fo.ofItems (l ++ [(s, B, E)]) = (Fo.ofItems l).app (one1 s B E) := by
  induction l with
  | nil => rfl
  | cons x t ih => obtain ⟨a, b, c⟩ := x; simp [Fo.ofItems, Fo.app, ih]
theorem len_of (l : List (St7 × Fo × Fo)) : (Fo.ofItems l).len = l.length := by unfold Fo.len; rw [Fo.items_of]
theorem bad_nil {S S' : Str} {i j : Nat} {F : Fo} {r : Nat} {w w' : World} (h : BlkTo S i F 0 S' j) (h1 : S'.length ≤ S.length) (hW : Whole w' r 71 (rdC S' j)) (hK : Keeps (fun x => x = r) w w') : BlkOk S i r w (.returned (.tuple #[.slice none 0 0, .int .i64 0])) w' :=
  ⟨.nil, 0, S', j, (none, 0, 0), rfl, (by
    rcases h with ⟨q, _⟩ | ⟨q, _⟩ | ⟨q, _⟩ | ⟨_, q⟩
    · cases q
    · cases q
    · cases q
    · exact .inr (.inr (.inr ⟨rfl, q⟩))), h1, (fun q => absurd rfl q), hW, hK, (fun q => absurd rfl q), by show 0 + _ ≤ _; omega⟩

theorem row_in {w w1 : World} {v : Value} {l : List StV} (h : Mine stK w w1 v l) (g : Nat) (hg : v.ownBlock = some g) : g < w1.heap.size := by
  obtain ⟨cs, hc⟩ := row_whole h.1 hg
  exact hc.lt
theorem Mine.keepB {w w1 w2 : World} {v : Value} {l : List StV} {r : Nat} (h : Mine stK w w1 v l) (k : Keeps (fun x => x = r) w1 w2) (hr : r < w.heap.size) : Mine stK w w2 v l :=
  ⟨ownsRow_keeps h.1 k fun g hg e => by have := h.2 g hg; omega, h.2⟩

set_option maxRecDepth 100000 in
set_option maxHeartbeats 4000000 in
theorem block_next {w0 : World} (hg : GlobT w0) {n : Nat} (BLK : BlkAll w0 n) : BlkAll w0 (n + 1) := by
  intro w S i r hn hl hr K0 hW
  have HG := Lib.hid hg
  have B0 := Lib.hid BLK
  have k0 := Lib.hid K0
  have W0 := Lib.hid hW
  have ltR := Lib.hid hW.lt
  clear hg BLK K0 hW
  go_enter Tryz.func30, Tryz.ntmps30
  go_wp2_with fail
  go_loopw [4] (fun pv wr => ∃ (ps : List StV) (lst : List (St7 × Fo × Fo)) (S1 : Str) (i1 m c : Nat) (ao : Option Addr), pv = .slice ao m c ∧ ps.length = m ∧ Mine stK w wr (.slice ao m c) ps ∧ StsB (fun x => w.heap.size ≤ x ∧ (Value.slice ao m c).ownBlock ≠ some x) wr ps lst ∧ Behind S i (Fo.ofItems lst) S1 i1 ∧ i1 + S1.length ≤ i + S.length ∧ Whole wr r 71 (rdC S1 i1) ∧ Keeps (fun x => x = r) w wr ∧ m + S1.length ≤ S.length) (fun _ wr => restN r wr)
  case atStart => exact ⟨[], [], S, i, 0, 0, none, rfl, rfl, ⟨World.ownsRow_nil .., fun g hg => by simp [Value.ownBlock] at hg⟩, StsB.none_ _ _, Behind.start S i, Nat.le_refl _, W0.out, Keeps.refl _ _, by omega⟩
  case round =>
    obtain ⟨ps, lst, S1, i1, m, c, ao, rfl, hm, hM, hS, hB, hsum, hW, hK, hmm⟩ := hrel
    have M1 := Lib.hid hM
    have S1' := Lib.hid hS
    have B1 := Lib.hid hB
    have R1 := Lib.hid hW
    have K1 := Lib.hid hK
    have hm' := Lib.hid hm
    have sl1 := Lib.hid hB.1
    have CN := Lib.hid (tnext_any S1 i1 r (by omega) hW)
    have MR : Hid (restN r wr = S1.length) := Lib.hid (by unfold restN; rw [hW.at_ 0]; exact mkB_size S1)
    clear hM hS hB hW hK hm
    go_wp2_with fail
    refine CN.out.mono ?_
    rintro e w2 ⟨ws, S2, j, v, rfl, hN, h1, h2, hW, hK, hV, hx, hwn⟩
    have N2 := Lib.hid hN
    have R2 := Lib.hid hW
    have J2 := Lib.hid hK
    have V2 := Lib.hid hV
    have X2 := Lib.hid (And.intro hx hwn)
    have hj := Lib.hid h2
    have K2 := Lib.hid (K1.out.trans hK fun _ _ h => h)
    have hwo : Wo ws := by
      rcases hN with ⟨q, _⟩ | ⟨_, q, _⟩
      · rw [q]; exact wo_nil
      · exact q
    have sl2 := Lib.hid h1
    have CE := Lib.hid (ended_any wr.heap.size v ws hV hwo (fun x q => by have := hx x q; have := sl1.out; omega) (by have := sl1.out; omega))
    clear hN hW hK hV hx hwn h1 h2 hwo CN
    go_wp2_with fail
    refine CE.out.mono ?_
    rintro e w3 ⟨rfl, hK⟩
    have J3 := Lib.hid (J2.out.trans hK fun _ _ => False.elim)
    have K3 := Lib.hid (K2.out.trans hK fun _ _ => False.elim)
    have R3 := Lib.hid (R2.out.keeps hK id)
    have JJ3 := Lib.hid hK
    clear hK CE
    obtain ⟨k, hk⟩ : ∃ k, endN ws = k := ⟨_, rfl⟩
    have hk' := Lib.hid hk
    rw [hk]
    clear hk
    by_cases k0' : k = 0
    · subst k0'
      have hne : ws ≠ [] := fun e => by have := hk'.out; rw [e] at this; cases this
      obtain ⟨b, hb, rfl, hA⟩ : ∃ b, wr.heap.size ≤ b ∧ v = .slice (some ⟨b, 0, none⟩) ws.length ws.length ∧ StrsAt w2 b ws := by
        rcases V2.out with ⟨q, _⟩ | ⟨_, b, q1, q2, q3⟩
        · exact absurd q hne
        · exact ⟨b, q1, q2, q3⟩
      have CS := Lib.hid (stat_any (w := w3) ws b ws.length (hA.keeps JJ3.out id) (fun x q => by have := X2.out.1 x q; have := sl1.out; omega) (by have := X2.out.2; have := sl1.out; omega) (HG.out.keeps (k0.out.trans K3.out fun x hx e => by omega) id))
      have hne' := Lib.hid hne
      obtain ⟨q, hq⟩ : ∃ q, ws.length = q := ⟨_, rfl⟩
      rw [hq] at CS ⊢
      clear hne hb hA hq
      go_wp2_with fail
      refine CS.out.mono ?_
      rintro e w4 ⟨u, ok, rfl, hst, hK⟩
      have J4 := Lib.hid (J3.out.trans hK fun _ _ => False.elim)
      have K4 := Lib.hid (K3.out.trans hK fun _ _ => False.elim)
      have R4 := Lib.hid (R3.out.keeps hK id)
      clear hK CS
      simp only [stC]
      cases ok with
      | false =>
        have hst' := Lib.hid hst
        have FE := Lib.hid (Behind.bad B1.out N2.out hk'.out (by rw [hst]; rfl))
        clear hst
        go_wp2_with fail
        go_ret2
        exact bad_nil FE.out (by have := sl1.out; have := sl2.out; omega) (R4.out.alloc _) (K4.out.alloc _)
      | true =>
        have hst1 : stmtT ws = some u := by rw [hst]; rfl
        have hst' := Lib.hid hst1
        obtain ⟨⟨kn, q0, q17, hkn⟩, hwf⟩ := stmt_ck hst1
        have hwf' := Lib.hid hwf
        have hkn' := Lib.hid hkn
        obtain ⟨W5, hW5⟩ : ∃ V, V = w4.alloc (.cells #[.int .i64 u.k, .int .i64 u.c, .int .i64 u.r, .int .i64 u.ar, .int .i64 u.an, .int .i64 u.br, .int .i64 u.bn, .slice none 0 0, .slice none 0 0] 45) := ⟨_, rfl⟩
        have K5 := Lib.hid (show Keeps (fun x => x = r) w W5 by rw [hW5]; exact K4.out.alloc _)
        have J5 := Lib.hid (show Keeps (fun x => x = r) wr W5 by rw [hW5]; exact J4.out.alloc _)
        have R5 := Lib.hid (show Whole W5 r 71 (rdC S2 j) by rw [hW5]; exact R4.out.alloc _)
        have U5 := Lib.hid (show Whole W5 w4.heap.size 45 (stC u) by rw [hW5]; exact Whole.made w4 _ _)
        have CO := Lib.hid (opens_any (w := W5) kn q0 q17 (HG.out.keeps (k0.out.trans K5.out fun x hx e => by omega) id))
        rw [← hkn] at CO
        have str : Hid (S2.length < S1.length) := Lib.hid (by
          rcases N2.out with ⟨h, _⟩ | ⟨_, _, h, _⟩
          · exact absurd h hne'.out
          · exact h)
        have hjj : Hid (j + S2.length ≤ i1 + S1.length) := Lib.hid (hj.out hne'.out)
        have z5 : wr.heap.size ≤ w4.heap.size := J4.out.size
        have hW5' := Lib.hid hW5
        have ce0 : W5.cell? ⟨w4.heap.size, 0, none⟩ = some (.int .i64 u.k) := U5.out.at_ 0
        have M5 := Lib.hid (M1.out.keepB J5.out ltR.out)
        have S5 := Lib.hid (S1'.out.keeps J5.out fun x hx _ e => by have := hx.1; have := ltR.out; omega)
        clear hst hst1 hwf hkn hW5 q0 q17
        cases hb : isBlk u.k with
        | false =>
          rw [hb] at CO
          have FE := Lib.hid (Behind.stmt B1.out N2.out hne'.out hst'.out hb)
          have S6 := Lib.hid (S5.out.snoc (s := u) (b := (none, 0, 0)) (e := (none, 0, 0)) (SlB.nil_ _ _) (SlB.nil_ _ _) hwf'.out)
          clear hb
          have ce1 : W5.cell? ⟨w4.heap.size, 1, none⟩ = some (.int .i64 u.c) := U5.out.at_ 1
          have ce2 : W5.cell? ⟨w4.heap.size, 2, none⟩ = some (.int .i64 u.r) := U5.out.at_ 2
          have ce3 : W5.cell? ⟨w4.heap.size, 3, none⟩ = some (.int .i64 u.ar) := U5.out.at_ 3
          have ce4 : W5.cell? ⟨w4.heap.size, 4, none⟩ = some (.int .i64 u.an) := U5.out.at_ 4
          have ce5 : W5.cell? ⟨w4.heap.size, 5, none⟩ = some (.int .i64 u.br) := U5.out.at_ 5
          have ce6 : W5.cell? ⟨w4.heap.size, 6, none⟩ = some (.int .i64 u.bn) := U5.out.at_ 6
          have ce7 : W5.cell? ⟨w4.heap.size, 7, none⟩ = some (.slice none 0 0) := U5.out.at_ 7
          have ce8 : W5.cell? ⟨w4.heap.size, 8, none⟩ = some (.slice none 0 0) := U5.out.at_ 8
          go_wp2_with fail
          rw [← hW5'.out]
          refine (CO.out).mono ?_
          rintro e w' ⟨rfl, hw'⟩
          rw [hw']
          clear CO hw'
          go_wp2_with (at_builtin; refine wp_append_st rfl _ _ rfl w (.slice ao m c) ps (u, (none, 0, 0), (none, 0, 0)) rfl ((M5.out).keepB ((Keeps.refl _ W5).alloc _) ltR.out) ((K5.out.alloc _).size) W5.heap.size 1 rfl (Whole.made W5 45 (stCells (u, (none, 0, 0), (none, 0, 0))).toArray) (m + 1) (by rw [hm'.out]) (by have := sl1.out; omega) ?_; intro ao2 ac2 w8 hM8 hK8 hO8; have M8 := Lib.hid hM8; have L8 := Lib.hid hK8; have O8 := Lib.hid hO8; clear hM8 hK8 hO8)
          have own := Lib.hid (fun g (h : (Value.slice ao m c).ownBlock = some g) => row_in M5.out g h)
          have L9 := Lib.hid (show Keeps (fun x => (Value.slice ao m c).ownBlock = some x) W5 w8 from ((Keeps.refl (fun x => (Value.slice ao m c).ownBlock = some x) W5).alloc _).trans L8.out fun _ _ h => h)
          have R8 := Lib.hid (R5.out.keeps L9.out fun e => by have := (M5.out).2 _ e; have := ltR.out; omega)
          have K8 := Lib.hid (K5.out.trans L9.out fun x hx e => by have := (M5.out).2 _ e; omega)
          have S8 : Hid (StsB (fun x => w.heap.size ≤ x ∧ (Value.slice ao2 (m + 1) ac2).ownBlock ≠ some x) w8 (ps ++ [(u, (none, 0, 0), (none, 0, 0))]) (lst ++ [(u, .nil, .nil)])) := Lib.hid (by
            have q1 := (S6.out).mono (Q := fun x => (w.heap.size ≤ x ∧ (Value.slice ao m c).ownBlock ≠ some x) ∧ x < W5.heap.size) fun x hx hp => ⟨hp, hx⟩
            refine (q1.keeps L9.out fun x hx _ e => hx.1.2 e).mono fun x _ hp => ⟨hp.1.1, fun e => ?_⟩
            rcases O8.out with h | h
            · exact hp.1.2 (by rw [← h]; exact e)
            · rw [h] at e
              injection e with e
              have := hp.2
              rw [World.size_alloc] at e
              omega)
          go_roundw
          case rel => exact ⟨ps ++ [(u, (none, 0, 0), (none, 0, 0))], lst ++ [(u, .nil, .nil)], _, _, m + 1, ac2, ao2, rfl, by rw [List.length_append, hm'.out]; rfl, M8.out, S8.out, by rw [of_snoc]; exact FE.out, by have := hjj.out; omega, R8.out, K8.out, by have := str.out; omega⟩
          case measure =>
            have ha := R8.out.at_ 0
            rw [MR.out]
            unfold restN
            rw [ha]
            show (mkB _).size < _
            rw [mkB_size]
            have := str.out
            omega
        | true =>
          rw [hb] at CO
          have hb' := Lib.hid hb
          have CW := Lib.hid (with_any (w := W5) B0.out S2 j r w4.heap.size u (by have := str.out; have := sl1.out; omega) (by have := hjj.out; omega) hr (Nat.le_trans k0.out.size (Nat.le_trans K4.out.size (Nat.le_refl _))) (k0.out.trans K5.out fun x hx e => by omega) R5.out U5.out)
          clear hb
          go_wp2_with fail
          rw [← hW5'.out]
          refine (CO.out).mono ?_
          rintro e w' ⟨rfl, hw'⟩
          rw [hw']
          clear CO ce0 hw'
          go_wp2_with fail
          refine CW.out.mono ?_
          rintro e w6 ⟨q6, F, E, S7, j7, b7, b8, rfl, hWT, h1, h2, hW, hK, hU, hSl⟩
          have K6 := Lib.hid (K5.out.trans (hK.mono (T := fun x => x = r ∨ wr.heap.size ≤ x) fun x _ h => h.elim .inl fun h => .inr (by rw [h]; exact z5)) fun x hx h => by
            rcases h with h | h
            · exact h
            · have := K1.out.size; omega)
          have J6 := Lib.hid (J5.out.trans hK fun x hx h => by
            rcases h with h | h
            · exact h
            · omega)
          have R6 := Lib.hid hW
          have U6 := Lib.hid hU
          have M6 := Lib.hid (M1.out.keepB J6.out ltR.out)
          have str7 : Hid (S7.length < S1.length) := Lib.hid (by have := str.out; omega)
          clear hW hK hU CW
          cases q6 with
          | false =>
            have FE := Lib.hid (Behind.with_no B1.out N2.out hne'.out hst'.out hb'.out hWT)
            clear hWT h2 hSl
            go_wp2_with fail
            go_ret2
            exact bad_nil FE.out (by have := sl1.out; have := sl2.out; omega) R6.out K6.out
          | true =>
            have FE := Lib.hid (Behind.with B1.out N2.out hne'.out hst'.out hb'.out hWT)
            have hj7 : Hid (j7 + S7.length ≤ j + S2.length) := Lib.hid (h2 rfl)
            have Z6 : ∀ x, W5.heap.size ≤ x → (w.heap.size ≤ x ∧ (Value.slice ao m c).ownBlock ≠ some x) := fun x hx => ⟨Nat.le_trans K5.out.size hx, fun e => by
              have := row_in M1.out x e
              have := J5.out.size
              omega⟩
            have S6 := Lib.hid ((S1'.out.keeps J6.out fun x hx _ e => by have := hx.1; have := ltR.out; omega).snoc (s := u) (b := b7) (e := b8) ((hSl rfl).1.mono fun x _ q => Z6 x q) ((hSl rfl).2.mono fun x _ q => Z6 x q) hwf'.out)
            have hnj : Hid (j7 + S7.length ≤ i + S.length) := Lib.hid (by have := hj7.out; have := hjj.out; omega)
            obtain ⟨o7, n7, c7⟩ := b7
            obtain ⟨o8, n8, c8'⟩ := b8
            clear hWT h2 hSl Z6
            have ce0 : w6.cell? ⟨w4.heap.size, 0, none⟩ = some (.int .i64 u.k) := U6.out.at_ 0
            have ce1 : w6.cell? ⟨w4.heap.size, 1, none⟩ = some (.int .i64 u.c) := U6.out.at_ 1
            have ce2 : w6.cell? ⟨w4.heap.size, 2, none⟩ = some (.int .i64 u.r) := U6.out.at_ 2
            have ce3 : w6.cell? ⟨w4.heap.size, 3, none⟩ = some (.int .i64 u.ar) := U6.out.at_ 3
            have ce4 : w6.cell? ⟨w4.heap.size, 4, none⟩ = some (.int .i64 u.an) := U6.out.at_ 4
            have ce5 : w6.cell? ⟨w4.heap.size, 5, none⟩ = some (.int .i64 u.br) := U6.out.at_ 5
            have ce6 : w6.cell? ⟨w4.heap.size, 6, none⟩ = some (.int .i64 u.bn) := U6.out.at_ 6
            have ce7 : w6.cell? ⟨w4.heap.size, 7, none⟩ = some (.slice o7 n7 c7) := U6.out.at_ 7
            have ce8 : w6.cell? ⟨w4.heap.size, 8, none⟩ = some (.slice o8 n8 c8') := U6.out.at_ 8
            go_wp2_with (at_builtin; refine wp_append_st rfl _ _ rfl w (.slice ao m c) ps (u, (o7, n7, c7), (o8, n8, c8')) rfl ((M6.out).keepB ((Keeps.refl _ w6).alloc _) ltR.out) ((K6.out.alloc _).size) w6.heap.size 1 rfl (Whole.made w6 45 (stCells (u, (o7, n7, c7), (o8, n8, c8'))).toArray) (m + 1) (by rw [hm'.out]) (by have := sl1.out; omega) ?_; intro ao2 ac2 w8 hM8 hK8 hO8; have M8 := Lib.hid hM8; have L8 := Lib.hid hK8; have O8 := Lib.hid hO8; clear hM8 hK8 hO8)
            have own := Lib.hid (fun g (h : (Value.slice ao m c).ownBlock = some g) => row_in M6.out g h)
            have L9 := Lib.hid (show Keeps (fun x => (Value.slice ao m c).ownBlock = some x) w6 w8 from ((Keeps.refl (fun x => (Value.slice ao m c).ownBlock = some x) w6).alloc _).trans L8.out fun _ _ h => h)
            have R8 := Lib.hid (R6.out.keeps L9.out fun e => by have := (M6.out).2 _ e; have := ltR.out; omega)
            have K8 := Lib.hid (K6.out.trans L9.out fun x hx e => by have := (M6.out).2 _ e; omega)
            have S8 : Hid (StsB (fun x => w.heap.size ≤ x ∧ (Value.slice ao2 (m + 1) ac2).ownBlock ≠ some x) w8 (ps ++ [(u, (o7, n7, c7), (o8, n8, c8'))]) (lst ++ [(u, F, E)])) := Lib.hid (by
              have q1 := (S6.out).mono (Q := fun x => (w.heap.size ≤ x ∧ (Value.slice ao m c).ownBlock ≠ some x) ∧ x < w6.heap.size) fun x hx hp => ⟨hp, hx⟩
              refine (q1.keeps L9.out fun x hx _ e => hx.1.2 e).mono fun x _ hp => ⟨hp.1.1, fun e => ?_⟩
              rcases O8.out with h | h
              · exact hp.1.2 (by rw [← h]; exact e)
              · rw [h] at e
                injection e with e
                have := hp.2
                rw [World.size_alloc] at e
                omega)
            go_roundw
            case rel => exact ⟨ps ++ [(u, (o7, n7, c7), (o8, n8, c8'))], lst ++ [(u, F, E)], _, _, m + 1, ac2, ao2, rfl, by rw [List.length_append, hm'.out]; rfl, M8.out, S8.out, by rw [of_snoc]; exact FE.out, by have := hnj.out; omega, R8.out, K8.out, by have := str7.out; omega⟩
            case measure =>
              have ha := R8.out.at_ 0
              rw [MR.out]
              unfold restN
              rw [ha]
              show (mkB _).size < _
              rw [mkB_size]
              have := str7.out
              omega
    · have kI : ((k : Int) == 0) = false := by simp; omega
      have M3 := Lib.hid (M1.out.keepB J3.out ltR.out)
      have S3 := Lib.hid (S1'.out.keeps J3.out fun x hx _ e => by have := hx.1; have := ltR.out; omega)
      go_wp2_with fail
      go_ret2
      refine ⟨Fo.ofItems lst, k, S2, j, (ao, m, c), rfl, Behind.ends B1.out N2.out hk'.out k0', by have := sl1.out; have := sl2.out; omega, fun _ k1 => ?_, R3.out, K3.out, fun _ => ?_, ?_⟩
      · have := hj.out (fun e => k1 (by rw [← hk'.out, e]; rfl))
        omega
      · exact slB_row M3.out (S3.out.mono fun x _ q => q.1) (fun x q _ => q) hm'.out
      · have e1 := S1'.out.len
        have e2 := hm'.out
        have e3 := sl2.out
        rw [len_of]
        omega
end Go.Proofs.YtcdlchcmidfhiaaGreatDoor

namespace Go.Proofs.YtcdlchcmidfhiaaGreatDoor
open Go.RowKit Go.Maps Go.Extern.Stop Go.Stop Go.Extern

theorem block_all {w0 : World} (hg : GlobT w0) : ∀ n, BlkAll w0 n
  | 0 => fun _ _ _ _ hn => absurd hn (Nat.not_lt_zero _)
  | n + 1 => block_next hg (block_all hg n)
set_option maxRecDepth 100000 in
theorem bounded_ok {w : World} (S : Str) (h : S.length ≤ 20000) :
    Calls Tryz.prog 24 #[.string (mkB S)] w fun e w' => e = .returned (.tuple #[.string (mkB S), .nilIface]) ∧ w' = w := by
  have hz := mkB_size S
  have b1 : ¬ (20000 : Int) < ((mkB S).size : Int) := by omega
  clear h hz
  go_enter Tryz.func24, Tryz.ntmps24
  go_wp2_with fail
  go_ret2
  exact ⟨rfl, rfl⟩
set_option maxRecDepth 100000 in
theorem bounded_no {w : World} (S : Str) (h : 20000 < S.length) :
    Calls Tryz.prog 24 #[.string (mkB S)] w fun e w' => e = .returned (.tuple #[.string ⟨#[]⟩, .iface 64 (.int .i64 8)]) ∧ w' = w := by
  have hz := mkB_size S
  have b1 : (20000 : Int) < ((mkB S).size : Int) := by omega
  clear h hz
  go_enter Tryz.func24, Tryz.ntmps24
  go_wp2_with fail
  go_ret2
  exact ⟨rfl, rfl⟩

set_option maxRecDepth 100000 in
set_option maxHeartbeats 1000000 in
theorem parse_any {w : World} (S : Str) (hg : GlobT w) (hl : S.length ≤ 20000) : Calls Tryz.prog 13 #[.string (mkB S)] w (ParseTo w S) := by
  have CB := Lib.hid (bounded_ok (w := w) S hl)
  obtain ⟨W1, hW1⟩ : ∃ V, V = w.alloc (.cells #[.string (mkB S), .int .i64 0] 71) := ⟨_, rfl⟩
  have K1 := Lib.hid (show Keeps (fun _ => False) w W1 by rw [hW1]; exact (Keeps.refl _ w).alloc _)
  have R1 := Lib.hid (show Whole W1 w.heap.size 71 (rdC S 0) by rw [hW1]; exact Whole.made w _ _)
  have CK := Lib.hid (block_all hg (S.length + 1) W1 S 0 w.heap.size (Nat.lt_succ_self _) (by omega) (Nat.le_refl _) K1.out R1.out)
  have hW1' := Lib.hid hW1
  have hl' := Lib.hid hl
  clear hg hl hW1
  go_enter Tryz.func13, Tryz.ntmps13
  go_wp2_with fail
  refine CB.out.mono ?_
  rintro e w' ⟨rfl, hw'⟩
  rw [hw']
  clear hw' CB
  go_wp2_with fail
  rw [← hW1'.out]
  refine CK.out.mono ?_
  rintro e w2 ⟨F, k, S2, j, b, rfl, hB, _, _, hW, hK, hS, _⟩
  have BT := Lib.hid hB
  have R2 := Lib.hid hW
  have K2 := Lib.hid (K1.out.trans hK fun x hx e => by omega)
  have S2' := Lib.hid hS
  clear hB hW hK hS CK
  obtain ⟨ob, nb, cb⟩ := b
  simp only [slv] at S2' ⊢
  by_cases k1 : k = 1
  · subst k1
    have PE := Lib.hid (parse_ok hl'.out BT.out)
    go_wp2_with fail
    go_ret2
    exact ⟨K2.out, .inl ⟨F, _, PE.out, rfl, (S2'.out (by decide)).of⟩⟩
  · have kI : ((k : Int) == 1) = false := by simp; omega
    have PE := Lib.hid (parse_no hl'.out k1 BT.out)
    have c1 : w2.cell? ⟨w.heap.size, 1, none⟩ = some (.int .i64 (j : Int)) := R2.out.at_ 1
    clear k1
    go_wp2_with fail
    go_region
    go_wp2_with fail
    go_ret2
    refine ⟨(K2.out.alloc _).drew, .inr ⟨9, j, _, PE.out, rfl, .inr (.inr ⟨by omega, by omega, w2.heap.size, K2.out.size, rfl, (Whole.made w2 69 #[.int .i64 (j : Int), .int .i64 9]).drew⟩)⟩⟩
end Go.Proofs.YtcdlchcmidfhiaaGreatDoor
