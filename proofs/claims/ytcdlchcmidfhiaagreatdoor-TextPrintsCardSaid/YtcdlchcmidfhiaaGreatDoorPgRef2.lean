/-
  concordref09.Right, Deep, Waits by contract.
  concordref09.Deep, Waits by contract.
-/
import Derived.Test.YtcdlchcmidfhiaaGreatDoorPgOneAll

namespace Go.Proofs.YtcdlchcmidfhiaaGreatDoor
open Go.RowKit Go.Extern.Stop Go.Stop Go.Extern

/-- A line's cells. -/
structure LnAt (w : World) (g o : Nat) (s : St7) (b e : Sl) (d : Int) : Prop where
  st : Cells7 w s g o
  b : w.cell? ⟨g, o + 7, none⟩ = some (slv b)
  e : w.cell? ⟨g, o + 8, none⟩ = some (slv e)
  d : w.cell? ⟨g, o + 9, none⟩ = some (.int .i64 d)
theorem LnAt.same {w w' : World} {g o : Nat} {s : St7} {b e : Sl} {d : Int} (h : LnAt w g o s b e d) (k : Keeps (fun _ => False) w w') : LnAt w' g o s b e d :=
  ⟨h.st.keeps k fun _ _ => id, (k.cell (cell_lt h.b) id).trans h.b, (k.cell (cell_lt h.e) id).trans h.e, (k.cell (cell_lt h.d) id).trans h.d⟩
theorem lin_wf {w : World} : ∀ {F : Fo} {b o d : Nat}, At w F b o → ∀ l ∈ lin F d, (Lit.int .i64 l.s.c).wf = true
  | .nil, _, _, _, _, l, h => by simp [lin] at h
  | .cons s B E R, b, o, d, h, l, hl => by
    obtain ⟨h1, ⟨v, _, h3⟩, ⟨u, _, h5⟩, h6⟩ := h
    have sub : ∀ {G : Fo} {q : Value} {e : Nat}, SliceIs q G.len (At w G) → (∀ {b o : Nat}, At w G b o → ∀ l ∈ lin G e, (Lit.int .i64 l.s.c).wf = true) → ∀ l ∈ lin G e, (Lit.int .i64 l.s.c).wf = true := fun {G q e} hq hG l hl => by
      obtain ⟨a, c, _, _, _, h4⟩ := hq
      rcases Nat.eq_zero_or_pos G.len with h0 | h0
      · have : G.items = [] := List.eq_nil_of_length_eq_zero h0
        have hG : G = .nil := by rw [← Fo.of_items G, this]; rfl
        subst hG
        simp [lin] at hl
      · obtain ⟨b, o, _, hr⟩ := h4 h0
        exact hG hr l hl
    simp only [lin, List.mem_cons, List.mem_append] at hl
    rcases hl with rfl | hl | hl | hl
    · exact h1.wf
    · exact sub h3 (fun ha => lin_wf (F := B) ha) l hl
    · exact sub h5 (fun ha => lin_wf (F := E) ha) l hl
    · exact lin_wf (F := R) h6 l hl
theorem SlOf.wf {w : World} {v : Value} {F : Fo} {d : Nat} (h : SlOf w v F) : ∀ l ∈ lin F d, (Lit.int .i64 l.s.c).wf = true := fun l hl => by
  obtain ⟨a, c, _, _, _, h4⟩ := h
  rcases Nat.eq_zero_or_pos F.len with h0 | h0
  · have : F.items = [] := List.eq_nil_of_length_eq_zero h0
    have hF : F = .nil := by rw [← Fo.of_items F, this]; rfl
    subst hF
    simp [lin] at hl
  · obtain ⟨b, o, _, hr⟩ := h4 h0
    exact lin_wf hr l hl

theorem SlOf.count {w : World} {x : Sl} {F : Fo} (h : SlOf w (slv x) F) : x.2.1 = F.len := by
  obtain ⟨a, c, h1, _⟩ := h
  injection h1

/-- A row of lines, at a place. -/
theorem line_cells {w0 w wF : World} {u : Value} {new : List LnV} {L : List Ln} {i : Nat} {l : Ln} (hM : Mine lineK w0 w u new) (hA : LinesAt wF new L) (hw : (Lit.int .i64 l.s.c).wf = true) (hl : L[i]? = some l) :
    ∃ g c b e, u = .slice (some ⟨g, 0, none⟩) L.length c ∧ LnAt w g (i * 10) l.s b e (l.d : Int) ∧ SlOf wF (slv b) l.B ∧ SlOf wF (slv e) l.E ∧ b.2.1 = l.B.len ∧ e.2.1 = l.E.len := by
  have hi : i < new.length := by rw [hA.len]; exact (List.getElem?_eq_some_iff.1 hl).1
  obtain ⟨⟨⟨s, b, e⟩, d⟩, hx⟩ : ∃ x, new[i]? = some x := ⟨_, List.getElem?_eq_getElem hi⟩
  obtain ⟨o, c, rfl, ho⟩ := row_shape hM.1
  obtain ⟨g, rfl⟩ := ho (by omega)
  obtain ⟨h1, h2, h3, h4⟩ := hA.each i _ l hx hl
  simp only at h1 h2 h3 h4
  subst h1
  have cell : ∀ j y, j < 10 → (lnCells ((l.s, b, e), d))[j]? = some y → w.cell? ⟨g, i * 10 + j, none⟩ = some y := fun j y hj hy =>
    (World.ownsRow.cellAt hM.1 (i * 10 + j) (by show i * 10 + j < new.length * 10; omega)).trans ((flat_get lnCells 10 (fun _ => rfl) new i j _ hx hj).trans hy)
  refine ⟨g, c, b, e, by rw [hA.len], ⟨⟨cell 0 _ (by omega) rfl, cell 1 _ (by omega) rfl, cell 2 _ (by omega) rfl, cell 3 _ (by omega) rfl, cell 4 _ (by omega) rfl, cell 5 _ (by omega) rfl, cell 6 _ (by omega) rfl, hw⟩, cell 7 _ (by omega) rfl, cell 8 _ (by omega) rfl, ?_⟩, h3, h4, h3.count, h4.count⟩
  have := cell 9 _ (by omega) rfl
  rw [← h2]; exact this

/-- Lines of a transaction from nothing. -/
theorem lines_new {w : World} {v : Value} {F : Fo} (h : SlOf w v F) (few : F.size ≤ 1000) (hd : F.deep ≤ 900) :
    Calls Tryz.prog 38 #[.slice none 0 0, v, .int .i64 1] w fun e w' => ∃ u new, e = .returned u ∧ Mine lineK w w' u new ∧ LinesAt w new (lin F 1) ∧ Keeps (fun _ => False) w w' := by
  have := lines_any F.size F (Nat.le_refl _) w w v (.slice none 0 0) [] 1 h ⟨World.ownsRow_nil .., fun g hg => by simp [Value.ownBlock] at hg⟩ (Keeps.refl _ _) (by simp; omega) (by omega)
  exact this

set_option maxRecDepth 100000 in
set_option maxHeartbeats 1000000 in
theorem rright_any {w : World} {v : Value} {F : Fo} {ko : Option Addr} {kn kc : Nat} {K : List Int} (h : SlOf w v F) (hK : IntL w ko kn K) (few : F.size ≤ 1000) (hd : F.deep ≤ 900) :
    Calls Tryz.prog 26 #[v, .slice ko kn kc] w fun e w' => e = .returned (.tuple #[.int .i64 ((right F K).1 : Nat), .int .i64 ((right F K).2 : Nat)]) ∧ Keeps (fun _ => False) w w' := by
  have cl := Lib.hid (lines_new h few hd)
  have wf := Lib.hid (h.wf (d := 1))
  have hll := lin_len F 1
  obtain ⟨L, hL⟩ : ∃ L, lin F 1 = L := ⟨_, rfl⟩
  obtain ⟨r, hr⟩ : ∃ r, right F K = r := ⟨_, rfl⟩
  have hr0 : Hid (r = rightL K (L.drop 0) 0) := Lib.hid (by rw [← hr, ← hL]; rfl)
  rw [hr]
  rw [hL] at cl wf hll
  have HK := Lib.hid hK
  clear h hK hr hL
  go_enter Tryz.func26, Tryz.ntmps26
  go_wp2_with fail
  refine cl.out.mono ?_
  rintro e w2 ⟨u, new, rfl, hM, hA, hK2⟩
  obtain ⟨o, c, rfl, _⟩ := row_shape hM.1
  have M2 := Lib.hid hM
  have A2 := Lib.hid hA
  have K2 := Lib.hid hK2
  obtain ⟨n, hn⟩ : ∃ n, new.length = n := ⟨_, rfl⟩
  have hLn : L.length = n := by rw [← hA.len, hn]
  have hLn' := Lib.hid hLn
  have n1000 : (n : Int) ≤ 1000 := by omega
  rw [hn] at M2 ⊢
  clear hM hA hK2 hn hLn hll few
  go_wp2_with fail
  go_loopw [7] (fun iv wr => ∃ i : Nat, iv = .int .i64 i ∧ i ≤ n ∧ rightL K (L.drop 0) 0 = rightL K (L.drop i) i ∧ Keeps (fun _ => False) w2 wr) (fun iv _ => n - (intOf iv).toNat)
  case atStart => exact ⟨0, rfl, Nat.zero_le _, rfl, Keeps.refl _ _⟩
  case round =>
    obtain ⟨i, rfl, hi, hg, hK⟩ := hrel
    have G1 := Lib.hid (hr0.out.trans hg)
    have G2 := Lib.hid hg
    have K3 := Lib.hid hK
    clear hg hK
    by_cases hlt : i < n
    · have b1 : (i : Int) < (n : Int) := by omega
      obtain ⟨l, hl⟩ : ∃ l, L[i]? = some l := ⟨_, List.getElem?_eq_getElem (by rw [hLn'.out]; exact hlt)⟩
      have hdrop : L.drop i = l :: L.drop (i + 1) := by
        have hlt' : i < L.length := by rw [hLn'.out]; exact hlt
        rw [List.drop_eq_getElem_cons hlt', Option.some.inj ((List.getElem?_eq_getElem hlt').symm.trans hl)]
      obtain ⟨g, c', b, e, hv, hat, oB, oE, nB, nE⟩ := line_cells M2.out A2.out (wf.out l (List.mem_of_getElem? hl)) hl
      rw [hLn'.out] at hv
      injection hv with hv _ hc
      subst hv
      subst hc
      have at3 := hat.same K3.out
      have f0 := at3.st.k
      have f1 := at3.st.c
      have f2 := at3.st.r
      have f3 := at3.st.ar
      have f4 := at3.st.an
      have f5 := at3.st.br
      have f6 := at3.st.bn
      have f7 := at3.b
      have f8 := at3.e
      have f9 := at3.d
      have step : rightL K (L.drop i) i = if 100 ≤ i then (8, i + 1) else if 8 < l.d then (10, i + 1) else if one l.s l.B.len l.E.len K = false then (9, i + 1) else rightL K (L.drop (i + 1)) (i + 1) := by rw [hdrop]; rfl
      have ST := Lib.hid step
      have co := Lib.hid (fun V (k : Keeps (fun _ => False) w V) => one_any (kc := kc) l.s b e (HK.out.same k))
      rw [nB, nE] at co
      obtain ⟨q, hq⟩ : ∃ q, one l.s l.B.len l.E.len K = q := ⟨_, rfl⟩
      rw [hq] at co ST
      obtain ⟨s, B, E, d⟩ := l
      obtain ⟨k, c, r1, ar, an, br, bn⟩ := s
      obtain ⟨b1', b2', b3'⟩ := b
      obtain ⟨e1', e2', e3'⟩ := e
      simp only at f0 f1 f2 f3 f4 f5 f6 f7 f8 f9 ST co
      unfold slv at f7 f8
      unfold stAgg slv at co
      simp only at f7 f8 co
      clear hl hdrop hat oB oE nB nE at3 step hq
      by_cases h100 : 100 ≤ i
      · have b2 : (100 : Int) ≤ (i : Int) := by omega
        have e1 := Lib.hid (show r = (8, i + 1) by rw [G1.out, ST.out, if_pos h100])
        have wi : IntKind.i64.wrap ((i : Int) + 1) = ((i + 1 : Nat) : Int) := by rw [show (i : Int) + 1 = ((i + 1 : Nat) : Int) by omega]; exact IntWalk.i64_in _ (by omega)
        clear co
        go_wp2_with fail
        go_ret2
        exact ⟨by rw [e1.out]; rfl, K2.out.trans K3.out fun _ _ => id⟩
      · have b2 : ¬ (100 : Int) ≤ (i : Int) := by omega
        by_cases h8 : 8 < d
        · have b3 : (8 : Int) < (d : Int) := by omega
          have e1 := Lib.hid (show r = (10, i + 1) by rw [G1.out, ST.out, if_neg h100, if_pos h8])
          have wi : IntKind.i64.wrap ((i : Int) + 1) = ((i + 1 : Nat) : Int) := by rw [show (i : Int) + 1 = ((i + 1 : Nat) : Int) by omega]; exact IntWalk.i64_in _ (by omega)
          clear co
          go_wp2_with fail
          go_ret2
          exact ⟨by rw [e1.out]; rfl, K2.out.trans K3.out fun _ _ => id⟩
        · have b3 : ¬ (8 : Int) < (d : Int) := by omega
          have K4 := Lib.hid (K2.out.trans K3.out fun _ _ => id)
          cases q with
          | false =>
            have e1 := Lib.hid (show r = (9, i + 1) by rw [G1.out, ST.out, if_neg h100, if_neg h8, if_pos rfl])
            have wi : IntKind.i64.wrap ((i : Int) + 1) = ((i + 1 : Nat) : Int) := by rw [show (i : Int) + 1 = ((i + 1 : Nat) : Int) by omega]; exact IntWalk.i64_in _ (by omega)
            go_wp2_with fail
            refine (co.out _ K4.out).mono ?_
            rintro e w5 ⟨rfl, hK⟩
            have K5 := Lib.hid hK
            clear hK
            go_wp2_with fail
            go_ret2
            exact ⟨by rw [e1.out]; rfl, K4.out.trans K5.out fun _ _ => id⟩
          | true =>
            have e1 := Lib.hid (show rightL K (L.drop 0) 0 = rightL K (L.drop (i + 1)) (i + 1) by rw [G2.out, ST.out, if_neg h100, if_neg h8, if_neg (by simp)])
            go_wp2_with fail
            refine (co.out _ K4.out).mono ?_
            rintro e w5 ⟨rfl, hK⟩
            have K5 := Lib.hid hK
            clear hK
            go_wp2_with fail
            go_roundw
            case rel => exact ⟨i + 1, by go_num, by omega, e1.out, K3.out.trans K5.out fun _ _ => id⟩
            case measure => simp [intOf]; omega
    · obtain rfl : i = n := by omega
      have b1 : ¬ (i : Int) < (i : Int) := by omega
      have e1 := Lib.hid (show r = (0, 0) by rw [G1.out, List.drop_of_length_le (by rw [hLn'.out]; exact Nat.le_refl _)]; rfl)
      go_wp2_with fail
      go_ret2
      exact ⟨by rw [e1.out]; rfl, K2.out.trans K3.out fun _ _ => id⟩
end Go.Proofs.YtcdlchcmidfhiaaGreatDoor

namespace Go.Proofs.YtcdlchcmidfhiaaGreatDoor
open Go.RowKit Go.Extern.Stop Go.Stop Go.Extern

/-! ### plainly -/
def deepL (L : List Ln) : Nat := L.foldl (fun m l => max m l.d) 0
theorem deepL_snoc (L : List Ln) (l : Ln) : deepL (L ++ [l]) = max (deepL L) l.d := by simp [deepL]
theorem fold_ge (L : List Ln) : ∀ m : Nat, m ≤ L.foldl (fun m l => max m l.d) m ∧ (∀ l ∈ L, l.d ≤ L.foldl (fun m l => max m l.d) m) ∧ ∀ M : Nat, m ≤ M → (∀ l ∈ L, l.d ≤ M) → L.foldl (fun m l => max m l.d) m ≤ M := by
  induction L with
  | nil => intro m; exact ⟨Nat.le_refl _, (fun l h => absurd h List.not_mem_nil), fun M h _ => h⟩
  | cons x t ih =>
    intro m
    obtain ⟨h1, h2, h3⟩ := ih (max m x.d)
    refine ⟨Nat.le_trans (Nat.le_max_left _ _) h1, fun l hl => ?_, fun M hm hl => h3 M (Nat.max_le.2 ⟨hm, hl x (by simp)⟩) fun l h => hl l (List.mem_cons_of_mem _ h)⟩
    rcases List.mem_cons.1 hl with rfl | hl
    · exact Nat.le_trans (Nat.le_max_right _ _) h1
    · exact h2 l hl
theorem deepL_lin (F : Fo) : deepL (lin F 1) = F.deep := by
  obtain ⟨_, h2, h3⟩ := fold_ge (lin F 1) 0
  have u := h3 F.deep (Nat.zero_le _) fun l hl => by have := (lin_deep F 1 l hl).2; omega
  refine Nat.le_antisymm u ?_
  rcases Nat.eq_zero_or_pos F.deep with h | h
  · omega
  · obtain ⟨l, hl, e⟩ := lin_deepest F 1 h
    have := h2 l hl
    unfold deepL
    omega
theorem deepL_le {F : Fo} {i : Nat} : deepL ((lin F 1).take i) ≤ F.deep := by
  obtain ⟨_, _, h3⟩ := fold_ge ((lin F 1).take i) 0
  exact h3 F.deep (Nat.zero_le _) fun l hl => by have := (lin_deep F 1 l (List.mem_of_mem_take hl)).2; omega

end Go.Proofs.YtcdlchcmidfhiaaGreatDoor
