/-
  The document's state: set (a collection is another list), by contract.
-/
import Derived.Test.YtnlogilbiifmiaaDoorMoRef
namespace Go.Proofs.YtnlogilbiifmiaaDoor
open Go.RowKit Go.Maps Go.Extern.Stop Go.Stop Go.Extern

/-- Set: what it leaves. B: from there on the list's block may lie. -/
def RSet (w w' : World) (r : Nat) (A : M8) (Y : Nat → Prop) (B : Nat) : Prop := ∃ Y', RM w' r A Y' ∧ (∀ x, Y' x → Y x ∨ B ≤ x) ∧ Keeps (fun x => x = r) w w'

set_option maxRecDepth 100000 in
theorem rset8 {w : World} {r : Nat} {A : M8} {Y : Nat → Prop} (h : RM w r A Y) (ok : A.Ok) {k : Nat} (hk : k < A.L.length) {v : Sl8} {W : Tl} (hv : PRow w (slv8 v) W) {B : Nat} (hB : B ≤ w.heap.size) (hown : ∀ g, (slv8 v).ownBlock = some g → B ≤ g) :
    Calls Tryd.prog 53 #[.pointer (some ⟨r, 0, none⟩), .int .i64 (k : Int), slv8 v] w fun e w' => e = .returned (.tuple #[]) ∧ RSet w w' r (A.setC (k : Int) W) Y B := by
  obtain ⟨vK, vL, ws, h⟩ := h
  have hP := Lib.hid h
  obtain ⟨n, hn⟩ : ∃ n, ws.length = n := ⟨_, rfl⟩
  obtain ⟨o, cap, rfl, ho⟩ := lrow_cells h.lists hn
  have few := ok.few
  have hl := h.len
  have km : (k : Int) < (n : Int) := by omega
  have kn : k < n := by omega
  have n8 : n ≤ 8 := by omega
  obtain ⟨g, rfl, _⟩ := ho (by omega)
  have S1 := Lib.hid (fun V (K : Keeps (fun _ => False) w V) => (⟨(h.blk.keeps K id).at_ 1, (h.blk.keeps K id).free 1, h.blk.keeps K id⟩ : V.cell? ⟨r, 1, none⟩ = some (.slice (some ⟨g, 0, none⟩) n cap) ∧ V.frozen? ⟨r, 1, none⟩ = false ∧ Whole V r 69 #[vK, .slice (some ⟨g, 0, none⟩) n cap]))
  have k1 : Keeps (fun _ => False) w (w.alloc (.cells #[] 45)) := (Keeps.refl _ w).alloc _
  have M0 := Lib.hid (show Mine listK w (w.alloc (.cells #[] 45)) (.slice (some ⟨w.heap.size, 0, none⟩) 0 0) [] from ⟨row_none listK (Whole.made w _ _) rfl, fun g hg => by simp [Value.ownBlock] at hg; omega⟩)
  have R0 := Lib.hid (show listK.Row (w.alloc (.cells #[] 45)) (.slice (some ⟨g, 0, none⟩) n cap) ws from ownsRow_keeps h.lists k1 fun _ _ => id)
  have k1' := Lib.hid k1
  have c1 := (S1.out _ k1).1
  obtain ⟨v1, v2, v3⟩ := v
  have hn' := Lib.hid hn
  have fin : ∀ (V : World) (g' c' : Nat), Mine listK w V (.slice (some ⟨g', 0, none⟩) n c') ws → Keeps (fun _ => False) w V → RSet w ((V.setCell ⟨g', k, none⟩ (slv8 (v1, v2, v3))).setCell ⟨r, 1, none⟩ (.slice (some ⟨g', 0, none⟩) n c')) r (A.setC (k : Int) W) Y B := fun V g' c' hM kV => by
    obtain ⟨hM1, hM2⟩ := hM
    have hg' : w.heap.size ≤ g' := hM2 g' rfl
    have hr := hP.out.blk.lt
    obtain ⟨V2, hV2⟩ : ∃ V2, V2 = V.setCell ⟨g', k, none⟩ (slv8 (v1, v2, v3)) := ⟨_, rfl⟩
    have kV2 : Keeps (fun _ => False) w V2 := by rw [hV2]; exact kV.setCell (fun h => by have : g' < w.heap.size := h; omega) _
    have hM' : (V.setCell ⟨g', k, none⟩ (slv8 (v1, v2, v3))).ownsRow 0 listK.e listK.size (.slice (some ⟨g', 0, none⟩) n c') n ((listK.cs ws).set k (slv8 (v1, v2, v3))) := by
      have := hM1
      unfold RK.Row at this
      rw [hn'.out] at this
      exact (this.stored k _).1
    have hcs : (listK.cs ws).set k (slv8 (v1, v2, v3)) = listK.cs (ws.set k (v1, v2, v3)) := by
      show (ws.map slv8).set k _ = (ws.set k _).map slv8
      rw [List.map_set]
    rw [hcs] at hM'
    rw [← hV2] at hM' ⊢
    obtain ⟨V3, hV3⟩ : ∃ V3, V3 = V2.setCell ⟨r, 1, none⟩ (.slice (some ⟨g', 0, none⟩) n c') := ⟨_, rfl⟩
    have ks : Keeps (fun x => x = r) V2 V3 := by rw [hV3]; exact (Keeps.refl (fun x => x = r) V2).setCell (p := ⟨r, 1, none⟩) (fun _ => rfl) _
    rw [← hV3]
    have kk : Keeps (fun x => x = r) w V3 := (kV2.mono fun _ _ => False.elim).trans ks fun _ _ e => e
    have nrow : ∀ {t : TypeId} {size : Nat} {v : Value} {m : Nat} {xs : List Value}, w.ownsRow 0 t size v m xs → t ≠ 69 → ∀ g, v.ownBlock = some g → ¬ g = r := fun hv n2 g hg e => row_ne hv hP.out.blk n2 (by rw [hg, e])
    have hlen : (ws.set k (v1, v2, v3)).length = n := by rw [List.length_set]; exact hn'.out
    refine ⟨fun y => Y y ∨ y = g' ∨ (slv8 (v1, v2, v3)).ownBlock = some y, ⟨vK, _, ws.set k (v1, v2, v3), {
      blk := by rw [hV3]; exact (hP.out.blk.keeps kV2 id).set_ 1 _
      kinds := ownsRow_keeps hP.out.kinds kk (nrow hP.out.kinds (by decide))
      lists := by
        show World.ownsRow _ _ _ _ _ (ws.set k (v1, v2, v3)).length _
        rw [hlen]
        exact ownsRow_keeps hM' ks fun x hx e => by
          simp [Value.ownBlock] at hx
          omega
      len := by rw [hlen, ← hn'.out, hP.out.len]; simp [M8.setC]
      each := fun j u m hu hm => by
        have hm' : (A.L.set k W)[j]? = some m := by simpa [M8.setC] using hm
        by_cases e : j = k
        · subst e
          have h1 : (v1, v2, v3) = u := by
            have := List.getElem?_set_self (l := ws) (a := ((v1, v2, v3) : Sl8)) (i := j) (by rw [hn'.out]; exact kn)
            rw [this] at hu
            exact Option.some.inj hu
          have h2 : W = m := by
            have := List.getElem?_set_self (l := A.L) (a := W) (i := j) hk
            rw [this] at hm'
            exact Option.some.inj hm'
          subst h1 h2
          exact ownsRow_keeps hv kk (nrow hv (by decide))
        · rw [List.getElem?_set_ne (fun h => e h.symm)] at hu hm'
          exact ownsRow_keeps (hP.out.each j u m hu hm') kk (nrow (hP.out.each j u m hu hm') (by decide))
      inY := ⟨.inl hP.out.inY.1, fun x hx => .inl (hP.out.inY.2.1 x hx), fun x hx => .inr (.inl (by simp [Value.ownBlock] at hx; omega)), fun u hu x hx => by
        rcases List.mem_or_eq_of_mem_set hu with h | h
        · exact .inl (hP.out.inY.2.2.2 u h x hx)
        · subst h; exact .inr (.inr hx)⟩
      old := fun y hy => by
        rcases hy with hy | hy | hy
        · exact Nat.lt_of_lt_of_le (hP.out.old y hy) kk.size
        · rw [hy]; exact (World.ownsRow.lt (ownsRow_keeps hM' ks fun x hx e => by simp [Value.ownBlock] at hx; omega) g' rfl).2
        · exact Nat.lt_of_lt_of_le (World.ownsRow.lt hv y hy).2 kk.size }⟩, fun y hy => ?_, kk⟩
    rcases hy with hy | hy | hy
    · exact .inl hy
    · exact .inr (by rw [hy]; omega)
    · exact .inr (hown y hy)
  have FIN := Lib.hid fin
  clear fin h hl few ho hk hv hown hn k1
  have hr := hP.out.blk.lt
  simp only [slv8] at FIN ⊢
  go_enter Tryd.func53, Tryd.ntmps53
  go_wp2_with (first
    | (at_builtin; refine wpList_append_row listK rfl _ _ rfl w _ [] ws rfl M0.out k1'.out _ rfl R0.out n (by rw [List.length_nil, Nat.zero_add]; exact hn'.out) (by omega) ?_; intro ao ac w2 hM hK _; obtain ⟨g2, rfl, hg2⟩ := mine_some hM hn'.out (by omega); have M2 := Lib.hid hM; have K2 := Lib.hid hK; obtain ⟨e0, e1⟩ := mine_cell hM hn'.out k (by show k < n * 1; omega); rw [show (listK.cs ([] ++ ws))[k]? = some (slv8 (ws[k]'(by rw [hn'.out]; exact kn))) from (by show (ws.map slv8)[k]? = _; rw [List.getElem?_map, List.getElem?_eq_getElem (by rw [hn'.out]; exact kn)]; rfl)] at e0; obtain ⟨f1, f2, _⟩ := S1.out w2 hK; have hne : ¬ g2 = r := (by omega); have hne' : ¬ r = g2 := (by omega); clear hM hK))
  go_end0
  exact ⟨rfl, FIN.out _ _ _ M2.out K2.out⟩
end Go.Proofs.YtnlogilbiifmiaaDoor
