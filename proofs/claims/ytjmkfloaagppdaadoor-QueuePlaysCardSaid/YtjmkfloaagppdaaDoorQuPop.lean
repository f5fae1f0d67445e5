/-
  queue: (*line).Pop by contract.
-/
import Derived.Test.YtjmkfloaagppdaaDoorQuPush
namespace Go.Proofs.YtjmkfloaagppdaaDoor
open Go.RowKit Go.Extern.Stop Go.Stop Go.Extern

theorem TRow.cap {w : World} {g c : Nat} {l : List Tm} (h : TRow w (.slice (some ⟨g, 0, none⟩) l.length c) l) : l.length ≤ c ∧ c ≤ maxLen := by
  rcases h.2 with ⟨h', _⟩ | ⟨g', cap', cur, h', _, hg, hnc, hcm, _⟩
  · simp at h'
  · simp only [Value.slice.injEq, Option.some.injEq, Addr.mk.injEq, and_true, true_and] at h'
    obtain ⟨rfl, rfl⟩ := h'
    exact ⟨hnc, hcm⟩

/-- A row without its last timer. -/
theorem TRow.init {w : World} {g c n : Nat} {l : List Tm} {t : Tm} (h : TRow w (.slice (some ⟨g, 0, none⟩) (l ++ [t]).length c) (l ++ [t])) (hn : l.length = n) : TRow w (.slice (some ⟨g, 0, none⟩) n c) l := by
  subst hn
  refine ⟨tmCells_len l, ?_⟩
  rcases h.2 with ⟨h', _⟩ | ⟨g', cap', cur, h', hb, hg, hnc, hcm, hcs, htake⟩
  · simp at h'
  · simp only [Value.slice.injEq, Option.some.injEq, Addr.mk.injEq, and_true, true_and] at h'
    obtain ⟨rfl, rfl⟩ := h'
    rw [List.length_append, List.length_singleton] at hnc htake
    refine .inr ⟨g, c, cur, rfl, hb, hg, by omega, hcm, hcs, ?_⟩
    rw [tmCells_app] at htake
    have e := congrArg (List.take (l.length * 2)) htake
    rw [List.take_take, Nat.min_eq_left (by omega), List.take_left' (tmCells_len l)] at e
    exact e

theorem Pos.init {f : Int → Option Pl} {l : List Tm} {t : Tm} (h : Pos f (l ++ [t])) (few : (l ++ [t]).length ≤ 200) : Pos (clr f t.2) l := by
  have e : ∀ k, k < l.length → at_ (l ++ [t]) k = at_ l k := fun k hk => at_eq (by rw [List.getElem?_append_left hk]; exact at_some hk)
  have e0 : at_ (l ++ [t]) l.length = t := at_eq (by simp)
  have hlen : (l ++ [t]).length = l.length + 1 := by simp
  intro id k
  by_cases c : id = t.2
  · subst c
    simp only [clr, if_true]
    constructor
    · intro hk; cases hk
    · rintro ⟨h1, h2⟩
      have := h.once few (i := k.val) (j := l.length) (by omega) (by omega) (by rw [e _ h1, e0]; exact h2)
      omega
  · simp only [clr, if_neg c]
    rw [h id k]
    constructor
    · rintro ⟨h1, h2⟩
      rcases Nat.lt_or_ge k.val l.length with h3 | h3
      · exact ⟨h3, by rw [← e _ h3]; exact h2⟩
      · have h4 : k.val = l.length := by omega
        rw [h4, e0] at h2
        exact absurd h2.symm c
    · rintro ⟨h1, h2⟩
      exact ⟨by omega, by rw [e _ h1]; exact h2⟩

/-- Behind the store of the shorter slice and the delete of the key. -/
theorem pop_line {w W V : World} {q mb g n c : Nat} {f : Int → Option Pl} {l : List Tm} {X : Nat → Prop} {t : Tm} (h : LineP w q mb (.slice (some ⟨g, 0, none⟩) (l ++ [t]).length c) f (l ++ [t]) X) (hn : l.length = n)
    (k1 : Keeps (fun _ => False) w W) (kV : Keeps (fun x => x = mb) (W.setCell ⟨q, 0, none⟩ (.slice (some ⟨g, 0, none⟩) n c)) V) (hM : HoldsM Tryd.prog 3 plE V mb (clr f t.2)) : Line V q l X ∧ Keeps X w V := by
  have h1 := h.keeps k1 fun _ _ => id
  have nq : ¬ q = mb := h.blk.ne_map h.map
  have hgq : ¬ g = q := fun e => row_ne h.row h.blk (by decide) (by rw [e]; rfl)
  have hgm : ¬ g = mb := fun e => row_ne_map h.row h.map (by rw [e]; rfl)
  have kS : Keeps (fun x => x = q) W (W.setCell ⟨q, 0, none⟩ (.slice (some ⟨g, 0, none⟩) n c)) := (Keeps.refl (fun x => x = q) W).setCell (p := ⟨q, 0, none⟩) (fun _ => rfl) _
  have b1 := h1.blk.set_ 0 (.slice (some ⟨g, 0, none⟩) n c)
  have r1 := TRow.init h1.row hn
  have kk : Keeps X w V := (((k1.mono fun _ _ => False.elim : Keeps X w W).trans kS fun x _ e => by subst e; exact h.inX.1).trans kV fun x _ e => by subst e; exact h.inX.2.1)
  refine ⟨⟨mb, .slice (some ⟨g, 0, none⟩) n c, clr f t.2, { blk := (by simpa using b1 : Whole _ q _ _).keeps kV nq, row := ?_, map := hM, pos := h.pos.init h.few, few := ?_, wf := fun x hx => h.wf x (List.mem_append_left _ hx), inX := ⟨h.inX.1, h.inX.2.1, fun x hx => h.inX.2.2 x hx⟩, old := fun x hx => Nat.lt_of_lt_of_le (h.old x hx) kk.size }⟩, kk⟩
  · exact ownsRow_keeps (ownsRow_keeps r1 kS fun x hx e => by simp [Value.ownBlock] at hx; exact hgq (hx.trans e)) kV fun x hx e => by simp [Value.ownBlock] at hx; exact hgm (hx.trans e)
  · have := h.few
    simp at this
    omega

set_option maxRecDepth 100000 in
theorem line_pop {w : World} {q : Nat} {l : List Tm} {t : Tm} {X : Nat → Prop} (h : Line w q (l ++ [t]) X) :
    Calls Tryd.prog 98 #[.pointer (some ⟨q, 0, none⟩)] w fun e w' => e = .returned (.iface 31 (tmVal t)) ∧ Line w' q l X ∧ Keeps X w w' := by
  obtain ⟨mb, v, f, h⟩ := h
  obtain ⟨g, c, rfl⟩ := TRow.form h.row (by simp)
  have few := h.few
  obtain ⟨n, hn⟩ : ∃ n, l.length = n := ⟨_, rfl⟩
  have hn1 : (l ++ [t]).length = n + 1 := by simp [hn]
  have e0 : at_ (l ++ [t]) n = t := at_eq (by rw [← hn]; simp)
  have c0 : w.cell? ⟨q, 0, none⟩ = some (.slice (some ⟨g, 0, none⟩) (n + 1) c) := by rw [← hn1]; exact h.blk.at_ 0
  have c1 : w.cell? ⟨q, 1, none⟩ = some (.map (some mb)) := h.blk.at_ 1
  have c2 := TRow.when h.row n (by omega)
  have c3 := TRow.id h.row n (by omega)
  rw [e0] at c2 c3
  have wt := (h.wf t (by simp)).2
  have h' := Lib.hid h
  rw [hn1] at few
  clear h
  have hcap := TRow.cap h'.out.row
  rw [hn1] at hcap
  have hc1 : n ≤ c := by omega
  have hc2 : (n : Int) ≤ (c : Int) := by omega
  obtain ⟨W, hW⟩ : ∃ W, W = w.alloc (.cells #[.int .i64 t.1, .int .i64 t.2] 31) := ⟨_, rfl⟩
  have k1 : Keeps (fun _ => False) w W := by rw [hW]; exact (Keeps.refl _ w).alloc _
  have h1 := h'.out.keeps k1 fun _ _ => id
  have mT : Whole W w.heap.size 31 #[.int .i64 t.1, .int .i64 t.2] := by rw [hW]; exact Whole.made _ _ _
  have a0 : (w.alloc (.cells #[.int .i64 t.1, .int .i64 t.2] 31)).cell? ⟨q, 0, none⟩ = some (.slice (some ⟨g, 0, none⟩) (n + 1) c) := by rw [← hW, ← hn1]; exact h1.blk.at_ 0
  have a1 : (w.alloc (.cells #[.int .i64 t.1, .int .i64 t.2] 31)).frozen? ⟨q, 0, none⟩ = false := by rw [← hW]; exact h1.blk.free 0
  obtain ⟨W3, hW3⟩ : ∃ V, V = ((w.alloc (.cells #[.int .i64 t.1, .int .i64 t.2] 31)).setCell ⟨q, 0, none⟩ (.slice (some ⟨g, 0, none⟩) n c)).drew := ⟨_, rfl⟩
  have hqb : ¬ w.heap.size = q := by have := h'.out.blk.lt; omega
  have hmb : ¬ w.heap.size = mb := by have := h'.out.map.lt; omega
  have kS : Keeps (fun x => x = q) W W3 := by rw [hW3, hW]; exact ((Keeps.refl (fun x => x = q) _).setCell (p := ⟨q, 0, none⟩) (fun _ => rfl) _).drew
  have mT3 : Whole W3 w.heap.size 31 #[.int .i64 t.1, .int .i64 t.2] := mT.keeps kS hqb
  have b3 : Whole W3 q 59 #[.slice (some ⟨g, 0, none⟩) n c, .map (some mb)] := by rw [hW3, ← hW]; have := h1.blk.set_ 0 (.slice (some ⟨g, 0, none⟩) n c); exact (by simpa using this : Whole _ q _ _).drew
  have m3 := Lib.hid (h1.map.keeps kS fun e => h'.out.blk.ne_map h'.out.map e.symm)
  have d1 : W3.cell? ⟨q, 1, none⟩ = some (.map (some mb)) := b3.at_ 1
  have d2 : W3.cell? ⟨w.heap.size, 1, none⟩ = some (.int .i64 t.2) := mT3.at_ 1
  have h1' := Lib.hid h1
  have k1' := Lib.hid k1
  have mT' := Lib.hid mT3
  have hW3' := Lib.hid hW3
  have hmb' := Lib.hid hmb
  have hW' := Lib.hid hW
  have hn' := Lib.hid hn
  clear h1 k1 mT mT3 b3 kS hW3 hW hn hn1 hcap e0 hmb hqb
  unfold tmVal
  go_enter Tryd.func98, Tryd.ntmps98
  go_wp2_with fail
  refine still_tail_at 6 (by kernel_rfl) (by kernel_rfl) W3 hW3'.out ?_
  simp only [List.take_succ_cons, List.take_zero, List.drop_succ_cons, List.drop_zero]
  repeat still_step
  refine wpStill_nil ?_
  clear d1 d2 a0 a1
  have stay := fun (V : World) (hG : W3.grownBy V (some mb)) => mT'.out.keeps (Keeps.of_grown hG) hmb'.out
  have stay' := Lib.hid stay
  clear stay
  go_wp2_with (first | (at_delete; refine wpList_drop _ rfl _ _ 55 3 rfl 3 plE Tryd.underlying3 Tryd.underlying55 mb f rfl m3.out t.2 rfl wt ?_; intro V hM2 hG2; have M2 := Lib.hid hM2; have mV := stay'.out V hG2; have z1 : V.cell? ⟨w.heap.size, 0, none⟩ = some (.int .i64 t.1) := mV.at_ 0; have z2 : V.cell? ⟨w.heap.size, 1, none⟩ = some (.int .i64 t.2) := mV.at_ 1; have K2 := Lib.hid (Keeps.of_grown hG2); clear hM2 hG2 mV))
  go_ret
  have hp := pop_line h'.out hn'.out k1'.out (V := V) (by rw [hW'.out]; have := K2.out; rw [hW3'.out] at this; exact ((Keeps.refl _ _).drew).trans_ this) M2.out
  exact ⟨rfl, hp⟩
end Go.Proofs.YtjmkfloaagppdaaDoor
