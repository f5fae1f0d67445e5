/-
  sets: take, Keep, Back by contract.
-/
import Derived.Test.YtkolkimmhlmlgaaDoorStTake
import Derived.Deep.RegionHeld3
import Derived.Deep.CutRange
import Derived.Deep.CutBlock
import Derived.Test.YtkolkimmhlmlgaaDoorWdTail
namespace Go.Proofs.YtkolkimmhlmlgaaDoor
open Go.RowKit Go.Maps Go.Extern.Stop Go.Stop Go.Extern

/-- A mark and all behind it are taken: bl: its log's block; l1: the blocks of those ahead. -/
structure Took (w w' : World) (s pb wb : Nat) (vr vm : Value) (l1 : List Nat) (bl : Nat) (u : Lg) (vm' : Value) : Prop where
  blk : Whole w' s 58 #[vr, .map (some pb), .map (some wb), vm']
  marks : undoK.Row w' vm' l1
  log : HoldsM Tryd.prog 23 bE w' bl u
  own : ∀ g, vm'.ownBlock = some g → vm.ownBlock = some g
  keeps : Keeps (fun x => x = s ∨ x = bl ∨ vm.ownBlock = some x) w w'

theorem mrg_few : ∀ {us : List Lg} {u : Lg} {N : Nat}, Few N u → (∀ v ∈ us, Few 500 v) → Few (N + 500 * us.length) (mrg u us)
  | [], _, _, h, _ => h
  | v :: vs, u, N, h, hv => by
    have := mrg_few (us := vs) (h.merge (hv v (by simp))) fun x hx => hv x (List.mem_cons_of_mem _ hx)
    exact this.mono (by simp; omega)

set_option maxRecDepth 100000 in
set_option maxHeartbeats 1000000 in
theorem take_any {w : World} {s pb wb : Nat} {vr vm : Value} {l1 l2 : List Nat} {bl : Nat} {g1 g2 : List Lg} {u : Lg} {A : AS} {X : Nat → Prop} (h : PSt w s pb wb vr vm (l1 ++ bl :: l2) (g1 ++ u :: g2) A X) (hl : l1.length = g1.length) (m : Nat) (hm : l1.length + 1 = m) :
    Calls Tryd.prog 36 #[.pointer (some ⟨s, 0, none⟩), .int .i64 m] w fun e w' => e = .returned (.map (some bl)) ∧ ∃ vm', Took w w' s pb wb vr vm l1 bl (mrg u g2) vm' := by
  have hl2 : l2.length = g2.length := by have := h.len; simp at this; omega
  obtain ⟨o, cap, rfl, ho⟩ := row_shape h.marks
  obtain ⟨n, hn⟩ : ∃ n, (l1 ++ bl :: l2).length = n := ⟨_, rfl⟩
  have hn2 : m + l2.length = n := by rw [← hn]; simp; omega
  obtain ⟨g, rfl⟩ := ho (by rw [hn]; omega)
  have c3 : w.cell? ⟨s, 3, none⟩ = some (.slice (some ⟨g, 0, none⟩) n cap) := by rw [← hn]; exact h.blk.at_ 3
  have hcap : n ≤ cap := by
    rcases h.marks.2 with ⟨hv, _⟩ | ⟨g', cap', cur, hv, hb, hg, r1, r2, _⟩
    · cases hv
    · injection hv with _ _ hc
      rw [hc, ← hn]; exact r1
  have hmax : n ≤ 20 := by have := h.mlen; have := h.ok.mfew; omega
  have hrow := Lib.hid h.marks
  have cell : ∀ k b, (l1 ++ bl :: l2)[k]? = some b → w.cell? ⟨g, k, none⟩ = some (.map (some b)) := fun k b hb => by
    have hlt : k < (l1 ++ bl :: l2).length := by
      rcases Nat.lt_or_ge k (l1 ++ bl :: l2).length with h | h
      · exact h
      · rw [List.getElem?_eq_none h] at hb; cases hb
    rw [h.marks.cellAt k (by omega), List.getElem?_map, hb]
    rfl
  have cm : w.cell? ⟨g, m - 1, none⟩ = some (.map (some bl)) := cell _ _ (by rw [List.getElem?_append_right (by omega)]; simp [← hm])
  have hlast : HoldsM Tryd.prog 23 bE w bl u := h.logs l1.length bl u (by simp) (by rw [hl]; simp)
  have hfews := Backs.few h.ok.wfew h.back h.ok.ups
  have hP := Lib.hid h
  have cell' := Lib.hid cell
  have hlast' := Lib.hid hlast
  have hfews' := Lib.hid hfews
  have nsb : ¬ s = bl := fun e => h.blk.ne_map hlast e
  have ngb : ¬ g = bl := fun e => row_ne_map h.marks hlast (by rw [e]; rfl)
  have ngs : ¬ g = s := fun e => row_ne h.marks h.blk (by decide) (by rw [e]; rfl)
  have ls := h.blk.lt
  have lg := (World.ownsRow.lt h.marks g rfl).2
  have wm : IntKind.i64.wrap ((m : Int) - 1) = ((m - 1 : Nat) : Int) := by rw [show (m : Int) - 1 = ((m - 1 : Nat) : Int) by omega]; exact IntWalk.i64_in _ (by omega)
  obtain ⟨i, hi⟩ : ∃ i, m - 1 = i := ⟨_, rfl⟩
  rw [hi] at cm wm
  have him : i + 1 = m := by omega
  have b1 : (i : Int) < (n : Int) := by omega
  have b2 : (m : Int) ≤ (n : Int) := by omega
  have b3 : (n : Int) ≤ (cap : Int) := by omega
  have hn' := Lib.hid hn
  obtain ⟨k2, hk2⟩ : ∃ k, l2.length = k := ⟨_, rfl⟩
  have e5 : n - m = k2 := by omega
  have hk2' := Lib.hid hk2
  clear h ho hlast hfews cell hn hk2
  go_enter Tryd.func36, Tryd.ntmps36
  go_upto_region 2 with fail
  go_cut [21, 22, 23] from 8 (fun a b c wx => ∃ q c2 : Nat, a = .slice (some ⟨g, q, none⟩) k2 c2 ∧ (k2 = 0 ∨ q = m) ∧ b = .int .i64 k2 ∧ c = .int .i64 0 ∧ wx = w)
  case first =>
    go_wp2_with fail
    · go_meet
      case rel => exact ⟨0, 0, rfl, .inl (by omega), rfl, rfl, rfl⟩
    · go_meet
      case rel => exact ⟨m, _, rfl, .inr rfl, rfl, rfl, rfl⟩
  case rest =>
    obtain ⟨q, cq, rfl, hq, rfl, rfl, rfl⟩ := hcut
    go_wp2_with fail
    go_loopw [23] (fun kv wr => ∃ k : Nat, kv = .int .i64 k ∧ k ≤ k2 ∧ HoldsM Tryd.prog 23 bE wr bl (mrg u (g2.take k)) ∧ Keeps (fun y => y = bl) wc wr) (fun kv _ => k2 - (intOf kv).toNat)
    case atStart => exact ⟨0, rfl, Nat.zero_le _, hlast'.out, Keeps.refl _ _⟩
    case round =>
      obtain ⟨k, rfl, hk, hB, hK⟩ := hrel
      have B1 := Lib.hid hB
      have K1 := Lib.hid hK
      have cs : wr.cell? ⟨s, 3, none⟩ = some (.slice (some ⟨g, 0, none⟩) n cap) := (hK.cell ls nsb).trans c3
      by_cases hlt : k < k2
      · obtain rfl : q = m := by omega
        obtain ⟨b', hb'⟩ : ∃ b', l2[k]? = some b' := ⟨_, List.getElem?_eq_getElem (by rw [hk2'.out]; exact hlt)⟩
        obtain ⟨v, hv⟩ : ∃ v, g2[k]? = some v := ⟨_, List.getElem?_eq_getElem (by rw [← hl2, hk2'.out]; exact hlt)⟩
        have e1 : (l1 ++ bl :: l2)[q + k]? = some b' := by
          rw [List.getElem?_append_right (by omega), show q + k - l1.length = k + 1 by omega, List.getElem?_cons_succ]; exact hb'
        have e2 : (g1 ++ u :: g2)[q + k]? = some v := by
          rw [List.getElem?_append_right (by omega), show q + k - g1.length = k + 1 by omega, List.getElem?_cons_succ]; exact hv
        have ck : wr.cell? ⟨g, q + k, none⟩ = some (.map (some b')) := (hK.cell lg ngb).trans (cell'.out _ _ e1)
        have nb : ¬ b' = bl := fun e => by
          have h1 := (List.nodup_cons.1 (List.nodup_cons.1 hP.out.once).2).2
          have h2 := (List.nodup_append.1 h1).2.1
          have h3 := (List.nodup_cons.1 h2).1
          exact h3 (e ▸ List.mem_of_getElem? hb')
        have hv' := hP.out.logs _ _ _ e1 e2
        have few1 : Few (500 + 500 * k) (mrg u (g2.take k)) := (mrg_few (us := g2.take k) (hfews'.out u (by simp)) fun x hx => hfews'.out x (by simp [List.mem_of_mem_take hx])).mono (by simp; omega)
        have ca := Lib.hid (add_any hB (hv'.keeps hK nb) nb few1 (hfews'.out v (by simp [List.mem_of_getElem? hv])) (by omega))
        have e6 : mrg u (g2.take (k + 1)) = merge (mrg u (g2.take k)) v := by
          unfold mrg
          rw [List.take_add_one, hv, List.foldl_append]
          rfl
        have e6' := Lib.hid e6
        clear hB hK hb' hv e1 e2 hv' few1 e6
        have b4 : (k : Int) < (k2 : Int) := by omega
        go_wp2_with fail
        refine ca.out.mono ?_
        rintro e w4 ⟨rfl, hB4, hK4⟩
        have B4 := Lib.hid hB4
        have K4 := Lib.hid (K1.out.trans_ hK4)
        clear hB4 hK4
        go_wp2_with fail
        go_roundw
        case rel => exact ⟨k + 1, by go_num, by omega, by rw [e6'.out]; exact B4.out, K4.out⟩
        case measure => simp [intOf]; omega
      · obtain rfl : k = k2 := by omega
        have b4 : ¬ (k : Int) < (k : Int) := by omega
        have e6 : g2.take k = g2 := List.take_of_length_le (by rw [← hl2, hk2'.out]; exact Nat.le_refl _)
        rw [e6] at B1
        clear hB hK
        go_wp2_with fail
        obtain ⟨W3, hW3⟩ : ∃ W, W = wr.drew := ⟨_, rfl⟩
        have d3 : W3.cell? ⟨s, 3, none⟩ = some (.slice (some ⟨g, 0, none⟩) n cap) := by rw [hW3]; exact cs
        have cd3 : Hid (Calls Tryd.prog 45 #[.slice (some ⟨g, 0, none⟩) n cap, .int .i64 i, .int .i64 n] W3 fun e w' => e = .returned (.slice (some ⟨g, 0, none⟩) i cap) ∧ undoK.Row w' (.slice (some ⟨g, 0, none⟩) i cap) ((l1 ++ bl :: l2).take i) ∧ Keeps (fun x => x = g) W3 w') := by
          rw [hW3]
          have hr : undoK.Row wr.drew (.slice (some ⟨g, 0, none⟩) (l1 ++ bl :: l2).length cap) (l1 ++ bl :: l2) := ownsRow_keeps hrow.out K1.out.drew fun g' hg' e => by
            simp [Value.ownBlock] at hg'
            exact ngb (hg'.trans e)
          have cd := delete_any hr rfl i (by rw [hn'.out]; omega)
          rw [hn'.out] at cd
          exact Lib.hid cd
        have K3 := Lib.hid (show Keeps (fun y => y = bl) wc W3 by rw [hW3]; exact K1.out.drew)
        have B3 := Lib.hid (show HoldsM Tryd.prog 23 bE W3 bl (mrg u g2) by rw [hW3]; exact B1.out.keeps ((Keeps.refl (fun _ => False) wr).drew) id)
        subst hW3
        clear cs
        refine AnyT.begin (S := fun V => V.cell? ⟨s, 3, none⟩ = some (.slice (some ⟨g, 0, none⟩) n cap)) (by kernel_rfl) (by first | exact d3 | (rw [← hW3]; exact d3)) (fun hHeld => ?_)
        first
          | (refine AnyT.take (i := 0) (v := ?_) rfl (by kernel_rfl) (fun _ _ _ h => h) (Or.inl ⟨by rfl, ?_⟩) (by assumption) ?_; rotate_left; (· (intro V hSV; (try dsimp only at hSV); (first | (go_simp; done) | (go_simp; with_reducible rfl)))); simp only [Act.put, List.setIfInBounds_toArray, List.set_cons_zero, List.set_cons_succ])
          | (refine AnyT.take (i := 0) (v := undef) rfl (by kernel_rfl) (fun _ _ _ h => h) (Or.inr ⟨by rfl, rfl⟩) (by assumption) ?_; simp only [Act.put, List.setIfInBounds_toArray, List.set_cons_zero, List.set_cons_succ])
        first
          | (refine AnyT.take (i := 1) (v := ?_) rfl (by kernel_rfl) (fun _ _ _ h => h) (Or.inl ⟨by rfl, ?_⟩) (by assumption) ?_; rotate_left; (· (intro V hSV; (try dsimp only at hSV); (first | (go_simp; done) | (go_simp; with_reducible rfl)))); simp only [Act.put, List.setIfInBounds_toArray, List.set_cons_zero, List.set_cons_succ])
          | (refine AnyT.take (i := 1) (v := undef) rfl (by kernel_rfl) (fun _ _ _ h => h) (Or.inr ⟨by rfl, rfl⟩) (by assumption) ?_; simp only [Act.put, List.setIfInBounds_toArray, List.set_cons_zero, List.set_cons_succ])
        first
          | (refine AnyT.take (i := 2) (v := ?_) rfl (by kernel_rfl) (fun _ _ _ h => h) (Or.inl ⟨by rfl, ?_⟩) (by assumption) ?_; rotate_left; (· (intro V hSV; (try dsimp only at hSV); (first | (go_simp; done) | (go_simp; with_reducible rfl)))); simp only [Act.put, List.setIfInBounds_toArray, List.set_cons_zero, List.set_cons_succ])
          | (refine AnyT.take (i := 2) (v := undef) rfl (by kernel_rfl) (fun _ _ _ h => h) (Or.inr ⟨by rfl, rfl⟩) (by assumption) ?_; simp only [Act.put, List.setIfInBounds_toArray, List.set_cons_zero, List.set_cons_succ])
        first
          | (refine AnyT.take (i := 3) (v := ?_) rfl (by kernel_rfl) (fun _ _ _ h => h) (Or.inl ⟨by rfl, ?_⟩) (by assumption) ?_; rotate_left; (· (intro V hSV; (try dsimp only at hSV); (first | (go_simp; done) | (go_simp; with_reducible rfl)))); simp only [Act.put, List.setIfInBounds_toArray, List.set_cons_zero, List.set_cons_succ])
          | (refine AnyT.take (i := 3) (v := undef) rfl (by kernel_rfl) (fun _ _ _ h => h) (Or.inr ⟨by rfl, rfl⟩) (by assumption) ?_; simp only [Act.put, List.setIfInBounds_toArray, List.set_cons_zero, List.set_cons_succ])
        first
          | (refine AnyT.take (i := 4) (v := ?_) rfl (by kernel_rfl) (fun _ _ _ h => h) (Or.inl ⟨by rfl, ?_⟩) (by assumption) ?_; rotate_left; (· (intro V hSV; (try dsimp only at hSV); (first | (go_simp; done) | (go_simp; with_reducible rfl)))); simp only [Act.put, List.setIfInBounds_toArray, List.set_cons_zero, List.set_cons_succ])
          | (refine AnyT.take (i := 4) (v := undef) rfl (by kernel_rfl) (fun _ _ _ h => h) (Or.inr ⟨by rfl, rfl⟩) (by assumption) ?_; simp only [Act.put, List.setIfInBounds_toArray, List.set_cons_zero, List.set_cons_succ])
        first
          | (refine AnyT.take (i := 5) (v := ?_) rfl (by kernel_rfl) (fun _ _ _ h => h) (Or.inl ⟨by rfl, ?_⟩) (by assumption) ?_; rotate_left; (· (intro V hSV; (try dsimp only at hSV); (first | (go_simp; done) | (go_simp; with_reducible rfl)))); simp only [Act.put, List.setIfInBounds_toArray, List.set_cons_zero, List.set_cons_succ])
          | (refine AnyT.take (i := 5) (v := undef) rfl (by kernel_rfl) (fun _ _ _ h => h) (Or.inr ⟨by rfl, rfl⟩) (by assumption) ?_; simp only [Act.put, List.setIfInBounds_toArray, List.set_cons_zero, List.set_cons_succ])
        first
          | (refine AnyT.take (i := 6) (v := ?_) rfl (by kernel_rfl) (fun _ _ _ h => h) (Or.inl ⟨by rfl, ?_⟩) (by assumption) ?_; rotate_left; (· (intro V hSV; (try dsimp only at hSV); (first | (go_simp; done) | (go_simp; with_reducible rfl)))); simp only [Act.put, List.setIfInBounds_toArray, List.set_cons_zero, List.set_cons_succ])
          | (refine AnyT.take (i := 6) (v := undef) rfl (by kernel_rfl) (fun _ _ _ h => h) (Or.inr ⟨by rfl, rfl⟩) (by assumption) ?_; simp only [Act.put, List.setIfInBounds_toArray, List.set_cons_zero, List.set_cons_succ])
        first
          | (refine AnyT.take (i := 7) (v := ?_) rfl (by kernel_rfl) (fun _ _ _ h => h) (Or.inl ⟨by rfl, ?_⟩) (by assumption) ?_; rotate_left; (· (intro V hSV; (try dsimp only at hSV); (first | (go_simp; done) | (go_simp; with_reducible rfl)))); simp only [Act.put, List.setIfInBounds_toArray, List.set_cons_zero, List.set_cons_succ])
          | (refine AnyT.take (i := 7) (v := undef) rfl (by kernel_rfl) (fun _ _ _ h => h) (Or.inr ⟨by rfl, rfl⟩) (by assumption) ?_; simp only [Act.put, List.setIfInBounds_toArray, List.set_cons_zero, List.set_cons_succ])
        first
          | (refine AnyT.take (i := 8) (v := ?_) rfl (by kernel_rfl) (fun _ _ _ h => h) (Or.inl ⟨by rfl, ?_⟩) (by assumption) ?_; rotate_left; (· (intro V hSV; (try dsimp only at hSV); (first | (go_simp; done) | (go_simp; with_reducible rfl)))); simp only [Act.put, List.setIfInBounds_toArray, List.set_cons_zero, List.set_cons_succ])
          | (refine AnyT.take (i := 8) (v := undef) rfl (by kernel_rfl) (fun _ _ _ h => h) (Or.inr ⟨by rfl, rfl⟩) (by assumption) ?_; simp only [Act.put, List.setIfInBounds_toArray, List.set_cons_zero, List.set_cons_succ])
        first
          | (refine AnyT.take (i := 9) (v := ?_) rfl (by kernel_rfl) (fun _ _ _ h => h) (Or.inl ⟨by rfl, ?_⟩) (by assumption) ?_; rotate_left; (· (intro V hSV; (try dsimp only at hSV); (first | (go_simp; done) | (go_simp; with_reducible rfl)))); simp only [Act.put, List.setIfInBounds_toArray, List.set_cons_zero, List.set_cons_succ])
          | (refine AnyT.take (i := 9) (v := undef) rfl (by kernel_rfl) (fun _ _ _ h => h) (Or.inr ⟨by rfl, rfl⟩) (by assumption) ?_; simp only [Act.put, List.setIfInBounds_toArray, List.set_cons_zero, List.set_cons_succ])
        first
          | (refine AnyT.take (i := 10) (v := ?_) rfl (by kernel_rfl) (fun _ _ _ h => h) (Or.inl ⟨by rfl, ?_⟩) (by assumption) ?_; rotate_left; (· (intro V hSV; (try dsimp only at hSV); (first | (go_simp; done) | (go_simp; with_reducible rfl)))); simp only [Act.put, List.setIfInBounds_toArray, List.set_cons_zero, List.set_cons_succ])
          | (refine AnyT.take (i := 10) (v := undef) rfl (by kernel_rfl) (fun _ _ _ h => h) (Or.inr ⟨by rfl, rfl⟩) (by assumption) ?_; simp only [Act.put, List.setIfInBounds_toArray, List.set_cons_zero, List.set_cons_succ])
        first
          | (refine AnyT.take (i := 11) (v := ?_) rfl (by kernel_rfl) (fun _ _ _ h => h) (Or.inl ⟨by rfl, ?_⟩) (by assumption) ?_; rotate_left; (· (intro V hSV; (try dsimp only at hSV); (first | (go_simp; done) | (go_simp; with_reducible rfl)))); simp only [Act.put, List.setIfInBounds_toArray, List.set_cons_zero, List.set_cons_succ])
          | (refine AnyT.take (i := 11) (v := undef) rfl (by kernel_rfl) (fun _ _ _ h => h) (Or.inr ⟨by rfl, rfl⟩) (by assumption) ?_; simp only [Act.put, List.setIfInBounds_toArray, List.set_cons_zero, List.set_cons_succ])
        refine AnyT.ready (rs := [12]) (by kernel_rfl) (by simp) (ReadyT.cons rfl (fun K hK => ?_) ReadyT.nil)
        go_simp
        refine cd3.out.mono ?_
        rintro e w5 ⟨rfl, hR5, hK5⟩
        have R5 := Lib.hid hR5
        have K5 := Lib.hid (show Keeps (fun y => y = bl ∨ y = g) wc w5 from (K3.out.mono (T := fun y => y = bl ∨ y = g) fun _ _ h => .inl h).trans hK5 fun _ _ h => .inr h)
        have hHeld : w5.cell? ⟨s, 3, none⟩ = some (.slice (some ⟨g, 0, none⟩) n cap) := (hK5.cell (Nat.lt_of_lt_of_le ls K3.out.size) (fun (e : s = g) => ngs e.symm)).trans d3
        have B5 := Lib.hid (B3.out.keeps hK5 (fun (e : bl = g) => ngb e.symm))
        have f5 : w5.frozen? ⟨s, 3, none⟩ = false := (hP.out.blk.keeps K5.out (fun e => e.elim nsb (fun e => ngs e.symm))).free 3
        clear hR5 hK5
        go_wp2_with fail
        refine hK.out _ _ (fun _ => hHeld) (fun _ => ?_)
        clear hK K
        try simp only [Act.put, List.setIfInBounds_toArray, List.set_cons_zero, List.set_cons_succ]
        (refine AnyT.take (i := 13) (v := ?_) rfl (by kernel_rfl) (fun _ _ _ h => h) (Or.inl ⟨by rfl, ?_⟩) (by assumption) ?_; rotate_left; (· (intro V hSV; (try dsimp only at hSV); (first | (go_simp; done) | (go_simp; with_reducible rfl)))); simp only [Act.put, List.setIfInBounds_toArray, List.set_cons_zero, List.set_cons_succ])
        (refine AnyT.take (i := 14) (v := ?_) rfl (by kernel_rfl) (fun _ _ _ h => h) (Or.inl ⟨by rfl, ?_⟩) (by assumption) ?_; rotate_left; (· (intro V hSV; (try dsimp only at hSV); (first | (go_simp; done) | (go_simp; with_reducible rfl)))); simp only [Act.put, List.setIfInBounds_toArray, List.set_cons_zero, List.set_cons_succ])
        refine AnyT.ready (rs := [15]) (by kernel_rfl) (by simp) (ReadyT.cons rfl (fun K hK => ?_) ReadyT.nil)
        go_simp
        refine hK.out _ _ (fun h => absurd h (by simp)) (fun _ => ?_)
        clear hK K
        try simp only [Act.put, List.setIfInBounds_toArray, List.set_cons_zero, List.set_cons_succ]
        refine AnyT.done (by kernel_rfl) ?_ _
        go_wp2_with fail
        go_ret
        have ks : Keeps (fun x => x = s) w5 (w5.setCell ⟨s, 3, none⟩ (.slice (some ⟨g, 0, none⟩) i cap)) := (Keeps.refl (fun x => x = s) w5).setCell (p := ⟨s, 3, none⟩) (fun _ => rfl) _
        have e7 : (l1 ++ bl :: l2).take i = l1 := by rw [show i = l1.length by omega]; simp
        have R6 := R5.out
        rw [e7] at R6
        refine ⟨rfl, _, {
          blk := (hP.out.blk.keeps K5.out fun e => e.elim nsb fun e => ngs e.symm).set_ 3 _
          marks := ownsRow_keeps R6 ks fun g' hg' e => by
            simp [Value.ownBlock] at hg'
            exact ngs (hg'.trans e)
          log := B5.out.keeps ks fun e => nsb e.symm
          own := fun g' hg' => hg'
          keeps := (K5.out.mono fun x _ hx => ?_).trans ks fun x _ hx => .inl hx }⟩
        rcases hx with hx | hx
        · exact .inr (.inl hx)
        · exact .inr (.inr (by rw [hx]; rfl))
end Go.Proofs.YtkolkimmhlmlgaaDoor
