/-
  sets: note, Write by contract.
-/
import Derived.Test.YtkolkimmhlmlgaaDoorStRead
namespace Go.Proofs.YtkolkimmhlmlgaaDoor
open Go.RowKit Go.Maps Go.Extern.Stop Go.Stop Go.Extern

theorem len_map {w : World} {b : Nat} {f : Int → Option Int} (h : HoldsM Tryd.prog 23 uE w b f) {l : List Int} (hl : Keys f l) {n : Nat} (hn : l.length = n) (ty : TypeId) :
    (Builtin.len_ #[55] ty #[.map (some b)]).run Tryd.prog w = .ok (.int .i64 (n : Int)) w := by
  obtain ⟨D, nn, h1, _, h3⟩ := h
  have hs := HoldsM.size_eq Tryd.underlying23 h1 h3 l hl.1 hl.2
  have hrun := h1.len Tryd.underlying55 ty
  rw [hs, hn] at hrun
  exact hrun

set_option maxRecDepth 100000 in
theorem note_any {w : World} {b : Nat} {u : Lg} (h : HoldsM Tryd.prog 23 bE w b u) {N : Nat} (few : Few N u) (hN : N < 1000000) (c : Int) (hc : wfU c) (x : Bef) :
    Calls Tryd.prog 37 #[.map (some b), .int .u64 c, .agg #[.int .u64 x.1, .bool x.2]] w fun e w' => e = .returned (.tuple #[]) ∧ HoldsM Tryd.prog 23 bE w' b (note u c x) ∧ Keeps (fun y => y = b) w w' := by
  obtain ⟨l, hl1, hl2⟩ := few
  have lb := h.lt
  have h1 := Lib.hid (h.of_block (w' := w.alloc (.cells #[.int .u64 x.1, .bool x.2] 83)) (Below.heap_alloc w _ b lb))
  have m1 := Whole.made w 83 #[.int .u64 x.1, .bool x.2]
  have hlm : l.length < maxLen := by unfold maxLen; omega
  have hl' := Lib.hid hl2
  have h' := Lib.hid h
  cases hu : u c with
  | some y =>
    have e1 : note u c x = u := by unfold note; rw [hu]; rfl
    have hu' := Lib.hid hu
    have e1' := Lib.hid e1
    clear h hl2 hu e1
    go_enter Tryd.func37, Tryd.ntmps37
    go_wp2_with (first | (at_lookup; refine wpList_look_ok _ rfl _ _ _ rfl 23 83 bE Tryd.underlying23 Tryd.underlying79 ⟨0, false⟩ (zero_b _) b u rfl h1.out c rfl hc (befVal y) true (by rw [hu'.out]; rfl) (by rw [hu'.out]; rfl) ?_; unfold befVal))
    go_end0
    rw [e1'.out]
    have k2 : Keeps (fun _ => False) w ((w.alloc (.cells #[.int .u64 x.1, .bool x.2] 83)).alloc (.cells #[.int .u64 y.1, .bool y.2] 83)) := ((Keeps.refl _ w).alloc _).alloc _
    exact ⟨rfl, h'.out.keeps k2 id, k2.mono fun _ _ => False.elim⟩
  | none =>
    have e1 : note u c x = upd u c x := by unfold note; rw [hu]; rfl
    have hu' := Lib.hid hu
    have e1' := Lib.hid e1
    clear h hl2 hu e1
    go_enter Tryd.func37, Tryd.ntmps37
    have k2 : Keeps (fun _ => False) w ((w.alloc (.cells #[.int .u64 x.1, .bool x.2] 83)).alloc (.cells #[.int .u64 0, .bool false] 83)) := ((Keeps.refl _ w).alloc _).alloc _
    have h2 := Lib.hid (h'.out.keeps k2 id)
    have k2' := Lib.hid k2
    clear k2
    go_wp2_with (first
      | (at_lookup; refine wpList_look_ok _ rfl _ _ _ rfl 23 83 bE Tryd.underlying23 Tryd.underlying79 ⟨0, false⟩ (zero_b _) b u rfl h1.out c rfl hc (befVal ⟨0, false⟩) false (by rw [hu'.out]; rfl) (by rw [hu'.out]; rfl) ?_; unfold befVal)
      | (at_mapUpdate; refine wpList_upd _ rfl _ _ _ 79 rfl 23 83 bE Tryd.underlying23 Tryd.underlying79 b u rfl h2.out l hl'.out hlm c rfl hc x rfl ?_; intro W4 hM4 hG4; have M4 := Lib.hid hM4; have K4 := Lib.hid (Keeps.of_grown hG4); clear hM4 hG4))
    go_end0
    rw [e1'.out]
    exact ⟨rfl, M4.out, (k2'.out.mono fun _ _ => False.elim).trans_ K4.out⟩

theorem note_few {u : Lg} {N : Nat} (h : Few N u) (c : Int) (x : Bef) : Few (N + 1) (note u c x) := by
  obtain ⟨l, h1, h2⟩ := h
  refine ⟨c :: l, by simp; omega, fun k hk => ?_⟩
  unfold note at hk
  split at hk
  · exact List.mem_cons_of_mem _ (h2 k hk)
  · by_cases e : k = c
    · exact e ▸ List.mem_cons_self ..
    · simp only [upd, if_neg e] at hk
      exact List.mem_cons_of_mem _ (h2 k hk)

/-- Only the map of what is written, and logs, are other ones. -/
theorem PSt.wrote {w w' : World} {s pb wb : Nat} {vr vm : Value} {lb : List Nat} {lg lg' : List Lg} {A A' : AS} {X S : Nat → Prop} (h : PSt w s pb wb vr vm lb lg A X) (k : Keeps S w w') (hS : ∀ x, X x → S x → x = wb ∨ x ∈ lb)
    (writes : HoldsM Tryd.prog 23 uE w' wb (look A'.W)) (len : lb.length = lg'.length) (logs : ∀ (i b : Nat) (u : Lg), lb[i]? = some b → lg'[i]? = some u → HoldsM Tryd.prog 23 bE w' b u) (back : Backs (look A'.W) lg' A'.M)
    (ok : A'.Ok) (hR : A'.R = A.R) : PSt w' s pb wb vr vm lb lg' A' X := by
  have hmap : ∀ x, x = wb ∨ x ∈ lb → ∃ (V : Type) (E : Enc V) (f : Int → Option V), HoldsM Tryd.prog 23 E w x f := fun x hx => by
    rcases hx with rfl | hx
    · exact ⟨_, _, _, h.writes⟩
    · obtain ⟨i, hi, rfl⟩ := List.getElem_of_mem hx
      have := h.len
      exact ⟨_, _, _, h.logs i lb[i] (lg[i]'(by omega)) (List.getElem?_eq_getElem hi) (List.getElem?_eq_getElem (by omega))⟩
  exact {
    blk := h.blk.keeps k fun hs => by
      obtain ⟨V, E, f, hf⟩ := hmap _ (hS _ h.inX.1 hs)
      exact h.blk.ne_map hf rfl
    reads := by
      rw [hR]
      exact ownsRow_keeps h.reads k fun g hg hs => by
        obtain ⟨V, E, f, hf⟩ := hmap _ (hS _ (h.inX.2.2.2.2.1 g hg) hs)
        exact row_ne_map h.reads hf hg
    places := by
      rw [hR]
      refine h.places.keeps k fun hs => ?_
      have := h.once
      rcases hS _ h.inX.2.1 hs with e | e
      · rw [e] at this; simp at this
      · simp [e] at this
    writes := writes
    marks := ownsRow_keeps h.marks k fun g hg hs => by
      obtain ⟨V, E, f, hf⟩ := hmap _ (hS _ (h.inX.2.2.2.2.2 g hg) hs)
      exact row_ne_map h.marks hf hg
    len := len
    logs := logs
    once := h.once
    back := back
    ok := ok
    inX := h.inX
    old := fun x hx => Nat.lt_of_lt_of_le (h.old x hx) k.size }

theorem write_nil (c v : Int) (w : World) :
    Calls Tryd.prog 18 #[.pointer none, .int .u64 c, .int .u64 v] w fun e w' => e = .returned (.iface 77 (.int .i64 1)) ∧ w = w' := by
  go_enter Tryd.func18, Tryd.ntmps18
  go_wp2_with (go_at_call 31; refine (snone_nil _).mono ?_; rintro e w' ⟨rfl, rfl⟩)
  go_ret
  exact ⟨rfl, rfl⟩

theorem look_few {W : Tl} : ∀ k, (look W k).isSome = true → k ∈ W.map (·.1) := fun _ hk => look_mem.1 hk

set_option maxRecDepth 100000 in
set_option maxHeartbeats 1000000 in
theorem write_any {w : World} {s : Nat} {A : AS} {X : Nat → Prop} (h : PS w s A X) (c v : Int) (hc : wfU c) :
    Calls Tryd.prog 18 #[.pointer (some ⟨s, 0, none⟩), .int .u64 c, .int .u64 v] w fun e w' => ∃ ev, e = .returned ev ∧ ErrU w.heap.size w' ev (aWrite A c v).2 0 ∧ Did w w' s (aWrite A c v).1 X := by
  have hok := Lib.hid (aWrite_ok h.ok c v)
  have h' := Lib.hid h
  obtain ⟨pb, wb, vr, vm, lb, lg, h⟩ := h
  have c2 : w.cell? ⟨s, 2, none⟩ = some (.map (some wb)) := h.blk.at_ 2
  have cn := Lib.hid (snone_there w c2)
  have hw := Lib.hid h.writes
  obtain ⟨o, cap, rfl, ho⟩ := row_shape h.marks
  have c3 : w.cell? ⟨s, 3, none⟩ = some (.slice o lb.length cap) := h.blk.at_ 3
  have hkeys := Lib.hid (look_keys h.ok.up)
  have few := h.ok.wfew
  obtain ⟨x, hx⟩ : ∃ x, (look A.W c).getD 0 = x := ⟨_, rfl⟩
  obtain ⟨b, hb⟩ : ∃ b, (look A.W c).isSome = b := ⟨_, rfl⟩
  have htell : tell (look A.W) c = ⟨x, b⟩ := by unfold tell; rw [hx, hb]
  have hx' := Lib.hid hx
  have hb' := Lib.hid hb
  have ht' := Lib.hid htell
  obtain ⟨n, hn⟩ : ∃ n, A.W.length = n := ⟨_, rfl⟩
  have hnk : (A.W.map (·.1)).length = n := by rw [List.length_map]; exact hn
  have hnk' := Lib.hid hnk
  have hlm : (A.W.map (·.1)).length < maxLen := by rw [hnk]; unfold maxLen; omega
  rw [hn] at few
  have hlf := len_map h.writes (look_keys h.ok.up) hnk 3
  by_cases hfull : look A.W c = none ∧ 500 ≤ A.W.length
  · have ea : aWrite A c v = (A, 8) := by unfold aWrite; rw [if_pos hfull]
    have ea' := Lib.hid ea
    have b1 : (500 : Int) ≤ (n : Int) := by omega
    have hbf : b = false := by rw [← hb, hfull.1]; rfl
    subst hbf
    clear h ho ea hx hb hfull hnk hn c3 htell
    go_enter Tryd.func18, Tryd.ntmps18
    go_wp2_with (first
      | (go_at_call 31; refine cn.out.mono ?_; rintro e w' ⟨rfl, rfl⟩)
      | (at_lookup; refine wpList_look_ok _ rfl _ _ _ rfl 23 23 uE Tryd.underlying23 Tryd.underlying55 0 (zero_u _) wb (look A.W) rfl hw.out c rfl hc (.int .u64 x) false (by rw [hx'.out]; rfl) hb'.out ?_))
    go_ret
    refine ⟨_, rfl, ?_⟩
    rw [ea'.out]
    exact ⟨.inr (.inl ⟨(by decide : 1 ≤ 8), (by decide : 8 ≤ 17), rfl, rfl⟩), Did.same h'.out (Keeps.refl _ _)⟩
  · have ea : aWrite A c v = ({ A with W := put A.W c v }, 0) := by unfold aWrite; rw [if_neg hfull]
    have ea' := Lib.hid ea
    have hfit : b = true ∨ (b = false ∧ n < 500) := by
      cases hl : look A.W c with
      | some y => exact .inl (by rw [← hb, hl]; rfl)
      | none => exact .inr ⟨by rw [← hb, hl]; rfl, by rw [← hn]; rcases Nat.lt_or_ge A.W.length 500 with h | h; exact h; exact absurd ⟨hl, h⟩ hfull⟩
    have hP := Lib.hid h
    have hk' := Lib.hid (look_few (W := A.W))
    have h2cells : w.frozen? ⟨s, 2, none⟩ = false := h.blk.free 2
    clear ea hx hb hfull hnk hn htell
    rcases Nat.eq_zero_or_pos lb.length with h0 | h0
    · -- no mark
      obtain rfl : lb = [] := List.eq_nil_of_length_eq_zero h0
      have b2 : ¬ (0 : Int) < ((0 : Nat) : Int) := by omega
      have c3' : w.cell? ⟨s, 3, none⟩ = some (.slice o 0 cap) := c3
      clear h ho c3 h0
      have fin : ∀ w4, HoldsM Tryd.prog 23 uE w4 wb (upd (look A.W) c v) → Keeps (fun y => y = wb) w w4 → Did w w4 s (aWrite A c v).1 X := fun w4 hM hK => by
        have hlg : lg = [] := List.eq_nil_of_length_eq_zero hP.out.len.symm
        have hb0 := hP.out.back
        rw [hlg] at hb0
        rw [ea'.out] at hok ⊢
        refine ⟨X, ⟨pb, wb, vr, _, [], lg, hP.out.wrote hK (fun x _ hx => .inl hx) (by rw [look_put_upd]; exact hM) hP.out.len (fun i b u hb => by simp at hb) (by rw [look_put_upd, hlg]; exact Backs.write0 c v hb0) hok.out rfl⟩, fun x hx => .inl hx, hK.mono fun x _ e => by rw [e]; exact hP.out.inX.2.2.1⟩
      have fin' := Lib.hid fin
      clear fin
      rcases hfit with rfl | ⟨rfl, hlt⟩
      · go_enter Tryd.func18, Tryd.ntmps18
        go_wp2_with (first
        | (go_at_call 31; refine cn.out.mono ?_; rintro e w' ⟨rfl, rfl⟩)
        | (at_lookup; refine wpList_look_ok _ rfl _ _ _ rfl 23 23 uE Tryd.underlying23 Tryd.underlying55 0 (zero_u _) wb (look A.W) rfl hw.out c rfl hc (.int .u64 x) true (by rw [hx'.out]; rfl) hb'.out ?_)
        | (at_mapUpdate; refine wpList_upd _ rfl _ _ _ 55 rfl 23 23 uE Tryd.underlying23 Tryd.underlying55 wb (look A.W) rfl hw.out _ hk'.out hlm c rfl hc v rfl ?_; intro W4 hM4 hG4; have M4 := Lib.hid hM4; have K4 := Lib.hid (Keeps.of_grown hG4); clear hM4 hG4))
        go_ret
        refine ⟨_, rfl, ?_, fin'.out _ M4.out K4.out⟩
        rw [ea'.out]
        exact .inl ⟨rfl, rfl, rfl⟩
      · have b1 : ¬ (500 : Int) ≤ (n : Int) := by omega
        go_enter Tryd.func18, Tryd.ntmps18
        go_wp2_with (first
        | (go_at_call 31; refine cn.out.mono ?_; rintro e w' ⟨rfl, rfl⟩)
        | (at_lookup; refine wpList_look_ok _ rfl _ _ _ rfl 23 23 uE Tryd.underlying23 Tryd.underlying55 0 (zero_u _) wb (look A.W) rfl hw.out c rfl hc (.int .u64 x) false (by rw [hx'.out]; rfl) hb'.out ?_)
        | (at_mapUpdate; refine wpList_upd _ rfl _ _ _ 55 rfl 23 23 uE Tryd.underlying23 Tryd.underlying55 wb (look A.W) rfl hw.out _ hk'.out hlm c rfl hc v rfl ?_; intro W4 hM4 hG4; have M4 := Lib.hid hM4; have K4 := Lib.hid (Keeps.of_grown hG4); clear hM4 hG4))
        go_ret
        refine ⟨_, rfl, ?_, fin'.out _ M4.out K4.out⟩
        rw [ea'.out]
        exact .inl ⟨rfl, rfl, rfl⟩
    · -- the last mark's log notes what the cell had
      obtain ⟨l0, bl, hlb⟩ : ∃ l0 bl, lb = l0 ++ [bl] := by
        rcases List.eq_nil_or_concat lb with h | ⟨l, a, h⟩
        · rw [h] at h0; simp at h0
        · exact ⟨l, a, by rw [h, List.concat_eq_append]⟩
      obtain ⟨g0, u, hlg⟩ : ∃ g0 u, lg = g0 ++ [u] := by
        rcases List.eq_nil_or_concat lg with h' | ⟨l, a, h'⟩
        · have := h.len; rw [h'] at this; simp at this; rw [this] at h0; simp at h0
        · exact ⟨l, a, by rw [h', List.concat_eq_append]⟩
      subst hlb hlg
      have hl0 : l0.length = g0.length := by have := h.len; simpa using this
      obtain ⟨m, hm⟩ : ∃ m, l0.length = m := ⟨_, rfl⟩
      obtain ⟨g, rfl⟩ := ho h0
      have e1 : (l0 ++ [bl]).length = m + 1 := by simp [hm]
      have cm : w.cell? ⟨g, m, none⟩ = some (.map (some bl)) := by
        have hmk := h.marks
        rw [hmk.cellAt m (by rw [e1]; omega), List.getElem?_map, List.getElem?_append_right (by omega)]
        simp [hm]
      have hlast : HoldsM Tryd.prog 23 bE w bl u := h.logs m bl u (by rw [List.getElem?_append_right (by omega)]; simp [hm]) (by rw [List.getElem?_append_right (by omega)]; simp [← hl0, hm])
      have hfew := Backs.few h.ok.wfew h.back h.ok.ups u (by simp)
      have cnt := Lib.hid (note_any hlast hfew (by decide) c hc ⟨x, b⟩)
      have nwb : ¬ wb = bl := fun e => by have := h.once; rw [e] at this; simp at this
      have nsb : ¬ s = bl := fun e => h.blk.ne_map hlast e
      have hmax : m ≤ 20 := by have := h.mlen; have := h.ok.mfew; omega
      rw [e1] at c3
      have b2 : (0 : Int) < (m : Int) + 1 := by omega
      have b3 : (m : Int) < (m : Int) + 1 := by omega
      have ls : s < w.heap.size := h.blk.lt
      have fin : ∀ w3 w4, HoldsM Tryd.prog 23 bE w3 bl (note u c ⟨x, b⟩) → Keeps (fun y => y = bl) w w3 → HoldsM Tryd.prog 23 uE w4 wb (upd (look A.W) c v) → Keeps (fun y => y = wb) w3 w4 → Did w w4 s (aWrite A c v).1 X := fun w3 w4 hB kB hM hK => by
        have kk : Keeps (fun y => y = bl ∨ y = wb) w w4 := (kB.mono fun _ _ h => .inl h).trans hK fun _ _ h => .inr h
        have hb := hP.out.back.write c v
        rw [ht'.out] at hb
        rw [ea'.out] at hok ⊢
        have hon := hP.out.once
        refine ⟨X, ⟨pb, wb, vr, _, _, g0 ++ [note u c ⟨x, b⟩], hP.out.wrote kk (fun y _ hy => ?_) (by rw [look_put_upd]; exact hM) (by simp [hl0]) (fun i y z hy hz => ?_) (by rw [look_put_upd]; exact hb.1) hok.out rfl⟩, fun y hy => .inl hy, kk.mono fun y _ hy => ?_⟩
        · rcases hy with hy | hy
          · exact .inr (by rw [hy]; simp)
          · exact .inl hy
        · rcases Nat.lt_trichotomy i m with hi | hi | hi
          · rw [List.getElem?_append_left (by omega)] at hy hz
            have hmem := List.mem_of_getElem? hy
            refine (hP.out.logs i y z (by rw [List.getElem?_append_left (by omega)]; exact hy) (by rw [List.getElem?_append_left (by omega)]; exact hz)).keeps kk fun e => ?_
            rcases e with e | e
            · rw [e] at hmem
              have h1 := (List.nodup_cons.1 (List.nodup_cons.1 hon).2).2
              exact (List.nodup_append.1 h1).2.2 bl hmem bl (by simp) rfl
            · rw [e] at hmem
              exact (List.nodup_cons.1 (List.nodup_cons.1 hon).2).1 (List.mem_append.2 (.inl hmem))
          · rw [List.getElem?_append_right (by omega)] at hy hz
            have e3 : i - l0.length = 0 := by omega
            have e4 : i - g0.length = 0 := by omega
            rw [e3] at hy
            rw [e4] at hz
            simp at hy hz
            subst hy
            subst hz
            exact hB.keeps hK (fun e => nwb e.symm)
          · rw [List.getElem?_eq_none (by simp; omega)] at hy
            cases hy
        · rcases hy with hy | hy
          · rw [hy]; exact hP.out.inX.2.2.2.1 bl (by simp)
          · rw [hy]; exact hP.out.inX.2.2.1
      have fin' := Lib.hid fin
      clear fin h ho h0 hlast hfew e1 hl0 hm
      rcases hfit with rfl | ⟨rfl, hlt⟩
      · go_enter Tryd.func18, Tryd.ntmps18
        go_wp2_with (first
        | (go_at_call 31; refine cn.out.mono ?_; rintro e w' ⟨rfl, rfl⟩)
        | (go_at_call 37; refine cnt.out.mono ?_; rintro e w3 ⟨rfl, hB3, hK3⟩; have B3 := Lib.hid hB3; have K3 := Lib.hid hK3; have H3 := Lib.hid (hw.out.keeps hK3 nwb); have c2' : w3.cell? ⟨s, 2, none⟩ = some (.map (some wb)) := (hK3.cell ls nsb).trans c2; clear hB3 hK3)
        | (at_lookup; refine wpList_look_ok _ rfl _ _ _ rfl 23 23 uE Tryd.underlying23 Tryd.underlying55 0 (zero_u _) wb (look A.W) rfl hw.out c rfl hc (.int .u64 x) true (by rw [hx'.out]; rfl) hb'.out ?_)
        | (at_mapUpdate; refine wpList_upd _ rfl _ _ _ 55 rfl 23 23 uE Tryd.underlying23 Tryd.underlying55 wb (look A.W) rfl H3.out _ hk'.out hlm c rfl hc v rfl ?_; intro W4 hM4 hG4; have M4 := Lib.hid hM4; have K4 := Lib.hid (Keeps.of_grown hG4); clear hM4 hG4))
        go_ret
        refine ⟨_, rfl, ?_, fin'.out _ _ B3.out K3.out M4.out K4.out⟩
        rw [ea'.out]
        exact .inl ⟨rfl, rfl, rfl⟩
      · have b1 : ¬ (500 : Int) ≤ (n : Int) := by omega
        go_enter Tryd.func18, Tryd.ntmps18
        go_wp2_with (first
        | (go_at_call 31; refine cn.out.mono ?_; rintro e w' ⟨rfl, rfl⟩)
        | (go_at_call 37; refine cnt.out.mono ?_; rintro e w3 ⟨rfl, hB3, hK3⟩; have B3 := Lib.hid hB3; have K3 := Lib.hid hK3; have H3 := Lib.hid (hw.out.keeps hK3 nwb); have c2' : w3.cell? ⟨s, 2, none⟩ = some (.map (some wb)) := (hK3.cell ls nsb).trans c2; clear hB3 hK3)
        | (at_lookup; refine wpList_look_ok _ rfl _ _ _ rfl 23 23 uE Tryd.underlying23 Tryd.underlying55 0 (zero_u _) wb (look A.W) rfl hw.out c rfl hc (.int .u64 x) false (by rw [hx'.out]; rfl) hb'.out ?_)
        | (at_mapUpdate; refine wpList_upd _ rfl _ _ _ 55 rfl 23 23 uE Tryd.underlying23 Tryd.underlying55 wb (look A.W) rfl H3.out _ hk'.out hlm c rfl hc v rfl ?_; intro W4 hM4 hG4; have M4 := Lib.hid hM4; have K4 := Lib.hid (Keeps.of_grown hG4); clear hM4 hG4))
        go_ret
        refine ⟨_, rfl, ?_, fin'.out _ _ B3.out K3.out M4.out K4.out⟩
        rw [ea'.out]
        exact .inl ⟨rfl, rfl, rfl⟩
end Go.Proofs.YtkolkimmhlmlgaaDoor
