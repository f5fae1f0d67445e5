/-
  sets: Version, Read, Reads by contract.
-/
import Derived.Test.YtkolkimmhlmlgaaDoorStRows
import Derived.StillTailTactics
import Derived.BigRegion
namespace Go.Proofs.YtkolkimmhlmlgaaDoor
open Go.RowKit Go.Maps Go.Extern.Stop Go.Stop Go.Extern

/-- An error's value, with its number and its place. -/
def ErrU (B : Nat) (w : World) (v : Value) (k : Nat) (at_ : Int) : Prop :=
  (k = 0 ∧ at_ = 0 ∧ v = .nilIface) ∨ (1 ≤ k ∧ k ≤ 17 ∧ at_ = 0 ∧ v = .iface 77 (.int .i64 k)) ∨ (1 ≤ k ∧ k ≤ 17 ∧ ∃ p, B ≤ p ∧ v = .iface 86 (.pointer (some ⟨p, 0, none⟩)) ∧ Whole w p 88 #[.int .i64 at_, .int .i64 k])

/-- What sets may move to: their own blocks, and new ones. -/
def Mvs (w : World) (X X' : Nat → Prop) : Prop := ∀ x, X' x → X x ∨ w.heap.size ≤ x

/-- Behind a call: the sets are in the state A; nothing else that was there has changed. -/
def Did (w w' : World) (s : Nat) (A : AS) (X : Nat → Prop) : Prop := ∃ X', PS w' s A X' ∧ Mvs w X X' ∧ Keeps X w w'

theorem Did.same {w w' : World} {s : Nat} {A : AS} {X : Nat → Prop} (h : PS w s A X) (k : Keeps (fun _ => False) w w') : Did w w' s A X :=
  ⟨X, h.same k, fun _ hx => .inl hx, k.mono fun _ _ => False.elim⟩
theorem Did.trans {w w' u : World} {s : Nat} {A B : AS} {X : Nat → Prop} (h : Did w w' s A X) (k : ∀ X', PS w' s A X' → Did w' u s B X') : Did w u s B X := by
  obtain ⟨X', h1, h2, h3⟩ := h
  obtain ⟨X2, k1, k2, k3⟩ := k X' h1
  refine ⟨X2, k1, fun x hx => ?_, h3.trans k3 fun x hx hs => ?_⟩
  · rcases k2 x hx with h | h
    · exact h2 x h
    · exact .inr (Nat.le_trans h3.size h)
  · rcases h2 x hs with h | h
    · exact h
    · omega

/-- Only the struct, the rows read and their places are other ones. -/
theorem PSt.renew {w w' : World} {s pb wb : Nat} {vr vr' vm : Value} {lb : List Nat} {lg : List Lg} {A A' : AS} {X S : Nat → Prop} (h : PSt w s pb wb vr vm lb lg A X) (k : Keeps S w w') (hS : ∀ x, X x → S x → x = s ∨ x = pb ∨ vr.ownBlock = some x)
    (blk : Whole w' s 58 #[vr', .map (some pb), .map (some wb), vm]) (reads : w'.ownsRow 0 50 2 vr' A'.R.length (cells2 .i64 A'.R)) (places : HoldsM Tryd.prog 23 iE w' pb (plcF A'.R))
    (ok : A'.Ok) (hW : A'.W = A.W) (hM : A'.M = A.M) (hg : ∀ g, vr'.ownBlock = some g → g < w'.heap.size) : PSt w' s pb wb vr' vm lb lg A' (fun x => X x ∨ vr'.ownBlock = some x) := by
  have n1 : ¬ S wb := fun hs => by
    rcases hS _ h.inX.2.2.1 hs with e | e | e
    · exact h.blk.ne_map h.writes e.symm
    · have := h.once; rw [e] at this; simp at this
    · exact row_ne_map h.reads h.writes e
  have n2 : ∀ g, vm.ownBlock = some g → ¬ S g := fun g hg hs => by
    rcases hS _ (h.inX.2.2.2.2.2 g hg) hs with e | e | e
    · exact row_ne h.marks h.blk (by decide) (by rw [hg, e])
    · exact row_ne_map h.marks h.places (by rw [hg, e])
    · exact row_ne_row h.marks h.reads (by decide) hg e
  have n3 : ∀ (i b : Nat) (u : Lg), lb[i]? = some b → lg[i]? = some u → ¬ S b := fun i b u hb hu hs => by
    have hH := h.logs i b u hb hu
    rcases hS _ (h.inX.2.2.2.1 b (List.mem_of_getElem? hb)) hs with e | e | e
    · exact h.blk.ne_map hH e.symm
    · have := h.once
      have hm := List.mem_of_getElem? hb
      rw [e] at hm
      simp [hm] at this
    · exact row_ne_map h.reads hH e
  exact {
    blk := blk
    reads := reads
    places := places
    writes := by rw [hW]; exact h.writes.keeps k n1
    marks := ownsRow_keeps h.marks k n2
    len := h.len
    logs := fun i b u hb hu => (h.logs i b u hb hu).keeps k (n3 i b u hb hu)
    once := h.once
    back := by rw [hW, hM]; exact h.back
    ok := ok
    inX := ⟨.inl h.inX.1, .inl h.inX.2.1, .inl h.inX.2.2.1, fun b hb => .inl (h.inX.2.2.2.1 b hb), fun g hg => .inr hg, fun g hg => .inl (h.inX.2.2.2.2.2 g hg)⟩
    old := fun x hx => by
      rcases hx with hx | hx
      · exact Nat.lt_of_lt_of_le (h.old x hx) k.size
      · exact hg x hx }

theorem ver_nil (c : Int) (w : World) :
    Calls Tryd.prog 29 #[.pointer none, .int .u64 c] w fun e w' => e = .returned (.tuple #[.int .i64 0, .bool false]) ∧ w = w' := by
  go_enter Tryd.func29, Tryd.ntmps29
  go_wp2_with (go_at_call 31; refine (snone_nil _).mono ?_; rintro e w' ⟨rfl, rfl⟩)
  go_ret2
  exact ⟨rfl, rfl⟩

set_option maxRecDepth 100000 in
theorem ver_any {w : World} {s : Nat} {A : AS} {X : Nat → Prop} (h : PS w s A X) (c : Int) (hc : wfU c) :
    Calls Tryd.prog 29 #[.pointer (some ⟨s, 0, none⟩), .int .u64 c] w fun e w' => e = .returned (.tuple #[.int .i64 ((look A.R c).getD 0), .bool (look A.R c).isSome]) ∧ w = w' := by
  obtain ⟨pb, wb, vr, vm, lb, lg, h⟩ := h
  have c2 : w.cell? ⟨s, 2, none⟩ = some (.map (some wb)) := h.blk.at_ 2
  have c1 : w.cell? ⟨s, 1, none⟩ = some (.map (some pb)) := h.blk.at_ 1
  have cn := Lib.hid (snone_there w c2)
  have hp := Lib.hid h.places
  obtain ⟨o, cap, rfl, ho⟩ := row_shape h.reads
  have c0 : w.cell? ⟨s, 0, none⟩ = some (.slice o A.R.length cap) := h.blk.at_ 0
  by_cases h0 : plc A.R c = 0
  · have e1 : look A.R c = none := plc_zero.1 h0
    have e2 : plcF A.R c = none := by unfold plcF; rw [if_pos h0]
    have e1' := Lib.hid e1
    have e2' := Lib.hid e2
    clear h ho h0 e1 e2 c0
    go_enter Tryd.func29, Tryd.ntmps29
    go_wp2_with (first
      | (go_at_call 31; refine cn.out.mono ?_; rintro e w' ⟨rfl, rfl⟩)
      | (at_lookup; refine wpList_look_ok _ rfl _ _ _ rfl 23 3 iE Tryd.underlying23 Tryd.underlying54 0 (zero_i _) pb (plcF A.R) rfl hp.out c rfl hc (.int .i64 0) false (by rw [e2'.out]; rfl) (by rw [e2'.out]; rfl) ?_))
    go_ret2
    exact ⟨by rw [e1'.out]; rfl, rfl⟩
  · obtain ⟨v, e1, e2⟩ := plc_at h0
    have hle := plc_le (R := A.R) (k := c)
    have e3 : plcF A.R c = some (plc A.R c : Int) := by unfold plcF; rw [if_neg h0]
    obtain ⟨k, hk⟩ : ∃ k, plc A.R c = k + 1 := ⟨plc A.R c - 1, by omega⟩
    rw [hk] at e1 e3 hle
    have e3' := Lib.hid e3
    have e2' := Lib.hid e2
    obtain ⟨g, rfl⟩ := ho (by omega)
    have cv : w.cell? ⟨g, k * 2 + 1, none⟩ = some (.int .i64 v) := (h.reads.cellAt (k * 2 + 1) (by omega)).trans (cells2_snd _ _ k _ (by simpa using e1))
    have few := h.ok.rfew
    obtain ⟨n, hn⟩ : ∃ n, A.R.length = n := ⟨_, rfl⟩
    rw [hn] at c0 hle few
    clear h ho h0 e1 e2 e3 hk hn
    have b1 : (k : Int) < (n : Int) := by omega
    go_enter Tryd.func29, Tryd.ntmps29
    go_wp2_with (first
      | (go_at_call 31; refine cn.out.mono ?_; rintro e w' ⟨rfl, rfl⟩)
      | (at_lookup; refine wpList_look_ok _ rfl _ _ _ rfl 23 3 iE Tryd.underlying23 Tryd.underlying54 0 (zero_i _) pb (plcF A.R) rfl hp.out c rfl hc (.int .i64 ((k : Int) + 1)) true (by rw [e3'.out]; rfl) (by rw [e3'.out]; rfl) ?_))
    go_ret2
    exact ⟨by rw [e2'.out]; rfl, rfl⟩

theorem read_nil (c v : Int) (w : World) :
    Calls Tryd.prog 20 #[.pointer none, .int .u64 c, .int .i64 v] w fun e w' => e = .returned (.iface 77 (.int .i64 1)) ∧ w = w' := by
  go_enter Tryd.func20, Tryd.ntmps20
  go_wp2_with (go_at_call 31; refine (snone_nil _).mono ?_; rintro e w' ⟨rfl, rfl⟩)
  go_ret
  exact ⟨rfl, rfl⟩

/-- A drawn region whose head only reads and whose end is in one order, in a world of its own name. -/
theorem still_tail_at {P : Program} {id : Nat} {Q : Exit → Act → World → Prop} {a : Act} {w : World} {l : List Oper} (n : Nat) (hm : P.follows .mixedOrders = true) (hB : Region.lexTailB .any l.toArray n = true) (W : World) (hW : W = w.drew)
    (h : wpStill P l.toArray W (fun a' => wpList P l.toArray Q (l.drop n) a' W) (l.take n) a) : (Code.region id l.toArray true).wp P Q a w := by
  subst hW
  exact wp_region_still_tail n hm hB h

theorem plcF_snoc {R : Tl} {c v : Int} (h : look R c = none) : plcF (R ++ [(c, v)]) = upd (plcF R) c ((R.length + 1 : Nat) : Int) := funext fun k => by
  unfold plcF upd
  rw [plc_snoc h]
  by_cases e : k = c
  · subst e; simp
  · simp [e]

theorem plcF_keys (R : Tl) : ∀ k, (plcF R k).isSome = true → k ∈ R.map (·.1) := fun k hk => by
  unfold plcF at hk
  by_cases h : plc R k = 0
  · rw [if_pos h] at hk; cases hk
  · obtain ⟨v, _, h2⟩ := plc_at h
    exact look_mem.1 (by rw [h2]; rfl)

set_option maxRecDepth 100000 in
theorem read_any {w : World} {s : Nat} {A : AS} {X : Nat → Prop} (h : PS w s A X) (c v : Int) (hc : wfU c) :
    Calls Tryd.prog 20 #[.pointer (some ⟨s, 0, none⟩), .int .u64 c, .int .i64 v] w fun e w' => ∃ ev, e = .returned ev ∧ ErrU w.heap.size w' ev (aRead A c v).2.1 (aRead A c v).2.2 ∧ Did w w' s (aRead A c v).1 X := by
  have cv := Lib.hid (ver_any h c hc)
  have hok := Lib.hid (aRead_ok h.ok c v)
  have h' := Lib.hid h
  obtain ⟨pb, wb, vr, vm, lb, lg, h⟩ := h
  have c2 : w.cell? ⟨s, 2, none⟩ = some (.map (some wb)) := h.blk.at_ 2
  have c1 : w.cell? ⟨s, 1, none⟩ = some (.map (some pb)) := h.blk.at_ 1
  have cn := Lib.hid (snone_there w c2)
  have hp := Lib.hid h.places
  obtain ⟨o, cap, rfl, ho⟩ := row_shape h.reads
  have c0 : w.cell? ⟨s, 0, none⟩ = some (.slice o A.R.length cap) := h.blk.at_ 0
  have few := h.ok.rfew
  have ls := h.blk.lt
  cases hl : look A.R c with
  | some u =>
    by_cases hu : u = v
    · subst hu
      have ea : aRead A c u = (A, 0, 0) := by unfold aRead; rw [hl]; simp
      have ea' := Lib.hid ea
      have hne : (u != u) = false := by simp
      rw [hl] at cv
      clear h ho ea hl
      go_enter Tryd.func20, Tryd.ntmps20
      go_wp2_with (first
        | (go_at_call 31; refine cn.out.mono ?_; rintro e w' ⟨rfl, rfl⟩)
        | (go_at_call 29; refine cv.out.mono ?_; rintro e w' ⟨rfl, rfl⟩))
      go_ret
      refine ⟨_, rfl, ?_⟩
      rw [ea'.out]
      exact ⟨.inl ⟨rfl, rfl, rfl⟩, Did.same h'.out (Keeps.refl _ _)⟩
    · have ea : aRead A c v = (A, 12, plc A.R c) := by unfold aRead; rw [hl]; simp [hu]
      have ea' := Lib.hid ea
      have hne : (u != v) = true := by simpa using hu
      have hpl : plcF A.R c = some (plc A.R c : Int) := by
        unfold plcF
        rw [if_neg]
        intro e
        rw [plc_zero.1 e] at hl
        cases hl
      have hpl' := Lib.hid hpl
      rw [hl] at cv
      clear h ho ea hl hpl
      go_enter Tryd.func20, Tryd.ntmps20
      go_wp2_with (first
        | (go_at_call 31; refine cn.out.mono ?_; rintro e w' ⟨rfl, rfl⟩)
        | (go_at_call 29; refine cv.out.mono ?_; rintro e w' ⟨rfl, rfl⟩)
        | (at_lookup; refine wpList_look _ rfl _ _ _ rfl 23 3 iE Tryd.underlying23 Tryd.underlying54 0 (zero_i _) pb (plcF A.R) rfl hp.out c rfl hc (.int .i64 (plc A.R c : Int)) (by rw [hpl'.out]; rfl) ?_))
      go_ret
      refine ⟨_, rfl, ?_⟩
      rw [ea'.out]
      exact ⟨.inr (.inr ⟨(by decide : 1 ≤ 12), (by decide : 12 ≤ 17), _, Nat.le_refl _, rfl, Whole.made _ _ _⟩), Did.same h'.out ((Keeps.refl _ _).alloc _)⟩
  | none =>
    rw [hl] at cv
    by_cases hf : 500 ≤ A.R.length
    · have ea : aRead A c v = (A, 8, 0) := by unfold aRead; rw [hl]; simp [hf]
      have ea' := Lib.hid ea
      have b1 : (500 : Int) ≤ (A.R.length : Int) := by omega
      clear h ho ea hl
      generalize A.R.length = n at c0 b1 few hf
      go_enter Tryd.func20, Tryd.ntmps20
      go_wp2_with (first
        | (go_at_call 31; refine cn.out.mono ?_; rintro e w' ⟨rfl, rfl⟩)
        | (go_at_call 29; refine cv.out.mono ?_; rintro e w' ⟨rfl, rfl⟩))
      go_ret
      refine ⟨_, rfl, ?_⟩
      rw [ea'.out]
      exact ⟨.inr (.inl ⟨(by decide : 1 ≤ 8), (by decide : 8 ≤ 17), rfl, rfl⟩), Did.same h'.out (Keeps.refl _ _)⟩
    · have ea : aRead A c v = ({ A with R := A.R ++ [(c, v)] }, 0, 0) := by unfold aRead; rw [hl]; simp [hf]
      have ea' := Lib.hid ea
      have hl' := Lib.hid hl
      have hP := Lib.hid h
      have hrow := Lib.hid h.reads
      have hkeys := Lib.hid (plcF_keys A.R)
      have hlen : (A.R.map (·.1)).length < maxLen := by rw [List.length_map]; unfold maxLen; omega
      have f0 : w.frozen? ⟨s, 0, none⟩ = false := h.blk.free 0
      have hblk := Lib.hid h.blk
      have lpb := h.places.lt
      obtain ⟨n, hn⟩ : ∃ n, A.R.length = n := ⟨_, rfl⟩
      have hn' := Lib.hid hn
      have b1 : ¬ (500 : Int) ≤ (n : Int) := by omega
      rw [hn] at c0 few hf
      clear h ho ea hl hn c1
      go_enter Tryd.func20, Tryd.ntmps20
      go_wp2_with (first
        | (go_at_call 31; refine cn.out.mono ?_; rintro e w' ⟨rfl, rfl⟩)
        | (go_at_call 29; refine cv.out.mono ?_; rintro e w' ⟨rfl, rfl⟩)
        | (at_builtin; refine wpList_append_k seenK _ rfl _ _ rfl (.slice o n cap) A.R [(c, v)] rfl (by rw [← hn'.out]; exact hrow.out.alloc _) ⟨w.heap.size, 0, none⟩ 1 _ rfl rfl (one_pair (Whole.made w 50 #[.int .u64 c, .int .i64 v])) (n + 1) (by rw [hn'.out]) (by omega) ?_
           intro ao ac w2 hr2 hg2 ho2
           have R2 := Lib.hid hr2
           have O2 := Lib.hid ho2
           have K2 := Lib.hid (show Keeps (fun x => (Value.slice o n cap).ownBlock = some x) w w2 from ((Keeps.refl _ w).alloc _).grown hg2 fun k hk _ => hk)
           have B2 := Lib.hid (hblk.out.keeps K2.out (fun e => row_ne hrow.out hblk.out (by decide) (by rw [hn'.out]; exact e)))
           have c0' : w2.cell? ⟨s, 0, none⟩ = some (.slice o A.R.length cap) := B2.out.at_ 0
           have f0' : w2.frozen? ⟨s, 0, none⟩ = false := B2.out.free 0
           clear hr2 hg2 ho2))
      obtain ⟨W3, hW3⟩ : ∃ W, W = (w2.setCell ⟨s, 0, none⟩ (.slice ao (n + 1) ac)).drew := ⟨_, rfl⟩
      have K3 := Lib.hid (show Keeps (fun x => (Value.slice o n cap).ownBlock = some x ∨ x = s) w W3 by
        rw [hW3]
        exact ((K2.out.mono fun _ _ h => .inl h).setCell (p := ⟨s, 0, none⟩) (fun _ => .inr rfl) _).drew)
      have B3 := Lib.hid (show Whole W3 s 58 #[.slice ao (n + 1) ac, .map (some pb), .map (some wb), vm] by rw [hW3]; exact (B2.out.set_ 0 _).drew)
      have npb : ¬ (Value.slice o n cap).ownBlock = some pb := fun e => row_ne_map hrow.out hp.out (by rw [hn'.out]; exact e)
      have nps : ¬ pb = s := fun e => hblk.out.ne_map hp.out e.symm
      have npb' := Lib.hid npb
      have P3 := Lib.hid (hp.out.keeps K3.out (fun e => e.elim npb'.out nps))
      have R3 := Lib.hid (show seenK.Row W3 (.slice ao (n + 1) ac) (A.R ++ [(c, v)]) by
        rw [hW3]
        refine ownsRow_keeps R2.out (((Keeps.refl (fun x => x = s) w2).setCell (p := ⟨s, 0, none⟩) (fun _ => rfl) _).drew) fun g hg e => row_ne R2.out B2.out (by decide) (by rw [hg, e]))
      have d1 : W3.cell? ⟨s, 1, none⟩ = some (.map (some pb)) := B3.out.at_ 1
      have d0 : W3.cell? ⟨s, 0, none⟩ = some (.slice ao (n + 1) ac) := B3.out.at_ 0
      have hW3' := Lib.hid hW3
      clear hW3 npb c0' f0' c0 f0 c2
      refine still_tail_at 10 (by kernel_rfl) (by kernel_rfl) W3 hW3'.out ?_
      simp only [List.take_succ_cons, List.take_zero, List.drop_succ_cons, List.drop_zero]
      repeat still_step
      refine wpStill_nil ?_
      clear d0 d1
      go_wp2_with (first | (at_mapUpdate; refine wpList_upd _ rfl _ _ _ 54 rfl 23 3 iE Tryd.underlying23 Tryd.underlying54 pb (plcF A.R) rfl P3.out _ hkeys.out hlen c rfl hc ((n : Int) + 1) rfl ?_; intro W4 hM4 hG4; have M4 := Lib.hid hM4; have K4 := Lib.hid (Keeps.of_grown hG4); clear hM4 hG4))
      go_ret
      refine ⟨_, rfl, ?_⟩
      rw [ea'.out] at hok ⊢
      refine ⟨.inl ⟨rfl, rfl, rfl⟩, ?_⟩
      have kk : Keeps (fun x => ((Value.slice o n cap).ownBlock = some x ∨ x = s) ∨ x = pb) w W4 := (K3.out.mono fun _ _ h => .inl h).trans K4.out fun _ _ h => .inr h
      have R4 := ownsRow_keeps R3.out K4.out fun g hg e => row_ne_map R3.out P3.out (by rw [hg, e])
      have hlt : ∀ g, (Value.slice ao (n + 1) ac).ownBlock = some g → g < W4.heap.size := fun g hg => (World.ownsRow.lt R4 g hg).2
      refine ⟨_, ⟨pb, wb, _, vm, lb, lg, hP.out.renew kk (fun x _ hx => ?_) (B3.out.keeps K4.out (fun e => nps e.symm)) (A' := { A with R := A.R ++ [(c, v)] }) ?_ ?_ hok.out rfl rfl hlt⟩, fun x hx => ?_, kk.mono fun x hx hs => ?_⟩
      · rcases hx with (hx | hx) | hx
        · exact .inr (.inr (by rw [hn'.out]; exact hx))
        · exact .inl hx
        · exact .inr (.inl hx)
      · exact R4
      · rw [plcF_snoc hl'.out, hn'.out]
        exact M4.out
      · rcases hx with hx | hx
        · exact .inl hx
        · rcases O2.out with e | e
          · rw [e] at hx
            exact .inl (hP.out.inX.2.2.2.2.1 x (by rw [hn'.out]; exact hx))
          · rw [e] at hx
            injection hx with hx
            subst hx
            exact .inr (by simp)
      · rcases hs with (hs | hs) | hs
        · exact hP.out.inX.2.2.2.2.1 x (by rw [hn'.out]; exact hs)
        · rw [hs]; exact hP.out.inX.1
        · rw [hs]; exact hP.out.inX.2.1
end Go.Proofs.YtkolkimmhlmlgaaDoor
