/-
  sets: New, Mark, check, Reads by contract.
-/
import Derived.Test.YtkolkimmhlmlgaaDoorStWrite
import Derived.Carry
namespace Go.Proofs.YtkolkimmhlmlgaaDoor
open Go.RowKit Go.Maps Go.Extern.Stop Go.Stop Go.Extern

theorem new_any (w : World) :
    Calls Tryd.prog 6 #[] w fun e w' => ∃ s X, e = .returned (.pointer (some ⟨s, 0, none⟩)) ∧ PS w' s AS.none X ∧ (∀ x, X x → w.heap.size ≤ x) ∧ Keeps (fun _ => False) w w' := by
  have hmm := @run_makeMap Tryd.prog
  go_enter Tryd.func6, Tryd.ntmps6
  go_wp2
  go_ret
  have k : Keeps (fun _ => False) w (((w.alloc (.map #[] 0)).alloc (.map #[] 0)).alloc (.cells #[.slice none 0 0, .map (some w.heap.size), .map (some (w.heap.size + 1)), .slice none 0 0] 58)) := (((Keeps.refl _ w).alloc _).alloc _).alloc _
  have h1 : HoldsM Tryd.prog 23 iE (((w.alloc (.map #[] 0)).alloc (.map #[] 0)).alloc (.cells #[.slice none 0 0, .map (some w.heap.size), .map (some (w.heap.size + 1)), .slice none 0 0] 58)) w.heap.size (fun _ => none) :=
    ((HoldsM.made Tryd.prog 23 iE w).keeps (S := fun _ => False) ((Keeps.refl _ _).alloc _) id).keeps (S := fun _ => False) ((Keeps.refl _ _).alloc _) id
  have h2 : HoldsM Tryd.prog 23 uE (((w.alloc (.map #[] 0)).alloc (.map #[] 0)).alloc (.cells #[.slice none 0 0, .map (some w.heap.size), .map (some (w.heap.size + 1)), .slice none 0 0] 58)) (w.heap.size + 1) (fun _ => none) := by
    have := (HoldsM.made Tryd.prog 23 uE (w.alloc (.map #[] 0))).keeps (S := fun _ => False) (w' := ((w.alloc (.map #[] 0)).alloc (.map #[] 0)).alloc (.cells #[.slice none 0 0, .map (some w.heap.size), .map (some (w.heap.size + 1)), .slice none 0 0] 58)) ((Keeps.refl _ _).alloc _) id
    rwa [World.size_alloc] at this
  have h3 : Whole (((w.alloc (.map #[] 0)).alloc (.map #[] 0)).alloc (.cells #[.slice none 0 0, .map (some w.heap.size), .map (some (w.heap.size + 1)), .slice none 0 0] 58)) (w.heap.size + 2) 58 #[.slice none 0 0, .map (some w.heap.size), .map (some (w.heap.size + 1)), .slice none 0 0] := by
    have := Whole.made ((w.alloc (.map #[] 0)).alloc (.map #[] 0)) 58 #[.slice none 0 0, .map (some w.heap.size), .map (some (w.heap.size + 1)), .slice none 0 0]
    rwa [World.size_alloc, World.size_alloc] at this
  refine ⟨w.heap.size + 2, fun x => x = w.heap.size ∨ x = w.heap.size + 1 ∨ x = w.heap.size + 2, rfl, ⟨w.heap.size, w.heap.size + 1, _, _, [], [], {
    blk := h3
    reads := World.ownsRow_nil ..
    places := h1
    writes := h2
    marks := World.ownsRow_nil ..
    len := rfl
    logs := fun i b u hb => by simp at hb
    once := by simp
    back := trivial
    ok := none_ok
    inX := ⟨.inr (.inr rfl), .inl rfl, .inr (.inl rfl), fun b hb => (by cases hb), fun g hg => (by simp [Value.ownBlock] at hg), fun g hg => (by simp [Value.ownBlock] at hg)⟩
    old := fun x hx => by simp; omega }⟩, fun x hx => by omega, k⟩

theorem mark_nil (w : World) :
    Calls Tryd.prog 12 #[.pointer none] w fun e w' => e = .returned (.tuple #[.int .i64 0, .iface 77 (.int .i64 1)]) ∧ w = w' := by
  go_enter Tryd.func12, Tryd.ntmps12
  go_wp2_with (go_at_call 31; refine (snone_nil _).mono ?_; rintro e w' ⟨rfl, rfl⟩)
  go_ret2
  exact ⟨rfl, rfl⟩

set_option maxRecDepth 100000 in
theorem mark_any {w : World} {s : Nat} {A : AS} {X : Nat → Prop} (h : PS w s A X) :
    Calls Tryd.prog 12 #[.pointer (some ⟨s, 0, none⟩)] w fun e w' => ∃ ev, e = .returned (.tuple #[.int .i64 ((aMark A).2.1 : Nat), ev]) ∧ ErrU w.heap.size w' ev (aMark A).2.2 0 ∧ Did w w' s (aMark A).1 X := by
  have hok := Lib.hid (aMark_ok h.ok)
  have h' := Lib.hid h
  obtain ⟨pb, wb, vr, vm, lb, lg, h⟩ := h
  have c2 : w.cell? ⟨s, 2, none⟩ = some (.map (some wb)) := h.blk.at_ 2
  have cn := Lib.hid (snone_there w c2)
  obtain ⟨o, cap, rfl, ho⟩ := row_shape h.marks
  have c3 : w.cell? ⟨s, 3, none⟩ = some (.slice o lb.length cap) := h.blk.at_ 3
  have f3 : w.frozen? ⟨s, 3, none⟩ = false := h.blk.free 3
  have hml := h.mlen
  have hmf := h.ok.mfew
  have ls := h.blk.lt
  obtain ⟨n, hn⟩ : ∃ n, lb.length = n := ⟨_, rfl⟩
  have hn' := Lib.hid hn
  have hrow := Lib.hid h.marks
  have hP := Lib.hid h
  rw [hn] at c3 hml
  by_cases hf : 20 ≤ A.M.length
  · have ea : aMark A = (A, 0, 10) := by unfold aMark; rw [if_pos hf]
    have ea' := Lib.hid ea
    have b1 : (20 : Int) ≤ (n : Int) := by omega
    clear h ho ea hn hf hml hmf
    go_enter Tryd.func12, Tryd.ntmps12
    go_wp2_with (first
      | (go_at_call 31; refine cn.out.mono ?_; rintro e w' ⟨rfl, rfl⟩))
    go_ret2
    rw [ea'.out]
    exact ⟨_, rfl, .inr (.inl ⟨(by decide : 1 ≤ 10), (by decide : 10 ≤ 17), rfl, rfl⟩), Did.same h'.out (Keeps.refl _ _)⟩
  · have ea : aMark A = ({ A with M := A.M ++ [A.W] }, A.M.length + 1, 0) := by unfold aMark; rw [if_neg hf]
    have ea' := Lib.hid ea
    have b1 : ¬ (20 : Int) ≤ (n : Int) := by omega
    have hmm := @run_makeMap Tryd.prog
    have hml' := Lib.hid hml
    clear h ho ea hn hf hml hmf
    go_enter Tryd.func12, Tryd.ntmps12
    go_wp2_with (first
      | (go_at_call 31; refine cn.out.mono ?_; rintro e w' ⟨rfl, rfl⟩)
      | (at_builtin; refine wpList_append_k undoK _ rfl _ _ rfl (.slice o n cap) lb [w.heap.size] rfl (by rw [← hn'.out]; exact (hrow.out.alloc _).alloc _) ⟨w.heap.size + 1, 0, none⟩ 1 _ rfl rfl (one_cell_new (by have := Whole.made (w.alloc (.map #[] 0)) 79 #[.map (some w.heap.size)]; rw [World.size_alloc] at this; exact this)) (n + 1) (by rw [hn'.out]) (by omega) ?_
         intro ao ac w2 hr2 hg2 ho2
         have R2 := Lib.hid hr2
         have O2 := Lib.hid ho2
         have K2 := Lib.hid (show Keeps (fun x => (Value.slice o n cap).ownBlock = some x) w w2 from (((Keeps.refl _ w).alloc _).alloc _).grown hg2 fun k hk _ => hk)
         have L2 := Lib.hid (show HoldsM Tryd.prog 23 bE w2 w.heap.size (fun _ => none) from by
           refine ((HoldsM.made Tryd.prog 23 bE w).keeps (S := fun _ => False) ((Keeps.refl _ _).alloc (.cells #[.map (some w.heap.size)] 79)) id).keeps ((Keeps.refl (fun x => (Value.slice o n cap).ownBlock = some x) _).grown hg2 fun k hk _ => hk) fun e => ?_
           have hrw := hrow.out
           rw [hn'.out] at hrw
           have := (World.ownsRow.lt hrw _ e).2
           omega)
         have B2 := Lib.hid (hP.out.blk.keeps K2.out (fun e => row_ne hrow.out hP.out.blk (by decide) (by rw [hn'.out]; exact e)))
         have c3' : w2.cell? ⟨s, 3, none⟩ = some (.slice o lb.length cap) := B2.out.at_ 3
         have f3' : w2.frozen? ⟨s, 3, none⟩ = false := B2.out.free 3
         clear hr2 hg2 ho2))
    go_ret2
    obtain ⟨W3, hW3⟩ : ∃ W, W = w2.setCell ⟨s, 3, none⟩ (.slice ao (n + 1) ac) := ⟨_, rfl⟩
    rw [← hW3]
    have ks : Keeps (fun x => x = s) w2 W3 := by rw [hW3]; exact (Keeps.refl (fun x => x = s) w2).setCell (p := ⟨s, 3, none⟩) (fun _ => rfl) _
    have kk : Keeps (fun x => (Value.slice o n cap).ownBlock = some x ∨ x = s) w W3 := (K2.out.mono fun _ _ h => .inl h).trans ks fun _ _ h => .inr h
    have B3 : Whole W3 s 58 #[vr, .map (some pb), .map (some wb), .slice ao (n + 1) ac] := by rw [hW3]; exact B2.out.set_ 3 _
    have R3 : undoK.Row W3 (.slice ao (n + 1) ac) (lb ++ [w.heap.size]) := ownsRow_keeps R2.out ks fun g hg e => row_ne R2.out B2.out (by decide) (by rw [hg, e])
    have h2 := hP.out
    have hrn : ∀ x, (Value.slice o n cap).ownBlock = some x → (Value.slice o lb.length cap).ownBlock = some x := fun x hx => by rw [hn'.out]; exact hx
    have nS : ∀ {V : Type} {E : Enc V} {b : Nat} {f : Int → Option V}, HoldsM Tryd.prog 23 E w b f → ¬ ((Value.slice o n cap).ownBlock = some b ∨ b = s) := fun hH e => by
      rcases e with e | e
      · exact row_ne_map h2.marks hH (hrn _ e)
      · exact h2.blk.ne_map hH e.symm
    rw [ea'.out] at hok ⊢
    have hb := Backs.mark h2.back
    refine ⟨_, by rw [← hml'.out]; rfl, .inl ⟨rfl, rfl, rfl⟩, fun x => X x ∨ x = w.heap.size ∨ (Value.slice ao (n + 1) ac).ownBlock = some x, ⟨pb, wb, vr, _, lb ++ [w.heap.size], lg ++ [fun _ => none], {
      blk := B3
      reads := ownsRow_keeps h2.reads kk fun g hg e => by
        rcases e with e | e
        · exact row_ne_row h2.reads h2.marks (by decide) hg (hrn _ e)
        · exact row_ne h2.reads h2.blk (by decide) (by rw [hg, e])
      places := h2.places.keeps kk (nS h2.places)
      writes := h2.writes.keeps kk (nS h2.writes)
      marks := R3
      len := by simp [h2.len]
      logs := fun i b u hb hu => by
        rcases Nat.lt_trichotomy i lb.length with hi | hi | hi
        · rw [List.getElem?_append_left hi] at hb
          rw [List.getElem?_append_left (by rw [← h2.len]; exact hi)] at hu
          have hH := h2.logs i b u hb hu
          exact hH.keeps kk (nS hH)
        · have hlen := h2.len
          rw [List.getElem?_append_right (by omega)] at hb hu
          have e3 : i - lb.length = 0 := by omega
          have e4 : i - lg.length = 0 := by omega
          rw [e3] at hb
          rw [e4] at hu
          simp at hb hu
          subst hb
          subst hu
          exact L2.out.keeps ks (fun (e : w.heap.size = s) => by omega)
        · rw [List.getElem?_eq_none (by simp; omega)] at hb
          cases hb
      once := by
        have h3 := h2.once
        have hlt : ∀ x ∈ (pb :: wb :: lb), x < w.heap.size := fun x hx => by
          rcases List.mem_cons.1 hx with rfl | hx
          · exact h2.places.lt
          · rcases List.mem_cons.1 hx with rfl | hx
            · exact h2.writes.lt
            · exact h2.old x (h2.inX.2.2.2.1 x hx)
        have e : pb :: wb :: (lb ++ [w.heap.size]) = (pb :: wb :: lb) ++ [w.heap.size] := rfl
        rw [e]
        exact List.nodup_append.2 ⟨h3, by simp, fun a ha b hb e => by simp at hb; subst hb; subst e; exact absurd (hlt _ ha) (Nat.lt_irrefl _)⟩
      back := hb.1
      ok := hok.out
      inX := ⟨.inl h2.inX.1, .inl h2.inX.2.1, .inl h2.inX.2.2.1, fun b hb => by
        rcases List.mem_append.1 hb with hb | hb
        · exact .inl (h2.inX.2.2.2.1 b hb)
        · simp at hb; exact .inr (.inl hb), fun g hg => .inl (h2.inX.2.2.2.2.1 g hg), fun g hg => .inr (.inr hg)⟩
      old := fun x hx => by
        rcases hx with hx | hx | hx
        · exact Nat.lt_of_lt_of_le (h2.old x hx) kk.size
        · have h5 := L2.out.lt
          have h6 := ks.size
          rw [hx]
          omega
        · exact (World.ownsRow.lt R3 x hx).2 }⟩, fun x hx => ?_, kk.mono fun x _ hs => ?_⟩
    · rcases hx with hx | hx | hx
      · exact .inl hx
      · exact .inr (by omega)
      · rcases O2.out with e | e
        · rw [e] at hx
          exact .inl (h2.inX.2.2.2.2.2 x (hrn _ hx))
        · rw [e] at hx
          injection hx with hx
          subst hx
          exact .inr (by simp; omega)
    · rcases hs with hs | hs
      · exact h2.inX.2.2.2.2.2 x (hrn _ hs)
      · rw [hs]; exact h2.inX.1

theorem check_nil (m : Int) (w : World) :
    Calls Tryd.prog 35 #[.pointer none, .int .i64 m] w fun e w' => e = .returned (.iface 77 (.int .i64 1)) ∧ w = w' := by
  go_enter Tryd.func35, Tryd.ntmps35
  go_wp2_with (go_at_call 31; refine (snone_nil _).mono ?_; rintro e w' ⟨rfl, rfl⟩)
  go_ret
  exact ⟨rfl, rfl⟩

theorem check_there {w : World} {s : Nat} {A : AS} {X : Nat → Prop} (h : PS w s A X) (m : Int) (h1 : 1 ≤ m) (h2 : m ≤ (A.M.length : Int)) :
    Calls Tryd.prog 35 #[.pointer (some ⟨s, 0, none⟩), .int .i64 m] w fun e w' => e = .returned .nilIface ∧ w = w' := by
  obtain ⟨pb, wb, vr, vm, lb, lg, h⟩ := h
  have c2 : w.cell? ⟨s, 2, none⟩ = some (.map (some wb)) := h.blk.at_ 2
  have cn := Lib.hid (snone_there w c2)
  obtain ⟨o, cap, rfl, ho⟩ := row_shape h.marks
  have c3 : w.cell? ⟨s, 3, none⟩ = some (.slice o lb.length cap) := h.blk.at_ 3
  rw [h.mlen] at c3
  obtain ⟨n, hn⟩ : ∃ n, A.M.length = n := ⟨_, rfl⟩
  rw [hn] at c3 h2
  have b1 : ¬ m < 1 := by omega
  have b2 : ¬ (n : Int) < m := by omega
  clear h ho hn
  go_enter Tryd.func35, Tryd.ntmps35
  go_wp2_with (go_at_call 31; refine cn.out.mono ?_; rintro e w' ⟨rfl, rfl⟩)
  go_ret
  exact ⟨rfl, rfl⟩

theorem check_none {w : World} {s : Nat} {A : AS} {X : Nat → Prop} (h : PS w s A X) (m : Int) (hm : m < 1 ∨ (A.M.length : Int) < m) :
    Calls Tryd.prog 35 #[.pointer (some ⟨s, 0, none⟩), .int .i64 m] w fun e w' => e = .returned (.iface 86 (.pointer (some ⟨w.heap.size, 0, none⟩))) ∧ w' = w.alloc (.cells #[.int .i64 m, .int .i64 6] 88) := by
  obtain ⟨pb, wb, vr, vm, lb, lg, h⟩ := h
  have c2 : w.cell? ⟨s, 2, none⟩ = some (.map (some wb)) := h.blk.at_ 2
  have cn := Lib.hid (snone_there w c2)
  obtain ⟨o, cap, rfl, ho⟩ := row_shape h.marks
  have c3 : w.cell? ⟨s, 3, none⟩ = some (.slice o lb.length cap) := h.blk.at_ 3
  rw [h.mlen] at c3
  obtain ⟨n, hn⟩ : ∃ n, A.M.length = n := ⟨_, rfl⟩
  rw [hn] at c3 hm
  clear h ho hn
  by_cases b1 : m < 1
  · go_enter Tryd.func35, Tryd.ntmps35
    go_wp2_with (go_at_call 31; refine cn.out.mono ?_; rintro e w' ⟨rfl, rfl⟩)
    go_ret
    exact ⟨rfl, rfl⟩
  · have b2 : (n : Int) < m := by omega
    go_enter Tryd.func35, Tryd.ntmps35
    go_wp2_with (go_at_call 31; refine cn.out.mono ?_; rintro e w' ⟨rfl, rfl⟩)
    go_ret
    exact ⟨rfl, rfl⟩

theorem reads_nil (w : World) :
    Calls Tryd.prog 14 #[.pointer none] w fun e w' => e = .returned (.slice none 0 0) ∧ w = w' := by
  go_enter Tryd.func14, Tryd.ntmps14
  go_wp2_with (go_at_call 31; refine (snone_nil _).mono ?_; rintro e w' ⟨rfl, rfl⟩)
  go_ret
  exact ⟨rfl, rfl⟩

/-- A new slice of pairs, and nothing that was there has changed. -/
def Told2 (q : IntKind) (t : TypeId) (w : World) (l : Tl) (e : Ending) (w' : World) : Prop :=
  ∃ u, e = .returned u ∧ w'.ownsRow 0 t 2 u l.length (cells2 q l) ∧ (∀ g, u.ownBlock = some g → w.heap.size ≤ g) ∧ Keeps (fun _ => False) w w'

set_option maxRecDepth 100000 in
theorem reads_any {w : World} {s : Nat} {A : AS} {X : Nat → Prop} (h : PS w s A X) :
    Calls Tryd.prog 14 #[.pointer (some ⟨s, 0, none⟩)] w fun e w' => Told2 .i64 50 w A.R e w' := by
  obtain ⟨pb, wb, vr, vm, lb, lg, h⟩ := h
  have c2 : w.cell? ⟨s, 2, none⟩ = some (.map (some wb)) := h.blk.at_ 2
  have cn := Lib.hid (snone_there w c2)
  obtain ⟨o, cap, rfl, ho⟩ := row_shape h.reads
  have c0 : w.cell? ⟨s, 0, none⟩ = some (.slice o A.R.length cap) := h.blk.at_ 0
  have few := h.ok.rfew
  have ls := h.blk.lt
  obtain ⟨cur, hcur, hmk⟩ : ∃ cur, cur.size = A.R.length * 2 ∧ (Instr.makeSlice 28 (.int .i64 (A.R.length : Int)) (.int .i64 (A.R.length : Int))).run Tryd.prog w = .ok (.slice (some ⟨w.heap.size, 0, none⟩) A.R.length A.R.length) (w.alloc (.cells cur 50)) := seenK.make A.R.length (by omega) w
  have hm := Whole.made w 50 cur
  by_cases h0 : 0 < A.R.length
  · obtain ⟨g, rfl⟩ := ho h0
    have hcp : (Builtin.copy_ #[28, 28] 3 #[.slice (some ⟨w.heap.size, 0, none⟩) A.R.length A.R.length, .slice (some ⟨g, 0, none⟩) A.R.length cap]).run Tryd.prog (w.alloc (.cells cur 50)) = .ok (.int .i64 (A.R.length : Int)) ((w.alloc (.cells cur 50)).setRow w.heap.size (cells2 .i64 A.R).toArray) := seenK.copy (w.alloc (.cells cur 50)) w.heap.size g A.R.length cap cur 50 3 A.R rfl hm hcur (h.reads.alloc _)
    have hW : Hid (Whole ((w.alloc (.cells cur 50)).setRow w.heap.size (cells2 .i64 A.R).toArray) w.heap.size 50 (cells2 .i64 A.R).toArray) := Lib.hid (setRow_heap _ _ _ _ _ _ hm)
    have hK : Hid (Keeps (fun _ => False) w ((w.alloc (.cells cur 50)).setRow w.heap.size (cells2 .i64 A.R).toArray)) := Lib.hid (((Keeps.refl _ w).alloc _).setRow (fun hlt => absurd hlt (by omega)) _)
    clear h ho hm hcur h0
    go_enter Tryd.func14, Tryd.ntmps14
    go_wp2_with (go_at_call 31; refine cn.out.mono ?_; rintro e w' ⟨rfl, rfl⟩)
    go_ret
    refine ⟨_, rfl, ⟨cells2_len _ _, .inr ⟨w.heap.size, A.R.length, _, rfl, Nat.zero_le _, hW.out, Nat.le_refl _, by unfold maxLen; omega, by simp [cells2_len], ?_⟩⟩, fun g hg => ?_, hK.out⟩
    · exact List.take_of_length_le (by simp [cells2_len])
    · simp [Value.ownBlock] at hg; omega
  · have hnil : A.R = [] := List.eq_nil_of_length_eq_zero (by omega)
    have hnil' := Lib.hid hnil
    rw [hnil] at c0 hmk hcur
    have hcp : (Builtin.copy_ #[28, 28] 3 #[.slice (some ⟨w.heap.size, 0, none⟩) 0 0, .slice o 0 cap]).run Tryd.prog (w.alloc (.cells cur 50)) = .ok (.int .i64 0) (w.alloc (.cells cur 50)) := seenK.copy0 (w.alloc (.cells cur 50)) ⟨w.heap.size, 0, none⟩ o cap 3
    have hc0 : cur = #[] := Array.eq_empty_of_size_eq_zero (by simpa using hcur)
    subst hc0
    have hm' := Lib.hid hm
    rw [show ((([] : Tl).length : Nat) : Int) = 0 from rfl, show ([] : Tl).length = 0 from rfl] at hmk
    rw [show ([] : Tl).length = 0 from rfl] at c0
    clear h ho hm hcur h0 hnil few
    go_enter Tryd.func14, Tryd.ntmps14
    go_wp2_with (go_at_call 31; refine cn.out.mono ?_; rintro e w' ⟨rfl, rfl⟩)
    go_ret
    rw [hnil'.out]
    refine ⟨_, rfl, ⟨rfl, .inr ⟨w.heap.size, 0, #[], rfl, Nat.zero_le _, hm'.out, Nat.le_refl _, by unfold maxLen; omega, rfl, rfl⟩⟩, fun g hg => ?_, (Keeps.refl _ w).alloc _⟩
    simp [Value.ownBlock] at hg; omega
end Go.Proofs.YtkolkimmhlmlgaaDoor
