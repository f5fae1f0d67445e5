/-
  blocks: (*Blocks).find by contract: a good ref's block, and true; of another ref false.
-/
import Derived.Test.YtenhmficiegpiaaGreatDoorBkMem
import Derived.Deep.RegionHeld3
namespace Go.Proofs.YtenhmficiegpiaaGreatDoor
open Go.RowKit Go.Extern.Stop Go.Stop Go.Extern

section
variable {b mb : Nat} {f : Int → Option BV} {i : Sem Value} {u : Value}

/-- What find's look-up rests on stays behind a new block and a store elsewhere. -/
theorem see_intro (hlk : ∀ W, HoldsM Tryz.prog 3 bvE W mb f → i.run Tryz.prog W = .ok u W) {W : World} (hc : W.cell? ⟨b, 1, none⟩ = some (.map (some mb))) (hh : HoldsM Tryz.prog 3 bvE W mb f) :
    W.cell? ⟨b, 1, none⟩ = some (.map (some mb)) ∧ HoldsM Tryz.prog 3 bvE W mb f ∧ i.run Tryz.prog W = .ok u W := ⟨hc, hh, hlk W hh⟩
theorem see_alloc (hlk : ∀ W, HoldsM Tryz.prog 3 bvE W mb f → i.run Tryz.prog W = .ok u W) {W : World} (h : W.cell? ⟨b, 1, none⟩ = some (.map (some mb)) ∧ HoldsM Tryz.prog 3 bvE W mb f ∧ i.run Tryz.prog W = .ok u W) (o : Obj) :
    (W.alloc o).cell? ⟨b, 1, none⟩ = some (.map (some mb)) ∧ HoldsM Tryz.prog 3 bvE (W.alloc o) mb f ∧ i.run Tryz.prog (W.alloc o) = .ok u (W.alloc o) :=
  see_intro hlk ((World.cell?_alloc_some W _ o (by rw [h.1]; rfl)).trans h.1) (h.2.1.keeps ((Keeps.refl (fun _ => False) W).alloc o) id)
theorem see_drew (hlk : ∀ W, HoldsM Tryz.prog 3 bvE W mb f → i.run Tryz.prog W = .ok u W) {W : World} (h : W.cell? ⟨b, 1, none⟩ = some (.map (some mb)) ∧ HoldsM Tryz.prog 3 bvE W mb f ∧ i.run Tryz.prog W = .ok u W) :
    W.drew.cell? ⟨b, 1, none⟩ = some (.map (some mb)) ∧ HoldsM Tryz.prog 3 bvE W.drew mb f ∧ i.run Tryz.prog W.drew = .ok u W.drew :=
  see_intro hlk h.1 (h.2.1.keeps ((Keeps.refl (fun _ => False) W).drew) id)
theorem see_set (hlk : ∀ W, HoldsM Tryz.prog 3 bvE W mb f → i.run Tryz.prog W = .ok u W) {W : World} (h : W.cell? ⟨b, 1, none⟩ = some (.map (some mb)) ∧ HoldsM Tryz.prog 3 bvE W mb f ∧ i.run Tryz.prog W = .ok u W) {p : Addr} (v : Value) (h1 : p.block ≠ b) (h2 : p.block ≠ mb) :
    (W.setCell p v).cell? ⟨b, 1, none⟩ = some (.map (some mb)) ∧ HoldsM Tryz.prog 3 bvE (W.setCell p v) mb f ∧ i.run Tryz.prog (W.setCell p v) = .ok u (W.setCell p v) :=
  see_intro hlk ((World.cell?_setCell_far W p _ v h1).trans h.1) (h.2.1.keeps ((Keeps.refl (fun k => k = p.block) W).setCell (fun _ => rfl) v) (fun e => h2 e.symm))
end

set_option maxRecDepth 100000 in
theorem find_hit {b : Nat} {ws : List Int} {cnt : Nat} {st : St} {X : Nat → Prop} (ref : Nat) (hr : ref < 18446744073709551616) (B : Blk) (hB : st.get ref = some B) (w : World) (h : Bk w b ws cnt st X) :
    Calls Tryz.prog 36 #[.pointer (some ⟨b, 0, none⟩), .int .u64 ref] w fun e w' => e = .returned (.tuple #[B.val, .bool true]) ∧ Keeps (fun _ => False) w w' := by
  obtain ⟨a, bw, mb, fb, rows, h⟩ := h
  have c1 : w.cell? ⟨b, 1, none⟩ = some (.map (some mb)) := h.blk.at_ 1
  have lb := h.blk.lt
  have lm := h.all.lt
  obtain ⟨hm, hp, hl, hg⟩ := St.get_some hB
  have hat : st.at (ref % 4294967296) = some B := by rw [← hp]; exact St.at_mem h.ok hm
  have hlt : ref % 4294967296 < 4294967296 := Nat.mod_lt _ (by decide)
  have hw : (Lit.int .i64 ((ref % 4294967296 : Nat) : Int)).wf = true := WalkArith.wf_i64 (by omega)
  have hlk : ∀ W, HoldsM Tryz.prog 3 bvE W mb (allF st) → (Instr.lookup 87 (.map (some mb)) (.int .i64 ((ref % 4294967296 : Nat) : Int)) true).run Tryz.prog W = .ok (.tuple #[bvE.val ((allF st (ref % 4294967296 : Nat)).getD ⟨0, 0, false⟩), .bool (allF st (ref % 4294967296 : Nat)).isSome]) W := fun W hW => hW.look_ok Tryz.underlying3 Tryz.underlying87 ⟨0, 0, false⟩ (zero_bv _) _ hw
  rw [allF_at, hat] at hlk
  have hv : bvE.val ((Option.map Blk.bv (some B)).getD ⟨0, 0, false⟩) = .agg #[.int .i64 B.size, .int .u32 B.gen, .bool true] := by
    show Value.agg #[.int .i64 B.size, .int .u32 B.gen, .bool B.live] = _
    rw [hl]
  rw [hv] at hlk
  have cp := placeOf_any ref hr
  have e2 : ((ref : Int) / 4294967296) = (B.gen : Int) := by omega
  have hval : B.val = .agg #[.int .i64 B.size, .int .u32 B.gen, .bool true] := by
    show Value.agg #[.int .i64 B.size, .int .u32 B.gen, .bool B.live] = _
    rw [hl]
  rw [hval]
  have hgen : B.gen < 4294967296 := by have := h.ok.fits B hm; omega
  simp only [Option.map, Option.isSome] at hlk
  generalize ref % 4294967296 = p at hlk cp hw hlt
  generalize B.size = sz at hlk ⊢
  generalize B.gen = gn at hlk e2 hgen ⊢
  have hall := Lib.hid h.all
  have hlk' := Lib.hid hlk
  clear hlk hval hv hat hp hm hg h hl hB
  go_enter Tryz.func36, Tryz.ntmps36
  go_wp2
  have hs0 := see_alloc (b := b) hlk'.out ⟨c1, hall.out, hlk'.out _ hall.out⟩ (.cells #[.int .i64 0, .int .u32 0, .bool false] 93)
  have hsA := Lib.hid hs0
  have hs1 := Lib.hid (see_drew hlk'.out hs0)
  clear hs0
  go_region_held3 (fun W => W.cell? ⟨b, 1, none⟩ = some (.map (some mb)) ∧ HoldsM Tryz.prog 3 bvE W mb (allF st) ∧ (Instr.lookup 87 (.map (some mb)) (.int .i64 (p : Int)) true).run Tryz.prog W = .ok (.tuple #[.agg #[.int .i64 sz, .int .u32 gn, .bool true], .bool true]) W) (first | exact hs1.out | exact hHeld | exact see_drew hlk'.out (see_alloc hlk'.out hsA.out _)) (first | (go_at_call 37; refine (cp _).mono ?_; rintro e w' ⟨rfl, rfl⟩))
  all_goals
    rename_i hH1; clear hH1
    go_wp2
    exact bodyPost_ret (v := .tuple #[.agg #[.int .i64 sz, .int .u32 gn, .bool true], .bool true]) (by simp [results, Tryz.results36, go_sem]) rfl ⟨rfl, (((Keeps.refl _ w).alloc _).alloc _).drew⟩

set_option maxRecDepth 100000 in
theorem find_not1 {b mb : Nat} {f : Int → Option BV} (ref p sz gn : Nat) (lv : Bool) (_hr : ref < 18446744073709551616) (cp : ∀ w : World, Calls Tryz.prog 37 #[.int .u64 ref] w fun e w' => e = .returned (.int .i64 (p : Int)) ∧ w = w')
    (hlk : ∀ W, HoldsM Tryz.prog 3 bvE W mb f → (Instr.lookup 87 (.map (some mb)) (.int .i64 (p : Int)) true).run Tryz.prog W = .ok (.tuple #[.agg #[.int .i64 sz, .int .u32 gn, .bool lv], .bool false]) W)
    (w : World) (c1 : w.cell? ⟨b, 1, none⟩ = some (.map (some mb))) (hall : HoldsM Tryz.prog 3 bvE w mb f) :
    Calls Tryz.prog 36 #[.pointer (some ⟨b, 0, none⟩), .int .u64 ref] w fun e w' => e = .returned (.tuple #[.agg #[.int .i64 0, .int .u32 0, .bool false], .bool false]) ∧ Keeps (fun _ => False) w w' := by
  have hall' := Lib.hid hall
  have hlk' := Lib.hid hlk
  clear hall hlk
  go_enter Tryz.func36, Tryz.ntmps36
  go_wp2
  have hs0 := see_alloc (b := b) hlk'.out ⟨c1, hall'.out, hlk'.out _ hall'.out⟩ (.cells #[.int .i64 0, .int .u32 0, .bool false] 93)
  have hsA := Lib.hid hs0
  have hs1 := Lib.hid (see_drew hlk'.out hs0)
  clear hs0
  go_region_held3 (fun W => W.cell? ⟨b, 1, none⟩ = some (.map (some mb)) ∧ HoldsM Tryz.prog 3 bvE W mb f ∧ (Instr.lookup 87 (.map (some mb)) (.int .i64 (p : Int)) true).run Tryz.prog W = .ok (.tuple #[.agg #[.int .i64 sz, .int .u32 gn, .bool lv], .bool false]) W) (first | exact hs1.out | exact hHeld | exact see_drew hlk'.out (see_alloc hlk'.out hsA.out _)) (first | (go_at_call 37; refine (cp _).mono ?_; rintro e w' ⟨rfl, rfl⟩))
  all_goals
    rename_i hH1; clear hH1
    go_wp2
    exact bodyPost_ret (v := .tuple #[.agg #[.int .i64 0, .int .u32 0, .bool false], .bool false]) (by simp [results, Tryz.results36, go_sem]) rfl ⟨rfl, (((Keeps.refl _ w).alloc _).alloc _).drew⟩

set_option maxRecDepth 100000 in
theorem find_not2 {b mb : Nat} {f : Int → Option BV} (ref p sz gn : Nat) (_hr : ref < 18446744073709551616) (cp : ∀ w : World, Calls Tryz.prog 37 #[.int .u64 ref] w fun e w' => e = .returned (.int .i64 (p : Int)) ∧ w = w')
    (hlk : ∀ W, HoldsM Tryz.prog 3 bvE W mb f → (Instr.lookup 87 (.map (some mb)) (.int .i64 (p : Int)) true).run Tryz.prog W = .ok (.tuple #[.agg #[.int .i64 sz, .int .u32 gn, .bool false], .bool true]) W)
    (w : World) (c1 : w.cell? ⟨b, 1, none⟩ = some (.map (some mb))) (hall : HoldsM Tryz.prog 3 bvE w mb f) :
    Calls Tryz.prog 36 #[.pointer (some ⟨b, 0, none⟩), .int .u64 ref] w fun e w' => e = .returned (.tuple #[.agg #[.int .i64 0, .int .u32 0, .bool false], .bool false]) ∧ Keeps (fun _ => False) w w' := by
  have hall' := Lib.hid hall
  have hlk' := Lib.hid hlk
  clear hall hlk
  go_enter Tryz.func36, Tryz.ntmps36
  go_wp2
  have hs0 := see_alloc (b := b) hlk'.out ⟨c1, hall'.out, hlk'.out _ hall'.out⟩ (.cells #[.int .i64 0, .int .u32 0, .bool false] 93)
  have hsA := Lib.hid hs0
  have hs1 := Lib.hid (see_drew hlk'.out hs0)
  clear hs0
  go_region_held3 (fun W => W.cell? ⟨b, 1, none⟩ = some (.map (some mb)) ∧ HoldsM Tryz.prog 3 bvE W mb f ∧ (Instr.lookup 87 (.map (some mb)) (.int .i64 (p : Int)) true).run Tryz.prog W = .ok (.tuple #[.agg #[.int .i64 sz, .int .u32 gn, .bool false], .bool true]) W) (first | exact hs1.out | exact hHeld | exact see_drew hlk'.out (see_alloc hlk'.out hsA.out _)) (first | (go_at_call 37; refine (cp _).mono ?_; rintro e w' ⟨rfl, rfl⟩))
  all_goals
    rename_i hH1; clear hH1
    go_wp2
    exact bodyPost_ret (v := .tuple #[.agg #[.int .i64 0, .int .u32 0, .bool false], .bool false]) (by simp [results, Tryz.results36, go_sem]) rfl ⟨rfl, (((Keeps.refl _ w).alloc _).alloc _).drew⟩

set_option maxRecDepth 100000 in
theorem find_not3 {b mb : Nat} {f : Int → Option BV} (ref p sz gn : Nat) (hr : ref < 18446744073709551616) (cp : ∀ w : World, Calls Tryz.prog 37 #[.int .u64 ref] w fun e w' => e = .returned (.int .i64 (p : Int)) ∧ w = w')
    (hlk : ∀ W, HoldsM Tryz.prog 3 bvE W mb f → (Instr.lookup 87 (.map (some mb)) (.int .i64 (p : Int)) true).run Tryz.prog W = .ok (.tuple #[.agg #[.int .i64 sz, .int .u32 gn, .bool true], .bool true]) W)
    (e4 : (ref : Int) / 4294967296 < 4294967296) (e6 : ((gn : Int) != (ref : Int) / 4294967296) = true)
    (w : World) (c1 : w.cell? ⟨b, 1, none⟩ = some (.map (some mb))) (hall : HoldsM Tryz.prog 3 bvE w mb f) :
    Calls Tryz.prog 36 #[.pointer (some ⟨b, 0, none⟩), .int .u64 ref] w fun e w' => e = .returned (.tuple #[.agg #[.int .i64 0, .int .u32 0, .bool false], .bool false]) ∧ Keeps (fun _ => False) w w' := by
  have hall' := Lib.hid hall
  have hlk' := Lib.hid hlk
  clear hall hlk
  go_enter Tryz.func36, Tryz.ntmps36
  go_wp2
  have hs0 := see_alloc (b := b) hlk'.out ⟨c1, hall'.out, hlk'.out _ hall'.out⟩ (.cells #[.int .i64 0, .int .u32 0, .bool false] 93)
  have hsA := Lib.hid hs0
  have hs1 := Lib.hid (see_drew hlk'.out hs0)
  clear hs0
  go_region_held3 (fun W => W.cell? ⟨b, 1, none⟩ = some (.map (some mb)) ∧ HoldsM Tryz.prog 3 bvE W mb f ∧ (Instr.lookup 87 (.map (some mb)) (.int .i64 (p : Int)) true).run Tryz.prog W = .ok (.tuple #[.agg #[.int .i64 sz, .int .u32 gn, .bool true], .bool true]) W) (first | exact hs1.out | exact hHeld | exact see_drew hlk'.out (see_alloc hlk'.out hsA.out _)) (first | (go_at_call 37; refine (cp _).mono ?_; rintro e w' ⟨rfl, rfl⟩))
  all_goals
    rename_i hH1; clear hH1
    go_wp2
    exact bodyPost_ret (v := .tuple #[.agg #[.int .i64 0, .int .u32 0, .bool false], .bool false]) (by simp [results, Tryz.results36, go_sem]) rfl ⟨rfl, (((Keeps.refl _ w).alloc _).alloc _).drew⟩


theorem find_miss {b : Nat} {ws : List Int} {cnt : Nat} {st : St} {X : Nat → Prop} (ref : Nat) (hr : ref < 18446744073709551616) (hB : st.get ref = none) (w : World) (h : Bk w b ws cnt st X) :
    Calls Tryz.prog 36 #[.pointer (some ⟨b, 0, none⟩), .int .u64 ref] w fun e w' => e = .returned (.tuple #[.agg #[.int .i64 0, .int .u32 0, .bool false], .bool false]) ∧ Keeps (fun _ => False) w w' := by
  obtain ⟨a, bw, mb, fb, rows, h⟩ := h
  have c1 : w.cell? ⟨b, 1, none⟩ = some (.map (some mb)) := h.blk.at_ 1
  have hlt : ref % 4294967296 < 4294967296 := Nat.mod_lt _ (by decide)
  have hw : (Lit.int .i64 ((ref % 4294967296 : Nat) : Int)).wf = true := WalkArith.wf_i64 (by omega)
  have hlk : ∀ W, HoldsM Tryz.prog 3 bvE W mb (allF st) → (Instr.lookup 87 (.map (some mb)) (.int .i64 ((ref % 4294967296 : Nat) : Int)) true).run Tryz.prog W = .ok (.tuple #[bvE.val ((allF st (ref % 4294967296 : Nat)).getD ⟨0, 0, false⟩), .bool (allF st (ref % 4294967296 : Nat)).isSome]) W := fun W hW => hW.look_ok Tryz.underlying3 Tryz.underlying87 ⟨0, 0, false⟩ (zero_bv _) _ hw
  rw [allF_at] at hlk
  have cp := placeOf_any ref hr
  unfold St.get at hB
  cases hat : st.at (ref % 4294967296) with
  | none =>
    rw [hat] at hlk
    exact find_not1 ref _ 0 0 false hr cp (fun W hW => hlk W hW) w c1 h.all
  | some B =>
    rw [hat] at hlk hB
    cases hl : B.live with
    | false => exact find_not2 ref _ B.size B.gen hr cp (fun W hW => (hlk W hW).trans (by show Result.ok (Value.tuple #[Value.agg #[Value.int .i64 B.size, Value.int .u32 B.gen, Value.bool B.live], Value.bool true]) W = _; rw [hl])) w c1 h.all
    | true =>
      refine find_not3 ref _ B.size B.gen hr cp (fun W hW => (hlk W hW).trans (by show Result.ok (Value.tuple #[Value.agg #[Value.int .i64 B.size, Value.int .u32 B.gen, Value.bool B.live], Value.bool true]) W = _; rw [hl])) (by omega) ?_ w c1 h.all
      simp only [hl, true_and, ite_eq_right_iff] at hB
      have : B.gen ≠ ref / 4294967296 := fun e => by have := hB e; cases this
      simp
      omega
end Go.Proofs.YtenhmficiegpiaaGreatDoor
