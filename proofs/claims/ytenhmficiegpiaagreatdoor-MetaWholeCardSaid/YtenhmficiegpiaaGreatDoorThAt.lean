/-
  blocks: Load, Store, CAS, Alloc and Free of what is there, by contract, the arena under its name.
-/
import Derived.Test.YtenhmficiegpiaaGreatDoorBkMore
namespace Go.Proofs.YtenhmficiegpiaaGreatDoor
open Go.RowKit Go.Extern.Stop Go.Stop Go.Extern

/-- Blocks on the arena a. -/
def BkAt (w : World) (b a : Nat) (ws : List Int) (cnt : Nat) (st : St) (X : Nat → Prop) : Prop :=
  ∃ bw mb fb rows, BkParts w b a bw mb fb ws cnt st rows X

theorem BkAt.bk {w : World} {b a : Nat} {ws : List Int} {cnt : Nat} {st : St} {X : Nat → Prop} (h : BkAt w b a ws cnt st X) : Bk w b ws cnt st X := by
  obtain ⟨bw, mb, fb, rows, h⟩ := h
  exact ⟨a, bw, mb, fb, rows, h⟩
theorem BkAt.keeps {w w' : World} {b a : Nat} {ws : List Int} {cnt : Nat} {st : St} {X S : Nat → Prop} (h : BkAt w b a ws cnt st X) (k : Keeps S w w') (hS : ∀ x, X x → ¬ S x) : BkAt w' b a ws cnt st X := by
  obtain ⟨bw, mb, fb, rows, h⟩ := h
  exact ⟨bw, mb, fb, rows, h.keeps k hS⟩
theorem BkAt.same {w w' : World} {b a : Nat} {ws : List Int} {cnt : Nat} {st : St} {X : Nat → Prop} (h : BkAt w b a ws cnt st X) (k : Keeps (fun _ => False) w w') : BkAt w' b a ws cnt st X := h.keeps k fun _ _ => id
theorem BkAt.old {w : World} {b a : Nat} {ws : List Int} {cnt : Nat} {st : St} {X : Nat → Prop} (h : BkAt w b a ws cnt st X) : ∀ k, X k → k < w.heap.size := h.bk.old
theorem BkAt.arena {w : World} {b a : Nat} {ws : List Int} {cnt : Nat} {st : St} {X : Nat → Prop} (h : BkAt w b a ws cnt st X) : ∃ bw, Arena w a bw ws cnt := by
  obtain ⟨bw, mb, fb, rows, h⟩ := h
  exact ⟨bw, h.arena⟩
theorem BkAt.ok {w : World} {b a : Nat} {ws : List Int} {cnt : Nat} {st : St} {X : Nat → Prop} (h : BkAt w b a ws cnt st X) : st.Ok ws.length := by
  obtain ⟨bw, mb, fb, rows, h⟩ := h
  exact h.ok

def DidAt (w : World) (b a : Nat) (ws : List Int) (cnt : Nat) (st : St) (X : Nat → Prop) (v : Value) (e : Ending) (w' : World) : Prop :=
  e = .returned v ∧ BkAt w' b a ws cnt st X ∧ Keeps X w w'
def GivenAt (w : World) (b a : Nat) (ws : List Int) (cnt : Nat) (st : St) (X : Nat → Prop) (ref place n : Nat) (e : Ending) (w' : World) : Prop :=
  e = .returned (.tuple #[.int .u64 (ref : Int), .nilIface]) ∧ (∃ ws', Zeroed ws ws' place n ∧ BkAt w' b a ws' (cnt + n + 1) st X) ∧ Keeps X w w'
def FreedAt (w : World) (b a : Nat) (ws : List Int) (cnt : Nat) (st : St) (X : Nat → Prop) (place : Nat) (e : Ending) (w' : World) : Prop :=
  e = .returned .nilIface ∧ (∃ X' hd, BkAt w' b a (ws.set place hd) (cnt + 1) st X' ∧ ∀ x, X' x → X x ∨ w.heap.size ≤ x) ∧ Keeps X w w'

theorem bk_load_at {b a : Nat} {ws : List Int} {cnt : Nat} {st : St} {X : Nat → Prop} (ref : Nat) (hr : ref < 18446744073709551616) (B : Blk) (hB : st.get ref = some B) (i : Nat) (hi : i < B.size) (hcnt : cnt ≤ 1000000) (w : World) (h : BkAt w b a ws cnt st X) :
    Calls Tryz.prog 80 #[.pointer (some ⟨b, 0, none⟩), .int .u64 ref, .int .i64 i] w fun e w' => DidAt w b a ws (cnt + 1) st X (.tuple #[.int .u64 (ws.getD (B.place + 1 + i) 0), .nilIface]) e w' := by
  have cw := word_hit ref hr B hB i hi w h.bk
  obtain ⟨bw, mb, fb, rows, h⟩ := h
  have c0 : w.cell? ⟨b, 0, none⟩ = some (.pointer (some ⟨a, 0, none⟩)) := h.blk.at_ 0
  have hlt := St.room_of h.ok hB hi
  have cl := load_in a bw ws cnt (B.place + 1 + i) hlt hcnt
  generalize ws.getD (B.place + 1 + i) 0 = x at cl ⊢
  generalize B.place + 1 + i = j at cw cl
  have lb := h.blk.lt
  have h' := Lib.hid h
  have cw' := Lib.hid cw
  have cl' := Lib.hid cl
  clear h cw cl hB
  go_enter Tryz.func80, Tryz.ntmps80
  go_wp2_with fail
  refine cw'.out.mono ?_
  rintro e w1 ⟨rfl, hK⟩
  have c1 : w1.cell? ⟨b, 0, none⟩ = some (.pointer (some ⟨a, 0, none⟩)) := (h'.out.keeps hK fun _ _ => id).blk.at_ 0
  have hK' := Lib.hid hK
  clear hK
  go_wp2_with fail
  refine (cl'.out _ (h'.out.keeps hK'.out fun _ _ => id).arena).mono ?_
  rintro e w2 ⟨rfl, hA, hK2⟩
  have hA' := Lib.hid hA
  have hK2' := Lib.hid hK2
  clear hA hK2
  go_wp2_with fail
  go_ret2
  exact ⟨rfl, ⟨bw, mb, fb, rows, (h'.out.keeps hK'.out fun _ _ => id).accessed hA'.out rfl hK2'.out⟩, (hK'.out.mono fun _ _ => False.elim).trans hK2'.out fun x _ => h'.out.its x⟩

theorem bk_store_at {b a : Nat} {ws : List Int} {cnt : Nat} {st : St} {X : Nat → Prop} (ref : Nat) (hr : ref < 18446744073709551616) (B : Blk) (hB : st.get ref = some B) (i : Nat) (hi : i < B.size) (x : Int) (hcnt : cnt ≤ 1000000) (w : World) (h : BkAt w b a ws cnt st X) :
    Calls Tryz.prog 44 #[.pointer (some ⟨b, 0, none⟩), .int .u64 ref, .int .i64 i, .int .u64 x] w fun e w' => DidAt w b a (ws.set (B.place + 1 + i) x) (cnt + 1) st X .nilIface e w' := by
  have cw := word_hit ref hr B hB i hi w h.bk
  obtain ⟨bw, mb, fb, rows, h⟩ := h
  have c0 : w.cell? ⟨b, 0, none⟩ = some (.pointer (some ⟨a, 0, none⟩)) := h.blk.at_ 0
  have hlt := St.room_of h.ok hB hi
  have cl := store_in a bw ws cnt (B.place + 1 + i) x hlt hcnt
  have hws : (ws.set (B.place + 1 + i) x).length = ws.length := List.length_set ..
  generalize ws.set (B.place + 1 + i) x = ws' at cl hws ⊢
  generalize B.place + 1 + i = j at cw cl
  have lb := h.blk.lt
  have h' := Lib.hid h
  have cw' := Lib.hid cw
  have cl' := Lib.hid cl
  have hws' := Lib.hid hws
  clear h cw cl hB hws
  go_enter Tryz.func44, Tryz.ntmps44
  go_wp2_with fail
  refine cw'.out.mono ?_
  rintro e w1 ⟨rfl, hK⟩
  have c1 : w1.cell? ⟨b, 0, none⟩ = some (.pointer (some ⟨a, 0, none⟩)) := (h'.out.keeps hK fun _ _ => id).blk.at_ 0
  have hK' := Lib.hid hK
  clear hK
  go_wp2_with fail
  refine (cl'.out _ (h'.out.keeps hK'.out fun _ _ => id).arena).mono ?_
  rintro e w2 ⟨rfl, hA, hK2⟩
  have hA' := Lib.hid hA
  have hK2' := Lib.hid hK2
  clear hA hK2
  go_wp2_with fail
  go_ret
  exact ⟨rfl, ⟨bw, mb, fb, rows, (h'.out.keeps hK'.out fun _ _ => id).accessed hA'.out hws'.out hK2'.out⟩, (hK'.out.mono fun _ _ => False.elim).trans hK2'.out fun x _ => h'.out.its x⟩

theorem bk_cas_at {b a : Nat} {ws : List Int} {cnt : Nat} {st : St} {X : Nat → Prop} (ref : Nat) (hr : ref < 18446744073709551616) (B : Blk) (hB : st.get ref = some B) (i : Nat) (hi : i < B.size) (p x : Int) (hcnt : cnt ≤ 1000000) (w : World) (h : BkAt w b a ws cnt st X) :
    Calls Tryz.prog 82 #[.pointer (some ⟨b, 0, none⟩), .int .u64 ref, .int .i64 i, .int .u64 p, .int .u64 x] w fun e w' => DidAt w b a (if ws.getD (B.place + 1 + i) 0 = p then ws.set (B.place + 1 + i) x else ws) (cnt + 1) st X (.tuple #[.bool (decide (ws.getD (B.place + 1 + i) 0 = p)), .nilIface]) e w' := by
  have cw := word_hit ref hr B hB i hi w h.bk
  obtain ⟨bw, mb, fb, rows, h⟩ := h
  have c0 : w.cell? ⟨b, 0, none⟩ = some (.pointer (some ⟨a, 0, none⟩)) := h.blk.at_ 0
  have hlt := St.room_of h.ok hB hi
  obtain ⟨ws', r, hws, hr', hl, cl⟩ : ∃ (ws' : List Int) (r : Bool), ws' = (if ws.getD (B.place + 1 + i) 0 = p then ws.set (B.place + 1 + i) x else ws) ∧ r = decide (ws.getD (B.place + 1 + i) 0 = p) ∧ ws'.length = ws.length ∧ ∀ w, Arena w a bw ws cnt → Calls Tryz.prog 89 #[.pointer (some ⟨a, 0, none⟩), .int .i64 ((B.place + 1 + i : Nat) : Int), .int .u64 p, .int .u64 x] w fun e w' => Done w a bw ws' cnt (.tuple #[.bool r, .nilIface]) e w' := by
    by_cases c : ws.getD (B.place + 1 + i) 0 = p
    · exact ⟨_, true, by rw [if_pos c], by rw [decide_eq_true c], List.length_set .., fun w h => cas_yes a bw ws cnt (B.place + 1 + i) p x c hlt hcnt w h⟩
    · exact ⟨_, false, by rw [if_neg c], by rw [decide_eq_false c], rfl, fun w h => cas_no a bw ws cnt (B.place + 1 + i) p x c hlt hcnt w h⟩
  rw [← hws, ← hr']
  generalize B.place + 1 + i = j at cw cl
  have lb := h.blk.lt
  have h' := Lib.hid h
  have cw' := Lib.hid cw
  have cl' := Lib.hid cl
  have hl' := Lib.hid hl
  clear h cw cl hB hws hr' hl hlt
  go_enter Tryz.func82, Tryz.ntmps82
  go_wp2_with fail
  refine cw'.out.mono ?_
  rintro e w1 ⟨rfl, hK⟩
  have c1 : w1.cell? ⟨b, 0, none⟩ = some (.pointer (some ⟨a, 0, none⟩)) := (h'.out.keeps hK fun _ _ => id).blk.at_ 0
  have hK' := Lib.hid hK
  clear hK
  go_wp2_with fail
  refine (cl'.out _ (h'.out.keeps hK'.out fun _ _ => id).arena).mono ?_
  rintro e w2 ⟨rfl, hA, hK2⟩
  have hA' := Lib.hid hA
  have hK2' := Lib.hid hK2
  clear hA hK2
  go_wp2_with fail
  go_ret2
  exact ⟨rfl, ⟨bw, mb, fb, rows, (h'.out.keeps hK'.out fun _ _ => id).accessed hA'.out hl'.out hK2'.out⟩, (hK'.out.mono fun _ _ => False.elim).trans hK2'.out fun x _ => h'.out.its x⟩

theorem alloc_pop_at {w : World} {b a : Nat} {ws : List Int} {cnt : Nat} {st : St} {X : Nat → Prop} (h : BkAt w b a ws cnt st X) (n : Nat) (hn : 1 ≤ n ∧ n ≤ 64) (B : Blk) (hB : B ∈ st.bs) (hs : B.size = n) (hl : B.live = false) (hg : B.gen < 4294967295) (l : List Nat) (hfr : st.fr n = l ++ [B.place]) (hcnt : cnt + 100 ≤ 1000000) :
    Calls Tryz.prog 42 #[.pointer (some ⟨b, 0, none⟩), .int .i64 n] w fun e w' => GivenAt w b a ws cnt (st.pop B l) X B.ref B.place n e w' := by
  subst hs
  obtain ⟨bw, mb, fb, rows, h⟩ := h
  have hf := h.ok.fits B hB
  have hr := h.ok.room
  have ha : allF st (B.place : Int) = some ⟨B.size, B.gen, false⟩ := by
    rw [allF_at, St.at_mem h.ok hB, ← hl]
    rfl
  refine (alloc_walk h.toBkRaw B.size hn B.place B.gen false (take_pop h.toBkRaw B.size hn l B.place hfr) ha (by omega) _ (allF_keys st) (Nat.lt_of_succ_lt (places_len h)) (by omega) hcnt).mono ?_
  rintro e w' ⟨rfl, ⟨rows', ws', hZ, hR⟩, hK⟩
  have hf2 : upd (allF st) (B.place : Int) ⟨B.size, B.gen, true⟩ = allF (st.pop B l) := (allF_set (B := { B with live := true }) ⟨B, hB, rfl⟩ (st.pop B l) rfl).symm
  refine ⟨rfl, ⟨ws', hZ, ⟨bw, mb, fb, rows', ⟨?_, by rw [hZ.1]; exact ok_pop h.ok hB hl hg hfr⟩⟩⟩, hK⟩
  rw [hf2] at hR
  exact hR

theorem alloc_new_at {w : World} {b a : Nat} {ws : List Int} {cnt : Nat} {st : St} {X : Nat → Prop} (h : BkAt w b a ws cnt st X) (n : Nat) (hn : 1 ≤ n ∧ n ≤ 64) (hfr : st.fr n = []) (hroom : st.top + 1 + n ≤ ws.length) (hcnt : cnt + 100 ≤ 1000000) :
    Calls Tryz.prog 42 #[.pointer (some ⟨b, 0, none⟩), .int .i64 n] w fun e w' => GivenAt w b a ws cnt (st.fresh n) X st.top st.top n e w' := by
  obtain ⟨bw, mb, fb, rows, h⟩ := h
  have ct := take_new h.toBkRaw n hn hfr hroom _ (allF_keys st) (Nat.lt_of_succ_lt (places_len h))
  refine (alloc_walk (f1 := upd (allF st) (st.top : Int) ⟨n, 0, false⟩) (fr1 := st.fr) (top1 := st.top + 1 + n) h.toBkRaw n hn st.top 0 false (ct.mono fun e w' ⟨h1, h2, h3⟩ => ⟨h1, ⟨rows, h2⟩, h3⟩) (by unfold upd; rw [if_pos rfl]; rfl) (by omega) ((st.top : Int) :: st.bs.map fun B => (B.place : Int)) (fun j hj => ?_) (places_len h) (by omega) hcnt).mono ?_
  · unfold upd at hj
    split at hj
    · rename_i e; rw [e]; exact List.mem_cons_self ..
    · exact List.mem_cons_of_mem _ (allF_keys st j hj)
  rintro e w' ⟨rfl, ⟨rows', ws', hZ, hR⟩, hK⟩
  have hf2 : upd (upd (allF st) (st.top : Int) ⟨n, 0, false⟩) (st.top : Int) ⟨n, (0 : Nat), true⟩ = allF (st.fresh n) := by
    rw [upd_upd]
    exact (allF_snoc (B := ⟨st.top, n, 0, true⟩) (fun C hC e => by have := (h.ok.fits C hC).2.2.1; have : C.place = st.top := e; omega) (st.fresh n) rfl).symm
  refine ⟨by simp, ⟨ws', hZ, ⟨bw, mb, fb, rows', ⟨?_, by rw [hZ.1]; exact ok_fresh h.ok hn hroom⟩⟩⟩, hK⟩
  rw [hf2] at hR
  exact hR

end Go.Proofs.YtenhmficiegpiaaGreatDoor
