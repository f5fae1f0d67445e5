/-
  blocks: what is lacking of its calls by contract: a word that is out of range, a CAS that finds its word, Alloc of a size that may not be, and where nothing is free.
-/
import Derived.Test.YtenhmficiegpiaaGreatDoorBkFree
namespace Go.Proofs.YtenhmficiegpiaaGreatDoor
open Go.RowKit Go.Extern.Stop Go.Stop Go.Extern

theorem word_range {b : Nat} {ws : List Int} {cnt : Nat} {st : St} {X : Nat → Prop} (ref : Nat) (hr : ref < 18446744073709551616) (B : Blk) (hB : st.get ref = some B) (i : Int) (hi : i < 0 ∨ (B.size : Int) ≤ i) (w : World) (h : Bk w b ws cnt st X) :
    Calls Tryz.prog 64 #[.pointer (some ⟨b, 0, none⟩), .int .u64 ref, .int .i64 i] w fun e w' => FaultOf w (fun x => .returned (.tuple #[.int .i64 0, x])) i 3 e w' := by
  have cf := size_hit ref hr B hB w h
  generalize B.size = sz at cf hi
  have cf' := Lib.hid cf
  clear cf h hB
  by_cases h0 : i < 0
  · clear hi
    go_enter Tryz.func64, Tryz.ntmps64
    go_wp2_with (first
      | (go_at_call 23; refine cf'.out.mono ?_; rintro e w' ⟨rfl, hK⟩; have hK' := Lib.hid hK; clear hK))
    go_ret2
    exact ⟨_, rfl, Whole.made _ _ _, hK'.out.alloc _⟩
  · have h1 : (sz : Int) ≤ i := hi.resolve_left h0
    clear hi
    go_enter Tryz.func64, Tryz.ntmps64
    go_wp2_with (first
      | (go_at_call 23; refine cf'.out.mono ?_; rintro e w' ⟨rfl, hK⟩; have hK' := Lib.hid hK; clear hK))
    go_ret2
    exact ⟨_, rfl, Whole.made _ _ _, hK'.out.alloc _⟩

theorem bk_load_range {b : Nat} {ws : List Int} {cnt : Nat} {st : St} {X : Nat → Prop} (ref : Nat) (hr : ref < 18446744073709551616) (B : Blk) (hB : st.get ref = some B) (i : Int) (hi : i < 0 ∨ (B.size : Int) ≤ i) (w : World) (h : Bk w b ws cnt st X) :
    Calls Tryz.prog 80 #[.pointer (some ⟨b, 0, none⟩), .int .u64 ref, .int .i64 i] w fun e w' => FaultOf w (fun x => .returned (.tuple #[.int .u64 0, x])) i 3 e w' := by
  have cw' := Lib.hid (word_range ref hr B hB i hi w h)
  clear h hB hi
  go_enter Tryz.func80, Tryz.ntmps80
  go_wp2_with (first | (go_at_call 64; refine cw'.out.mono ?_; rintro e w' ⟨p, rfl, hW, hK⟩; have hK' := Lib.hid hK; have hW' := Lib.hid hW; clear hK hW))
  go_ret2
  exact ⟨_, rfl, hW'.out, hK'.out⟩

theorem bk_store_range {b : Nat} {ws : List Int} {cnt : Nat} {st : St} {X : Nat → Prop} (ref : Nat) (hr : ref < 18446744073709551616) (B : Blk) (hB : st.get ref = some B) (i x : Int) (hi : i < 0 ∨ (B.size : Int) ≤ i) (w : World) (h : Bk w b ws cnt st X) :
    Calls Tryz.prog 44 #[.pointer (some ⟨b, 0, none⟩), .int .u64 ref, .int .i64 i, .int .u64 x] w fun e w' => FaultOf w (fun x => .returned x) i 3 e w' := by
  have cw' := Lib.hid (word_range ref hr B hB i hi w h)
  clear h hB hi
  go_enter Tryz.func44, Tryz.ntmps44
  go_wp2_with (first | (go_at_call 64; refine cw'.out.mono ?_; rintro e w' ⟨p, rfl, hW, hK⟩; have hK' := Lib.hid hK; have hW' := Lib.hid hW; clear hK hW))
  go_ret
  exact ⟨_, rfl, hW'.out, hK'.out⟩

theorem bk_cas_range {b : Nat} {ws : List Int} {cnt : Nat} {st : St} {X : Nat → Prop} (ref : Nat) (hr : ref < 18446744073709551616) (B : Blk) (hB : st.get ref = some B) (i x y : Int) (hi : i < 0 ∨ (B.size : Int) ≤ i) (w : World) (h : Bk w b ws cnt st X) :
    Calls Tryz.prog 82 #[.pointer (some ⟨b, 0, none⟩), .int .u64 ref, .int .i64 i, .int .u64 x, .int .u64 y] w fun e w' => FaultOf w (fun x => .returned (.tuple #[.bool false, x])) i 3 e w' := by
  have cw' := Lib.hid (word_range ref hr B hB i hi w h)
  clear h hB hi
  go_enter Tryz.func82, Tryz.ntmps82
  go_wp2_with (first | (go_at_call 64; refine cw'.out.mono ?_; rintro e w' ⟨p, rfl, hW, hK⟩; have hK' := Lib.hid hK; have hW' := Lib.hid hW; clear hK hW))
  go_ret2
  exact ⟨_, rfl, hW'.out, hK'.out⟩

/-- A CAS of a good ref's word: done just if the word is what is expected. -/
theorem bk_cas {b : Nat} {ws : List Int} {cnt : Nat} {st : St} {X : Nat → Prop} (ref : Nat) (hr : ref < 18446744073709551616) (B : Blk) (hB : st.get ref = some B) (i : Nat) (hi : i < B.size) (p x : Int) (hcnt : cnt ≤ 1000000) (w : World) (h : Bk w b ws cnt st X) :
    Calls Tryz.prog 82 #[.pointer (some ⟨b, 0, none⟩), .int .u64 ref, .int .i64 i, .int .u64 p, .int .u64 x] w fun e w' => Did w b (if ws.getD (B.place + 1 + i) 0 = p then ws.set (B.place + 1 + i) x else ws) (cnt + 1) st X (.tuple #[.bool (decide (ws.getD (B.place + 1 + i) 0 = p)), .nilIface]) e w' := by
  have cw := word_hit ref hr B hB i hi w h
  obtain ⟨a, bw, mb, fb, rows, h⟩ := h
  have c0 : w.cell? ⟨b, 0, none⟩ = some (.pointer (some ⟨a, 0, none⟩)) := h.blk.at_ 0
  have hlt := St.room_of h.ok hB hi
  obtain ⟨ws', r, hws, hr', hl, cl⟩ : ∃ (ws' : List Int) (r : Bool), ws' = (if ws.getD (B.place + 1 + i) 0 = p then ws.set (B.place + 1 + i) x else ws) ∧ r = decide (ws.getD (B.place + 1 + i) 0 = p) ∧ ws'.length = ws.length ∧ ∀ w, Arena w a bw ws cnt → Calls Tryz.prog 89 #[.pointer (some ⟨a, 0, none⟩), .int .i64 ((B.place + 1 + i : Nat) : Int), .int .u64 p, .int .u64 x] w fun e w' => Done w a bw ws' cnt (.tuple #[.bool r, .nilIface]) e w' := by
    by_cases c : ws.getD (B.place + 1 + i) 0 = p
    · exact ⟨_, true, by rw [if_pos c], by rw [decide_eq_true c], List.length_set .., fun w h => cas_yes a bw ws cnt (B.place + 1 + i) p x c hlt hcnt w h⟩
    · exact ⟨_, false, by rw [if_neg c], by rw [decide_eq_false c], rfl, fun w h => cas_no a bw ws cnt (B.place + 1 + i) p x c hlt hcnt w h⟩
  rw [← hws, ← hr']
  generalize B.place + 1 + i = j at cw cl
  have lb := h.blk.lt
  have h' := Lib.hid h
  have cw' := Lib.hid cw
  have cl' := Lib.hid cl
  have hl' := Lib.hid hl
  clear h cw cl hB hws hr' hl hlt
  go_enter Tryz.func82, Tryz.ntmps82
  go_wp2_with fail
  refine cw'.out.mono ?_
  rintro e w1 ⟨rfl, hK⟩
  have c1 : w1.cell? ⟨b, 0, none⟩ = some (.pointer (some ⟨a, 0, none⟩)) := (h'.out.keeps hK fun _ _ => id).blk.at_ 0
  have hK' := Lib.hid hK
  clear hK
  go_wp2_with fail
  refine (cl'.out _ (h'.out.keeps hK'.out fun _ _ => id).arena).mono ?_
  rintro e w2 ⟨rfl, hA, hK2⟩
  have hA' := Lib.hid hA
  have hK2' := Lib.hid hK2
  clear hA hK2
  go_wp2_with fail
  go_ret2
  exact ⟨rfl, ⟨a, bw, mb, fb, rows, (h'.out.keeps hK'.out fun _ _ => id).accessed hA'.out hl'.out hK2'.out⟩, (hK'.out.mono fun _ _ => False.elim).trans hK2'.out fun x _ => h'.out.its x⟩

/-! ### Alloc -/
theorem alloc_arg {b : Nat} {ws : List Int} {cnt : Nat} {st : St} {X : Nat → Prop} (n : Int) (hn : n < 1 ∨ 64 < n) (w : World) (h : Bk w b ws cnt st X) :
    Calls Tryz.prog 42 #[.pointer (some ⟨b, 0, none⟩), .int .i64 n] w fun e w' => e = .returned (.tuple #[.int .u64 0, .iface 71 (.int .i64 2)]) ∧ w = w' := by
  obtain ⟨a, c0⟩ := h.cell0
  clear h
  by_cases h0 : n < 1
  · clear hn
    go_enter Tryz.func42, Tryz.ntmps42
    go_wp2_with (go_at_call 35; refine (none_bk _ c0).mono ?_; rintro e w' ⟨rfl, rfl⟩)
    go_ret2
    exact ⟨rfl, rfl⟩
  · have h1 : 64 < n := hn.resolve_left h0
    clear hn
    go_enter Tryz.func42, Tryz.ntmps42
    go_wp2_with (go_at_call 35; refine (none_bk _ c0).mono ?_; rintro e w' ⟨rfl, rfl⟩)
    go_ret2
    exact ⟨rfl, rfl⟩

theorem alloc_full {b : Nat} {ws : List Int} {cnt : Nat} {st : St} {X : Nat → Prop} (n : Nat) (hn : 1 ≤ n ∧ n ≤ 64) (hfr : st.fr n = []) (hno : ws.length < st.top + 1 + n) (w : World) (h : Bk w b ws cnt st X) :
    Calls Tryz.prog 42 #[.pointer (some ⟨b, 0, none⟩), .int .i64 n] w fun e w' => e = .returned (.tuple #[.int .u64 0, .iface 71 (.int .i64 4)]) ∧ w = w' := by
  obtain ⟨a, c0⟩ := h.cell0
  obtain ⟨a', bw, mb, fb, rows, h⟩ := h
  have ct := Lib.hid (take_full h.toBkRaw n hn hfr h.ok.room hno)
  have h1 : ¬ (n : Int) < 1 := by omega
  have h2 : ¬ (64 : Int) < (n : Int) := by omega
  clear h hfr hno hn
  go_enter Tryz.func42, Tryz.ntmps42
  go_wp2_with (first
    | (go_at_call 35; refine (none_bk _ c0).mono ?_; rintro e w' ⟨rfl, rfl⟩)
    | (go_at_call 61; refine ct.out.mono ?_; rintro e w' ⟨rfl, rfl⟩))
  go_ret2
  exact ⟨rfl, rfl⟩
end Go.Proofs.YtenhmficiegpiaaGreatDoor
