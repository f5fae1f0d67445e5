/-
  blocks: Load, Store, CAS by contract: of a good ref an access of the arena's word; of a stale one, and of no blocks, nothing but the error.
-/
import Derived.Test.YtenhmficiegpiaaGreatDoorBkSize
namespace Go.Proofs.YtenhmficiegpiaaGreatDoor
open Go.RowKit Go.Extern.Stop Go.Stop Go.Extern

theorem row_ne {w : World} {base : Nat} {e t : TypeId} {size : Nat} {v : Value} {n g : Nat} {xs : List Value} {cs : Array Value} (h : w.ownsRow base e size v n xs) (hw : Whole w g t cs) (hne : e ≠ t) : v.ownBlock ≠ some g := by
  intro hg
  rcases h.2 with ⟨rfl, _⟩ | ⟨g', cap, cur, rfl, _, hgg, _⟩
  · cases hg
  · simp [Value.ownBlock] at hg
    subst hg
    unfold Whole at hw
    rw [hw] at hgg
    injection hgg with hgg
    injection hgg with _ ht
    exact hne ht.symm

theorem row_ne_map {V : Type} {P : Program} {K : TypeId} {E : Enc V} {w : World} {base : Nat} {e : TypeId} {size : Nat} {v : Value} {n b : Nat} {xs : List Value} {f : Int → Option V} (h : w.ownsRow base e size v n xs) (hm : HoldsM P K E w b f) : v.ownBlock ≠ some b := by
  intro hg
  obtain ⟨D, m, ⟨es, clock, hb, _⟩, _⟩ := hm
  rcases h.2 with ⟨rfl, _⟩ | ⟨g', cap, cur, rfl, _, hgg, _⟩
  · cases hg
  · simp [Value.ownBlock] at hg
    subst hg
    rw [hb] at hgg
    cases hgg

/-- The blocks stay while their arena is accessed. -/
theorem BkRaw.accessed {w w' : World} {b a bw mb fb : Nat} {ws ws' : List Int} {cnt cnt' : Nat} {f : Int → Option BV} {fr : Nat → List Nat} {top : Nat} {rows : Int → Option RowV} {X : Nat → Prop} (h : BkRaw w b a bw mb fb ws cnt f fr top rows X) (hA : Arena w' a bw ws' cnt') (k : Keeps (Its a bw) w w') : BkRaw w' b a bw mb fb ws' cnt' f fr top rows X := by
  obtain ⟨⟨lk, la, lo, ln, ld, h1⟩, h2, _⟩ := h.arena
  have n1 : ∀ g, (∃ cs, Whole w g 90 cs) → ¬ Its a bw g := by
    rintro g ⟨cs, hg⟩ (rfl | rfl)
    · exact hg.ne_ h1 (by decide) rfl
    · exact hg.ne_ h2 (by decide) rfl
  have n2 : ∀ {V : Type} {E : Enc V} {f : Int → Option V} {m : Nat}, HoldsM Tryz.prog 3 E w m f → ¬ Its a bw m := by
    rintro V E f m hm (rfl | rfl)
    · exact h1.ne_map hm rfl
    · exact h2.ne_map hm rfl
  exact {
    blk := h.blk.keeps k (n1 _ ⟨_, h.blk⟩)
    arena := hA
    all := h.all.keeps k (n2 h.all)
    freed := h.freed.keeps k (n2 h.freed)
    own := fun n => ownsRow_keeps (h.own n) k fun g hg => by
      rintro (rfl | rfl)
      · exact row_ne (h.own n) h1 (by decide) hg
      · exact row_ne (h.own n) h2 (by decide) hg
    apart := h.apart
    keys := h.keys
    ne := h.ne
    inX := h.inX
    rowX := h.rowX
    old := fun x hx => Nat.lt_of_lt_of_le (h.old x hx) k.size }

theorem BkParts.accessed {w w' : World} {b a bw mb fb : Nat} {ws ws' : List Int} {cnt cnt' : Nat} {st : St} {rows : Int → Option RowV} {X : Nat → Prop} (h : BkParts w b a bw mb fb ws cnt st rows X) (hA : Arena w' a bw ws' cnt') (hl : ws'.length = ws.length) (k : Keeps (Its a bw) w w') : BkParts w' b a bw mb fb ws' cnt' st rows X :=
  ⟨h.toBkRaw.accessed hA k, by rw [hl]; exact h.ok⟩

theorem BkRaw.its {w : World} {b a bw mb fb : Nat} {ws : List Int} {cnt : Nat} {f : Int → Option BV} {fr : Nat → List Nat} {top : Nat} {rows : Int → Option RowV} {X : Nat → Prop} (h : BkRaw w b a bw mb fb ws cnt f fr top rows X) : ∀ x, Its a bw x → X x := by
  rintro x (rfl | rfl)
  · exact h.inX.2.1
  · exact h.inX.2.2.1

/-- What a call leaves: its answer; the blocks as they are now; nothing else has changed. -/
def Did (w : World) (b : Nat) (ws : List Int) (cnt : Nat) (st : St) (X : Nat → Prop) (v : Value) (e : Ending) (w' : World) : Prop :=
  e = .returned v ∧ Bk w' b ws cnt st X ∧ Keeps X w w'

theorem St.room_of {n : Nat} {st : St} (h : st.Ok n) {ref : Nat} {B : Blk} (hB : st.get ref = some B) {i : Nat} (hi : i < B.size) : B.place + 1 + i < n := by
  have h1 := (h.fits B (St.get_some hB).1).2.2.1
  have h2 := h.room
  omega

theorem bk_load {b : Nat} {ws : List Int} {cnt : Nat} {st : St} {X : Nat → Prop} (ref : Nat) (hr : ref < 18446744073709551616) (B : Blk) (hB : st.get ref = some B) (i : Nat) (hi : i < B.size) (hcnt : cnt ≤ 1000000) (w : World) (h : Bk w b ws cnt st X) :
    Calls Tryz.prog 80 #[.pointer (some ⟨b, 0, none⟩), .int .u64 ref, .int .i64 i] w fun e w' => Did w b ws (cnt + 1) st X (.tuple #[.int .u64 (ws.getD (B.place + 1 + i) 0), .nilIface]) e w' := by
  have cw := word_hit ref hr B hB i hi w h
  obtain ⟨a, bw, mb, fb, rows, h⟩ := h
  have c0 : w.cell? ⟨b, 0, none⟩ = some (.pointer (some ⟨a, 0, none⟩)) := h.blk.at_ 0
  have hlt := St.room_of h.ok hB hi
  have cl := load_in a bw ws cnt (B.place + 1 + i) hlt hcnt
  generalize ws.getD (B.place + 1 + i) 0 = x at cl ⊢
  generalize B.place + 1 + i = j at cw cl
  have lb := h.blk.lt
  have h' := Lib.hid h
  have cw' := Lib.hid cw
  have cl' := Lib.hid cl
  clear h cw cl hB
  go_enter Tryz.func80, Tryz.ntmps80
  go_wp2_with fail
  refine cw'.out.mono ?_
  rintro e w1 ⟨rfl, hK⟩
  have c1 : w1.cell? ⟨b, 0, none⟩ = some (.pointer (some ⟨a, 0, none⟩)) := (h'.out.keeps hK fun _ _ => id).blk.at_ 0
  have hK' := Lib.hid hK
  clear hK
  go_wp2_with fail
  refine (cl'.out _ (h'.out.keeps hK'.out fun _ _ => id).arena).mono ?_
  rintro e w2 ⟨rfl, hA, hK2⟩
  have hA' := Lib.hid hA
  have hK2' := Lib.hid hK2
  clear hA hK2
  go_wp2_with fail
  go_ret2
  exact ⟨rfl, ⟨a, bw, mb, fb, rows, (h'.out.keeps hK'.out fun _ _ => id).accessed hA'.out rfl hK2'.out⟩, (hK'.out.mono fun _ _ => False.elim).trans hK2'.out fun x _ => h'.out.its x⟩

theorem bk_store {b : Nat} {ws : List Int} {cnt : Nat} {st : St} {X : Nat → Prop} (ref : Nat) (hr : ref < 18446744073709551616) (B : Blk) (hB : st.get ref = some B) (i : Nat) (hi : i < B.size) (x : Int) (hcnt : cnt ≤ 1000000) (w : World) (h : Bk w b ws cnt st X) :
    Calls Tryz.prog 44 #[.pointer (some ⟨b, 0, none⟩), .int .u64 ref, .int .i64 i, .int .u64 x] w fun e w' => Did w b (ws.set (B.place + 1 + i) x) (cnt + 1) st X .nilIface e w' := by
  have cw := word_hit ref hr B hB i hi w h
  obtain ⟨a, bw, mb, fb, rows, h⟩ := h
  have c0 : w.cell? ⟨b, 0, none⟩ = some (.pointer (some ⟨a, 0, none⟩)) := h.blk.at_ 0
  have hlt := St.room_of h.ok hB hi
  have cl := store_in a bw ws cnt (B.place + 1 + i) x hlt hcnt
  have hws : (ws.set (B.place + 1 + i) x).length = ws.length := List.length_set ..
  generalize ws.set (B.place + 1 + i) x = ws' at cl hws ⊢
  generalize B.place + 1 + i = j at cw cl
  have lb := h.blk.lt
  have h' := Lib.hid h
  have cw' := Lib.hid cw
  have cl' := Lib.hid cl
  have hws' := Lib.hid hws
  clear h cw cl hB hws
  go_enter Tryz.func44, Tryz.ntmps44
  go_wp2_with fail
  refine cw'.out.mono ?_
  rintro e w1 ⟨rfl, hK⟩
  have c1 : w1.cell? ⟨b, 0, none⟩ = some (.pointer (some ⟨a, 0, none⟩)) := (h'.out.keeps hK fun _ _ => id).blk.at_ 0
  have hK' := Lib.hid hK
  clear hK
  go_wp2_with fail
  refine (cl'.out _ (h'.out.keeps hK'.out fun _ _ => id).arena).mono ?_
  rintro e w2 ⟨rfl, hA, hK2⟩
  have hA' := Lib.hid hA
  have hK2' := Lib.hid hK2
  clear hA hK2
  go_wp2_with fail
  go_ret
  exact ⟨rfl, ⟨a, bw, mb, fb, rows, (h'.out.keeps hK'.out fun _ _ => id).accessed hA'.out hws'.out hK2'.out⟩, (hK'.out.mono fun _ _ => False.elim).trans hK2'.out fun x _ => h'.out.its x⟩

theorem bk_load_miss {b : Nat} {ws : List Int} {cnt : Nat} {st : St} {X : Nat → Prop} (ref : Nat) (hr : ref < 18446744073709551616) (hB : st.get ref = none) (i : Int) (w : World) (h : Bk w b ws cnt st X) :
    Calls Tryz.prog 80 #[.pointer (some ⟨b, 0, none⟩), .int .u64 ref, .int .i64 i] w fun e w' => FaultOf w (fun x => .returned (.tuple #[.int .u64 0, x])) ((ref % 4294967296 : Nat) : Int) 5 e w' := by
  have cw' := Lib.hid (word_miss ref hr hB i w h)
  clear h hB
  go_enter Tryz.func80, Tryz.ntmps80
  go_wp2_with (first | (go_at_call 64; refine cw'.out.mono ?_; rintro e w' ⟨p, rfl, hW, hK⟩; have hK' := Lib.hid hK; have hW' := Lib.hid hW; clear hK hW))
  go_ret2
  exact ⟨_, rfl, hW'.out, hK'.out⟩

theorem bk_store_miss {b : Nat} {ws : List Int} {cnt : Nat} {st : St} {X : Nat → Prop} (ref : Nat) (hr : ref < 18446744073709551616) (hB : st.get ref = none) (i x : Int) (w : World) (h : Bk w b ws cnt st X) :
    Calls Tryz.prog 44 #[.pointer (some ⟨b, 0, none⟩), .int .u64 ref, .int .i64 i, .int .u64 x] w fun e w' => FaultOf w (fun x => .returned x) ((ref % 4294967296 : Nat) : Int) 5 e w' := by
  have cw' := Lib.hid (word_miss ref hr hB i w h)
  clear h hB
  go_enter Tryz.func44, Tryz.ntmps44
  go_wp2_with (first | (go_at_call 64; refine cw'.out.mono ?_; rintro e w' ⟨p, rfl, hW, hK⟩; have hK' := Lib.hid hK; have hW' := Lib.hid hW; clear hK hW))
  go_ret
  exact ⟨_, rfl, hW'.out, hK'.out⟩

theorem bk_cas_miss {b : Nat} {ws : List Int} {cnt : Nat} {st : St} {X : Nat → Prop} (ref : Nat) (hr : ref < 18446744073709551616) (hB : st.get ref = none) (i x y : Int) (w : World) (h : Bk w b ws cnt st X) :
    Calls Tryz.prog 82 #[.pointer (some ⟨b, 0, none⟩), .int .u64 ref, .int .i64 i, .int .u64 x, .int .u64 y] w fun e w' => FaultOf w (fun x => .returned (.tuple #[.bool false, x])) ((ref % 4294967296 : Nat) : Int) 5 e w' := by
  have cw' := Lib.hid (word_miss ref hr hB i w h)
  clear h hB
  go_enter Tryz.func82, Tryz.ntmps82
  go_wp2_with (first | (go_at_call 64; refine cw'.out.mono ?_; rintro e w' ⟨p, rfl, hW, hK⟩; have hK' := Lib.hid hK; have hW' := Lib.hid hW; clear hK hW))
  go_ret2
  exact ⟨_, rfl, hW'.out, hK'.out⟩

theorem bk_load_nil (r i : Int) (w : World) :
    Calls Tryz.prog 80 #[.pointer none, .int .u64 r, .int .i64 i] w fun e w' => e = .returned (.tuple #[.int .u64 0, .iface 71 (.int .i64 1)]) ∧ w = w' := by
  go_enter Tryz.func80, Tryz.ntmps80
  go_wp2_with (first | (go_at_call 64; refine (word_nil _ _ _).mono ?_; rintro e w' ⟨rfl, rfl⟩))
  go_ret2
  exact ⟨rfl, rfl⟩

theorem bk_store_nil (r i x : Int) (w : World) :
    Calls Tryz.prog 44 #[.pointer none, .int .u64 r, .int .i64 i, .int .u64 x] w fun e w' => e = .returned (.iface 71 (.int .i64 1)) ∧ w = w' := by
  go_enter Tryz.func44, Tryz.ntmps44
  go_wp2_with (first | (go_at_call 64; refine (word_nil _ _ _).mono ?_; rintro e w' ⟨rfl, rfl⟩))
  go_ret
  exact ⟨rfl, rfl⟩

theorem bk_cas_nil (r i x y : Int) (w : World) :
    Calls Tryz.prog 82 #[.pointer none, .int .u64 r, .int .i64 i, .int .u64 x, .int .u64 y] w fun e w' => e = .returned (.tuple #[.bool false, .iface 71 (.int .i64 1)]) ∧ w = w' := by
  go_enter Tryz.func82, Tryz.ntmps82
  go_wp2_with (first | (go_at_call 64; refine (word_nil _ _ _).mono ?_; rintro e w' ⟨rfl, rfl⟩))
  go_ret2
  exact ⟨rfl, rfl⟩
end Go.Proofs.YtenhmficiegpiaaGreatDoor
