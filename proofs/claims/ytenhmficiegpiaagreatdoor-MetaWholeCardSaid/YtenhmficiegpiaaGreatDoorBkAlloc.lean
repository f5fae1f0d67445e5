/-
  blocks: Alloc by contract: of a size of which a block was freed the one that was freed last, with its generation; else a new one at the top; ErrFull, ErrArg, ErrNil.
-/
import Derived.Test.YtenhmficiegpiaaGreatDoorBkTakes
namespace Go.Proofs.YtenhmficiegpiaaGreatDoor
open Go.RowKit Go.Extern.Stop Go.Stop Go.Extern

theorem alloc_nil (n : Int) (w : World) :
    Calls Tryz.prog 42 #[.pointer none, .int .i64 n] w fun e w' => e = .returned (.tuple #[.int .u64 0, .iface 71 (.int .i64 1)]) ∧ w = w' := by
  go_enter Tryz.func42, Tryz.ntmps42
  go_wp2_with (go_at_call 35; refine (none_bk_nil _).mono ?_; rintro e w' ⟨rfl, rfl⟩)
  go_ret2
  exact ⟨rfl, rfl⟩

set_option maxRecDepth 100000 in
theorem alloc_walk {w : World} {b a bw mb fb : Nat} {ws : List Int} {cnt : Nat} {f f1 : Int → Option BV} {fr fr1 : Nat → List Nat} {top top1 : Nat} {rows : Int → Option RowV} {X : Nat → Prop} (h : BkRaw w b a bw mb fb ws cnt f fr top rows X) (n : Nat) (hn : 1 ≤ n ∧ n ≤ 64) (place gn : Nat) (lv : Bool)
    (ct : Calls Tryz.prog 61 #[.pointer (some ⟨b, 0, none⟩), .int .i64 n] w fun e w' => e = .returned (.tuple #[.int .i64 place, .nilIface]) ∧ (∃ rows', BkRaw w' b a bw mb fb ws cnt f1 fr1 top1 rows' X) ∧ Keeps X w w')
    (hf1 : f1 (place : Int) = some ⟨n, gn, lv⟩) (hp : place + n < ws.length) (l : List Int) (hl : ∀ j, (f1 j).isSome = true → j ∈ l) (hlen : l.length < maxLen) (hgn : gn < 4294967296) (hcnt : cnt + 100 ≤ 1000000) :
    Calls Tryz.prog 42 #[.pointer (some ⟨b, 0, none⟩), .int .i64 n] w fun e w' => e = .returned (.tuple #[.int .u64 ((gn * 4294967296 + place : Nat) : Int), .nilIface]) ∧
      (∃ rows' ws', Zeroed ws ws' place n ∧ BkRaw w' b a bw mb fb ws' (cnt + n + 1) (upd f1 place ⟨n, gn, true⟩) fr1 top1 rows' X) ∧ Keeps X w w' := by
  have c0 : w.cell? ⟨b, 0, none⟩ = some (.pointer (some ⟨a, 0, none⟩)) := h.blk.at_ 0
  have hlen16 := h.arena.2.2.2
  have hw : (Lit.int .i64 (place : Int)).wf = true := WalkArith.wf_i64 (by omega)
  have cr := ref_any n gn place true hgn (by omega)
  have hu : bvE.val ((upd f1 (place : Int) ⟨n, gn, true⟩ (place : Int)).getD ⟨0, 0, false⟩) = .agg #[.int .i64 n, .int .u32 gn, .bool true] := by unfold upd; rw [if_pos rfl]; rfl
  generalize gn * 4294967296 + place = x at cr ⊢
  have hu' := Lib.hid hu
  have ct' := Lib.hid ct
  have hl' := Lib.hid hl
  have hf' := Lib.hid hf1
  have cr' := Lib.hid cr
  clear h ct hl hf1 hu cr
  go_enter Tryz.func42, Tryz.ntmps42
  go_wp2_with (go_at_call 35; refine (none_bk _ c0).mono ?_; rintro e w' ⟨rfl, rfl⟩)
  refine ct'.out.mono ?_
  rintro e w1 ⟨rfl, ⟨rows1, hR⟩, hK⟩
  have R1 := Lib.hid hR
  have K1 := Lib.hid hK
  clear hR hK
  go_wp2_with fail
  refine (give_raw R1.out place n gn lv hf'.out hp l hl'.out hlen hn.2 hcnt).mono ?_
  rintro e w2 ⟨rfl, ⟨ws2, hZ, hR⟩, hK⟩
  have d1 : w2.cell? ⟨b, 1, none⟩ = some (.map (some mb)) := hR.blk.at_ 1
  have R2 := Lib.hid hR
  have K2 := Lib.hid hK
  have Z2 := Lib.hid hZ
  clear hR hK hZ
  go_wp2_with (first
    | (at_lookup; refine wpList_look _ rfl _ _ 87 rfl 3 93 bvE Tryz.underlying3 Tryz.underlying87 ⟨0, 0, false⟩ (zero_bv _) mb _ rfl R2.out.all place rfl hw _ hu'.out ?_)
    | (go_at_call 63; refine (cr'.out _).mono ?_; rintro e w3 ⟨rfl, hK⟩; have K3 := Lib.hid hK; clear hK))
  go_ret2
  exact ⟨rfl, ⟨rows1, ws2, Z2.out, R2.out.keeps K3.out fun _ _ => id⟩, (K1.out.trans_ K2.out).trans K3.out fun _ _ => False.elim⟩

/-- What Alloc leaves: the ref; the state as it is now; the block's words are 0; nothing else has changed. -/
def Given (w : World) (b : Nat) (ws : List Int) (cnt : Nat) (st : St) (X : Nat → Prop) (ref place n : Nat) (e : Ending) (w' : World) : Prop :=
  e = .returned (.tuple #[.int .u64 (ref : Int), .nilIface]) ∧ (∃ ws', Zeroed ws ws' place n ∧ Bk w' b ws' (cnt + n + 1) st X) ∧ Keeps X w w'

theorem places_len {w : World} {b a bw mb fb : Nat} {ws : List Int} {cnt : Nat} {st : St} {rows : Int → Option RowV} {X : Nat → Prop} (h : BkParts w b a bw mb fb ws cnt st rows X) : (st.bs.map fun B => (B.place : Int)).length + 1 < maxLen := by
  have h1 := bs_length h.ok
  have h2 := h.ok.room
  have h3 := h.arena.2.2.2
  rw [List.length_map]
  unfold maxLen
  omega

theorem alloc_pop {w : World} {b : Nat} {ws : List Int} {cnt : Nat} {st : St} {X : Nat → Prop} (h : Bk w b ws cnt st X) (n : Nat) (hn : 1 ≤ n ∧ n ≤ 64) (B : Blk) (hB : B ∈ st.bs) (hs : B.size = n) (hl : B.live = false) (hg : B.gen < 4294967295) (l : List Nat) (hfr : st.fr n = l ++ [B.place]) (hcnt : cnt + 100 ≤ 1000000) :
    Calls Tryz.prog 42 #[.pointer (some ⟨b, 0, none⟩), .int .i64 n] w fun e w' => Given w b ws cnt (st.pop B l) X B.ref B.place n e w' := by
  subst hs
  obtain ⟨a, bw, mb, fb, rows, h⟩ := h
  have hf := h.ok.fits B hB
  have hr := h.ok.room
  have ha : allF st (B.place : Int) = some ⟨B.size, B.gen, false⟩ := by
    rw [allF_at, St.at_mem h.ok hB, ← hl]
    rfl
  refine (alloc_walk h.toBkRaw B.size hn B.place B.gen false (take_pop h.toBkRaw B.size hn l B.place hfr) ha (by omega) _ (allF_keys st) (Nat.lt_of_succ_lt (places_len h)) (by omega) hcnt).mono ?_
  rintro e w' ⟨rfl, ⟨rows', ws', hZ, hR⟩, hK⟩
  have hf2 : upd (allF st) (B.place : Int) ⟨B.size, B.gen, true⟩ = allF (st.pop B l) := (allF_set (B := { B with live := true }) ⟨B, hB, rfl⟩ (st.pop B l) rfl).symm
  refine ⟨rfl, ⟨ws', hZ, ⟨a, bw, mb, fb, rows', ⟨?_, by rw [hZ.1]; exact ok_pop h.ok hB hl hg hfr⟩⟩⟩, hK⟩
  rw [hf2] at hR
  exact hR

theorem upd_upd {V : Type} (f : Int → Option V) (k : Int) (u v : V) : upd (upd f k u) k v = upd f k v := by
  funext j
  unfold upd
  by_cases h : j = k <;> simp [h]

theorem alloc_new {w : World} {b : Nat} {ws : List Int} {cnt : Nat} {st : St} {X : Nat → Prop} (h : Bk w b ws cnt st X) (n : Nat) (hn : 1 ≤ n ∧ n ≤ 64) (hfr : st.fr n = []) (hroom : st.top + 1 + n ≤ ws.length) (hcnt : cnt + 100 ≤ 1000000) :
    Calls Tryz.prog 42 #[.pointer (some ⟨b, 0, none⟩), .int .i64 n] w fun e w' => Given w b ws cnt (st.fresh n) X st.top st.top n e w' := by
  obtain ⟨a, bw, mb, fb, rows, h⟩ := h
  have ct := take_new h.toBkRaw n hn hfr hroom _ (allF_keys st) (Nat.lt_of_succ_lt (places_len h))
  refine (alloc_walk (f1 := upd (allF st) (st.top : Int) ⟨n, 0, false⟩) (fr1 := st.fr) (top1 := st.top + 1 + n) h.toBkRaw n hn st.top 0 false (ct.mono fun e w' ⟨h1, h2, h3⟩ => ⟨h1, ⟨rows, h2⟩, h3⟩) (by unfold upd; rw [if_pos rfl]; rfl) (by omega) ((st.top : Int) :: st.bs.map fun B => (B.place : Int)) (fun j hj => ?_) (places_len h) (by omega) hcnt).mono ?_
  · unfold upd at hj
    split at hj
    · rename_i e; rw [e]; exact List.mem_cons_self ..
    · exact List.mem_cons_of_mem _ (allF_keys st j hj)
  rintro e w' ⟨rfl, ⟨rows', ws', hZ, hR⟩, hK⟩
  have hf2 : upd (upd (allF st) (st.top : Int) ⟨n, 0, false⟩) (st.top : Int) ⟨n, (0 : Nat), true⟩ = allF (st.fresh n) := by
    rw [upd_upd]
    exact (allF_snoc (B := ⟨st.top, n, 0, true⟩) (fun C hC e => by have := (h.ok.fits C hC).2.2.1; have : C.place = st.top := e; omega) (st.fresh n) rfl).symm
  refine ⟨by simp, ⟨ws', hZ, ⟨a, bw, mb, fb, rows', ⟨?_, by rw [hZ.1]; exact ok_fresh h.ok hn hroom⟩⟩⟩, hK⟩
  rw [hf2] at hR
  exact hR
end Go.Proofs.YtenhmficiegpiaaGreatDoor
