/-
  blocks: give by contract: the words of the block at a place are 0 now, and it is live.
-/
import Derived.Test.YtenhmficiegpiaaGreatDoorBkKeep
import Derived.LoopTactic
namespace Go.Proofs.YtenhmficiegpiaaGreatDoor
open Go.RowKit Go.Extern.Stop Go.Stop Go.Extern

/-- The first k words behind place p are 0, all others as they were. -/
def Zd (ws ws' : List Int) (p k : Nat) : Prop :=
  ws'.length = ws.length ∧ (∀ j, p < j → j ≤ p + k → ws'.getD j 0 = 0) ∧ ∀ j, (j ≤ p ∨ p + k < j) → ws'.getD j 0 = ws.getD j 0

/-- .. all n words, and at p itself stands something. -/
def Zeroed (ws ws' : List Int) (p n : Nat) : Prop :=
  ws'.length = ws.length ∧ (∀ j, p < j → j ≤ p + n → ws'.getD j 0 = 0) ∧ ∀ j, (j < p ∨ p + n < j) → ws'.getD j 0 = ws.getD j 0

theorem getD_set (l : List Int) (i j : Nat) (x : Int) : (l.set i x).getD j 0 = if i = j ∧ j < l.length then x else l.getD j 0 := by
  by_cases h : i = j
  · subst h
    by_cases h2 : i < l.length
    · simp [List.getD, h2]
    · simp [List.getD, h2]
  · simp [List.getD, h]

theorem Zd.start (ws : List Int) (p : Nat) : Zd ws ws p 0 := ⟨rfl, fun j h1 h2 => by omega, fun _ _ => rfl⟩
theorem Zd.step {ws ws' : List Int} {p k : Nat} (h : Zd ws ws' p k) (hlt : p + 1 + k < ws.length) : Zd ws (ws'.set (p + 1 + k) 0) p (k + 1) := by
  refine ⟨by rw [List.length_set]; exact h.1, fun j h1 h2 => ?_, fun j hj => ?_⟩
  · rw [getD_set]
    split
    · rfl
    · rename_i hn
      have := h.1
      exact h.2.1 j h1 (by omega)
  · rw [getD_set, if_neg (by omega)]
    exact h.2.2 j (by omega)
theorem Zd.head {ws ws' : List Int} {p n : Nat} (h : Zd ws ws' p n) (hd : Int) : Zeroed ws (ws'.set p hd) p n := by
  refine ⟨by rw [List.length_set]; exact h.1, fun j h1 h2 => ?_, fun j hj => ?_⟩
  · rw [getD_set, if_neg (by omega)]
    exact h.2.1 j h1 h2
  · rw [getD_set, if_neg (by omega)]
    exact h.2.2 j (by omega)

set_option maxRecDepth 100000 in
set_option maxHeartbeats 400000 in
theorem give_raw {w : World} {b a bw mb fb : Nat} {ws : List Int} {cnt : Nat} {f : Int → Option BV} {fr : Nat → List Nat} {top : Nat} {rows : Int → Option RowV} {X : Nat → Prop} (h : BkRaw w b a bw mb fb ws cnt f fr top rows X) (place n gn : Nat) (lv : Bool) (hf : f (place : Int) = some ⟨n, gn, lv⟩) (hp : place + n < ws.length) (l : List Int) (hl : ∀ j, (f j).isSome = true → j ∈ l) (hlen : l.length < maxLen) (hn : n ≤ 64) (hcnt : cnt + 100 ≤ 1000000) :
    Calls Tryz.prog 62 #[.pointer (some ⟨b, 0, none⟩), .int .i64 place] w fun e w' => e = .returned .nilIface ∧ (∃ ws', Zeroed ws ws' place n ∧ BkRaw w' b a bw mb fb ws' (cnt + n + 1) (upd f place ⟨n, gn, true⟩) fr top rows X) ∧ Keeps X w w' := by
  have c1 : w.cell? ⟨b, 1, none⟩ = some (.map (some mb)) := h.blk.at_ 1
  have hlen16 := h.arena.2.2.2
  have hw : (Lit.int .i64 (place : Int)).wf = true := WalkArith.wf_i64 (by omega)
  have hu : bvE.val ((f (place : Int)).getD ⟨0, 0, false⟩) = .agg #[.int .i64 n, .int .u32 gn, .bool lv] := by rw [hf]; rfl
  have h' := Lib.hid h
  have hl' := Lib.hid hl
  have hu' := Lib.hid hu
  clear h hl hf hu
  go_enter Tryz.func62, Tryz.ntmps62
  go_wp2_with (first | (at_lookup; refine wpList_look _ rfl _ _ 87 rfl 3 93 bvE Tryz.underlying3 Tryz.underlying87 ⟨0, 0, false⟩ (zero_bv _) mb f rfl h'.out.all place rfl hw (.agg #[.int .i64 n, .int .u32 gn, .bool lv]) hu'.out ?_))
  obtain ⟨W, hW⟩ : ∃ W, W = w.alloc (.cells #[.int .i64 n, .int .u32 gn, .bool lv] 93) := ⟨_, rfl⟩
  have kW : Keeps (fun _ => False) w W := by rw [hW]; exact (Keeps.refl _ w).alloc _
  have mW : Whole W w.heap.size 93 #[.int .i64 n, .int .u32 gn, .bool lv] := by rw [hW]; exact Whole.made _ _ _
  have rW := h'.out.keeps kW fun _ _ => id
  rw [← hW]
  clear hW
  have kW' := Lib.hid kW
  have mW' := Lib.hid mW
  have rW' := Lib.hid rW
  clear kW mW rW
  have hX : Hid (∀ x, X x → ¬ x = w.heap.size) := Lib.hid fun x hx e => by have := h'.out.old x hx; omega
  go_loopw [16] (fun i wr => ∃ (k : Nat) (ws' : List Int), k ≤ n ∧ i = .int .i64 k ∧ BkRaw wr b a bw mb fb ws' (cnt + k) f fr top rows X ∧ Zd ws ws' place k ∧ Keeps X W wr) (fun i _ => n - (intOf i).toNat)
  case atStart => exact ⟨0, ws, by omega, rfl, rW'.out, Zd.start _ _, Keeps.refl _ _⟩
  case round =>
    obtain ⟨k, ws', hk, rfl, hR, hZ, hK⟩ := hrel
    have R' := Lib.hid hR
    have Z' := Lib.hid hZ
    have K' := Lib.hid hK
    have hws := hZ.1
    have hws' := Lib.hid hws
    have mr := Lib.hid (mW'.out.keeps hK fun hx => hX.out _ hx rfl)
    clear hR hZ hK hws
    by_cases hlt : k < n
    · have c0 : wr.cell? ⟨b, 0, none⟩ = some (.pointer (some ⟨a, 0, none⟩)) := R'.out.blk.at_ 0
      have hin : place + 1 + k < ws'.length := by have := hws'.out; omega
      have cs := store_in a bw ws' (cnt + k) (place + 1 + k) 0 hin (by omega) wr R'.out.arena
      rw [show ((place + 1 + k : Nat) : Int) = (place : Int) + 1 + (k : Int) by omega] at cs
      have zs := Lib.hid (Z'.out.step (by have := hws'.out; omega))
      generalize ws'.set (place + 1 + k) 0 = ws2 at cs zs
      have cs' := Lib.hid cs
      clear cs hin
      go_wp2_with (first | (go_at_call 65; refine cs'.out.mono ?_; rintro e V ⟨rfl, hA, hK⟩; have A2 := Lib.hid hA; have K2 := Lib.hid hK; clear hA hK))
      go_roundw
      case rel => exact ⟨k + 1, ws2, by omega, by go_num, R'.out.accessed A2.out K2.out, zs.out, K'.out.trans K2.out fun x _ => R'.out.its x⟩
      case measure => simp [intOf]; omega
    · obtain rfl : n = k := by omega
      have x0 : wr.cell? ⟨w.heap.size, 0, none⟩ = some (.int .i64 n) := mr.out.at_ 0
      have x1 : wr.cell? ⟨w.heap.size, 1, none⟩ = some (.int .u32 gn) := mr.out.at_ 1
      have x2 : wr.cell? ⟨w.heap.size, 2, none⟩ = some (.bool lv) := mr.out.at_ 2
      have f2 := mr.out.free 2
      have ck := keep_raw (w := wr.setCell ⟨w.heap.size, 2, none⟩ (.bool true)) (R'.out.keeps ((Keeps.refl (fun x => x = w.heap.size) wr).setCell (p := ⟨w.heap.size, 2, none⟩) (fun _ => rfl) _) hX.out) place n gn true (by have := hws'.out; omega) l hl'.out hlen (by omega)
      have ck' := Lib.hid ck
      clear ck
      go_wp2_with (first | (go_at_call 77; refine ck'.out.mono ?_; rintro e V ⟨rfl, ⟨hd, hR⟩, hK⟩; have R2 := Lib.hid hR; have K2 := Lib.hid hK; clear hR hK))
      go_ret
      refine ⟨rfl, ⟨_, Z'.out.head hd, R2.out⟩, ?_⟩
      have e1 : Keeps (fun x => X x ∨ x = w.heap.size) W V := ((K'.out.mono fun _ _ h => .inl h).setCell (p := ⟨w.heap.size, 2, none⟩) (fun _ => .inr rfl) _).trans K2.out fun _ _ h => .inl h
      exact (kW'.out.mono fun _ _ => False.elim).trans e1 fun x hx h => h.resolve_right (by omega)
end Go.Proofs.YtenhmficiegpiaaGreatDoor
