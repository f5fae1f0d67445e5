/-
  concordlaw01.play: of more than 60 accesses nil; else an arena of 8 words, made by the call itself, accessed at most 60 times. Nothing that was there has changed.
-/
import Derived.Test.YtokcchgccfpbpaaDoorWdAlive
namespace Go.Proofs.YtokcchgccfpbpaaDoor
open Go.RowKit Go.Extern.Stop Go.Stop Go.Extern

theorem Keeps.cell {S : Nat → Prop} {w w' : World} (h : Keeps S w w') {p : Addr} (hp : p.block < w.heap.size) (hS : ¬ S p.block) : w'.cell? p = w.cell? p :=
  World.cell?_of_block (w := w) (h.block p.block hp hS)

theorem cell_lt {w : World} {p : Addr} {v : Value} (h : w.cell? p = some v) : p.block < w.heap.size := by
  rcases Nat.lt_or_ge p.block w.heap.size with h' | h'
  · exact h'
  · simp [World.cell?, Array.getElem?_eq_none h'] at h

theorem add_spot {x : Addr} {w : World} {v : Value} (h : w.cell? (x.add 0) = some v) : x = ⟨x.block, x.off, none⟩ := by
  obtain ⟨b, o, s⟩ := x
  cases s with
  | none => rfl
  | some s =>
    exfalso
    have hs : (x : Addr) → x.spot.isSome = true → w.cell? x = none := by
      intro x hx
      unfold World.cell?
      split
      · simp [hx]
      · rfl
    rw [hs] at h
    · cases h
    · rfl

/-- A slice of accesses that came in: nil, or of each element the four numbers. -/
def Acts (w : World) (a : Option Addr) (len : Nat) : Prop :=
  (a = none ∧ len = 0) ∨ ∃ x : Addr, a = some x ∧ len ≤ maxLen ∧ ∀ i, i < len → ∃ k t o n : Int,
    w.cell? (x.add (i * 4 + 0)) = some (.int .i64 k) ∧ w.cell? (x.add (i * 4 + 1)) = some (.int .i64 t) ∧ w.cell? (x.add (i * 4 + 2)) = some (.int .u64 o) ∧ w.cell? (x.add (i * 4 + 3)) = some (.int .u64 n)

theorem Acts.keeps {w w' : World} {a : Option Addr} {len : Nat} {S : Nat → Prop} (h : Acts w a len) (k : Keeps S w w') (hS : ∀ x, x < w.heap.size → ¬ S x) : Acts w' a len := by
  rcases h with h | ⟨x, rfl, hl, hc⟩
  · exact .inl h
  · refine .inr ⟨x, rfl, hl, fun i hi => ?_⟩
    obtain ⟨k0, t, o, n, c0, c1, c2, c3⟩ := hc i hi
    exact ⟨k0, t, o, n, (k.cell (cell_lt c0) (hS _ (cell_lt c0))).trans c0, (k.cell (cell_lt c1) (hS _ (cell_lt c1))).trans c1, (k.cell (cell_lt c2) (hS _ (cell_lt c2))).trans c2, (k.cell (cell_lt c3) (hS _ (cell_lt c3))).trans c3⟩

theorem Acts.at_ {w : World} {a : Option Addr} {len : Nat} (h : Acts w a len) (hl : 0 < len) : ∃ b off : Nat, a = some ⟨b, off, none⟩ ∧ ∀ i, i < len → ∃ k t o n : Int,
    w.cell? ⟨b, off + i * 4, none⟩ = some (.int .i64 k) ∧ w.cell? ⟨b, off + i * 4 + 1, none⟩ = some (.int .i64 t) ∧ w.cell? ⟨b, off + i * 4 + 2, none⟩ = some (.int .u64 o) ∧ w.cell? ⟨b, off + i * 4 + 3, none⟩ = some (.int .u64 n) := by
  rcases h with ⟨_, h⟩ | ⟨x, rfl, _, hc⟩
  · omega
  · obtain ⟨_, _, _, _, c, _⟩ := hc 0 hl
    have hx := add_spot c
    refine ⟨x.block, x.off, by rw [← hx], fun i hi => ?_⟩
    obtain ⟨k, t, o, n, c0, c1, c2, c3⟩ := hc i hi
    have e : ∀ j, x.add (i * 4 + j) = ⟨x.block, x.off + i * 4 + j, none⟩ := by
      intro j
      rw [hx]
      unfold Addr.add
      split
      · have h0 : i * 4 + j = 0 := by assumption
        simp only [Addr.mk.injEq, true_and, and_true]
        omega
      · simp only [Addr.mk.injEq, true_and, and_true]
        omega
    rw [e] at c0 c1 c2 c3
    exact ⟨k, t, o, n, c0, c1, c2, c3⟩

/-- What a refused call leaves: its answer with a Fault at the place; nothing that was there has changed. -/
def OutOf (w : World) (i : Int) (f : Value → Ending) (e : Ending) (w' : World) : Prop :=
  ∃ p, e = f (.iface 61 (.pointer (some ⟨p, 0, none⟩))) ∧ Whole w' p 65 #[.int .i64 i, .int .i64 3] ∧ Keeps (fun _ => False) w w'

theorem load_out (a bw : Nat) (ws : List Int) (cnt : Nat) (i : Int) (hi : i < 0 ∨ (ws.length : Int) ≤ i) (w : World) (h : Arena w a bw ws cnt) :
    Calls Tryd.prog 13 #[.pointer (some ⟨a, 0, none⟩), .int .i64 i] w fun e w' => OutOf w i (fun x => .returned (.tuple #[.int .u64 0, x])) e w' := by
  have c := access_out a bw ws cnt i 1 0 0 hi w h
  have c' := Lib.hid c
  clear h c hi
  go_enter Tryd.func13, Tryd.ntmps13
  go_wp2_with (go_at_call 20; refine (c'.out).mono ?_; rintro e w' ⟨p, rfl, hA, hK⟩; have hA' := Lib.hid hA; have hK' := Lib.hid hK; clear hA hK)
  go_ret2
  exact ⟨p, rfl, hA'.out.alloc _, hK'.out.alloc _⟩

theorem store_out (a bw : Nat) (ws : List Int) (cnt : Nat) (i x : Int) (hi : i < 0 ∨ (ws.length : Int) ≤ i) (w : World) (h : Arena w a bw ws cnt) :
    Calls Tryd.prog 14 #[.pointer (some ⟨a, 0, none⟩), .int .i64 i, .int .u64 x] w fun e w' => OutOf w i (fun x => .returned x) e w' := by
  have c := access_out a bw ws cnt i 2 0 x hi w h
  have c' := Lib.hid c
  clear h c hi
  go_enter Tryd.func14, Tryd.ntmps14
  go_wp2_with (go_at_call 20; refine (c'.out).mono ?_; rintro e w' ⟨p, rfl, hA, hK⟩; have hA' := Lib.hid hA; have hK' := Lib.hid hK; clear hA hK)
  go_ret
  exact ⟨p, rfl, hA'.out.alloc _, hK'.out.alloc _⟩

theorem cas_out (a bw : Nat) (ws : List Int) (cnt : Nat) (i x y : Int) (hi : i < 0 ∨ (ws.length : Int) ≤ i) (w : World) (h : Arena w a bw ws cnt) :
    Calls Tryd.prog 15 #[.pointer (some ⟨a, 0, none⟩), .int .i64 i, .int .u64 x, .int .u64 y] w fun e w' => OutOf w i (fun x => .returned (.tuple #[.bool false, x])) e w' := by
  have c := access_out a bw ws cnt i 3 x y hi w h
  have c' := Lib.hid c
  clear h c hi
  go_enter Tryd.func15, Tryd.ntmps15
  go_wp2_with (go_at_call 20; refine (c'.out).mono ?_; rintro e w' ⟨p, rfl, hA, hK⟩; have hA' := Lib.hid hA; have hK' := Lib.hid hK; clear hA hK)
  go_ret2
  exact ⟨p, rfl, hA'.out.alloc _, hK'.out.alloc _⟩

/-- Behind any one access of an arena: it is an arena still, of as many words; it was accessed at most once more. -/
def Played (w : World) (a bw n cnt : Nat) (e : Ending) (w' : World) : Prop :=
  ∃ v ws' cnt', e = .returned v ∧ Arena w' a bw ws' cnt' ∧ ws'.length = n ∧ cnt' ≤ cnt + 1 ∧ Keeps (Its a bw) w w'

theorem Played.of_done {w w' : World} {a bw n cnt : Nat} {ws : List Int} {v : Value} {e : Ending} (h : Done w a bw ws cnt v e w') (hn : ws.length = n) : Played w a bw n cnt e w' :=
  ⟨v, ws, cnt + 1, h.1, h.2.1, hn, Nat.le_refl _, h.2.2⟩

theorem Played.of_out {w w' : World} {a bw n cnt : Nat} {ws : List Int} {i : Int} {f : Value → Value} {e : Ending} (h : OutOf w i (fun x => .returned (f x)) e w') (hA : Arena w a bw ws cnt) (hn : ws.length = n) : Played w a bw n cnt e w' := by
  obtain ⟨p, he, _, hK⟩ := h
  exact ⟨_, ws, cnt, he, hA.keeps hK id id, hn, by omega, hK.mono fun _ _ h => h.elim⟩

theorem in_or_out (t : Int) (n : Nat) : (t < 0 ∨ (n : Int) ≤ t) ∨ ∃ k : Nat, t = k ∧ k < n := by
  rcases Int.lt_or_le t 0 with h | h
  · exact .inl (.inl h)
  · rcases Int.lt_or_le t n with h2 | h2
    · exact .inr ⟨t.toNat, by omega, by omega⟩
    · exact .inl (.inr h2)

theorem play_load (a bw n cnt : Nat) (ws : List Int) (t : Int) (hn : ws.length = n) (hcnt : cnt ≤ 1000000) (w : World) (h : Arena w a bw ws cnt) :
    Calls Tryd.prog 13 #[.pointer (some ⟨a, 0, none⟩), .int .i64 t] w fun e w' => Played w a bw n cnt e w' := by
  rcases in_or_out t ws.length with ho | ⟨k, rfl, hk⟩
  · exact (load_out a bw ws cnt t ho w h).mono fun e w' hd => Played.of_out (f := fun x => .tuple #[.int .u64 0, x]) hd h hn
  · exact (load_in a bw ws cnt k hk hcnt w h).mono fun e w' hd => Played.of_done hd hn

theorem play_store (a bw n cnt : Nat) (ws : List Int) (t x : Int) (hn : ws.length = n) (hcnt : cnt ≤ 1000000) (w : World) (h : Arena w a bw ws cnt) :
    Calls Tryd.prog 14 #[.pointer (some ⟨a, 0, none⟩), .int .i64 t, .int .u64 x] w fun e w' => Played w a bw n cnt e w' := by
  rcases in_or_out t ws.length with ho | ⟨k, rfl, hk⟩
  · exact (store_out a bw ws cnt t x ho w h).mono fun e w' hd => Played.of_out (f := fun x => x) hd h hn
  · exact (store_in a bw ws cnt k x hk hcnt w h).mono fun e w' hd => Played.of_done hd (by simpa using hn)

theorem play_cas (a bw n cnt : Nat) (ws : List Int) (t x y : Int) (hn : ws.length = n) (hcnt : cnt ≤ 1000000) (w : World) (h : Arena w a bw ws cnt) :
    Calls Tryd.prog 15 #[.pointer (some ⟨a, 0, none⟩), .int .i64 t, .int .u64 x, .int .u64 y] w fun e w' => Played w a bw n cnt e w' := by
  rcases in_or_out t ws.length with ho | ⟨k, rfl, hk⟩
  · exact (cas_out a bw ws cnt t x y ho w h).mono fun e w' hd => Played.of_out (f := fun x => .tuple #[.bool false, x]) hd h hn
  · by_cases hx : ws.getD k 0 = x
    · exact (cas_yes a bw ws cnt k x y hx hk hcnt w h).mono fun e w' hd => Played.of_done hd (by simpa using hn)
    · exact (cas_no a bw ws cnt k x y hx hk hcnt w h).mono fun e w' hd => Played.of_done hd hn

theorem new_eight (w : World) : Calls Tryd.prog 11 #[.int .i64 8] w fun e w' => Made w 8 e w' := new_in 8 (by decide) (by decide) w

theorem play_many (a : Option Addr) (len cap : Nat) (hl : 60 < len) (hm : len ≤ maxLen) (w : World) :
    Calls Tryd.prog 4 #[.slice a len cap] w fun e w' => e = .returned (.pointer none) ∧ Keeps (fun _ => False) w w' := by
  unfold maxLen at hm
  have hl' : (60 : Int) < len := by omega
  go_enter Tryd.func4, Tryd.ntmps4
  go_wp2_with (first
    | (go_at_call 11; refine (new_eight _).mono ?_; rintro e w1 ⟨ar, bw, rfl, hA, ha, hb, hK⟩; have k1 := Lib.hid hK; clear hA ha hb hK)
    | (go_at_call 12; refine (no_nil _).mono ?_; rintro e w' ⟨rfl, rfl⟩))
  go_ret
  exact ⟨rfl, k1.out⟩

/-- What play leaves: an arena of 8 words, made by the call, accessed at most 60 times. -/
def PlayedAll (w : World) (e : Ending) (w' : World) : Prop :=
  ∃ a bw ws cnt, e = .returned (.pointer (some ⟨a, 0, none⟩)) ∧ Arena w' a bw ws cnt ∧ ws.length = 8 ∧ cnt ≤ 60 ∧ w.heap.size ≤ a ∧ w.heap.size ≤ bw ∧ Keeps (fun _ => False) w w'

set_option maxHeartbeats 1000000 in
theorem play_all (a : Option Addr) (len cap : Nat) (hl : len ≤ 60) (w : World) (hin : Acts w a len) :
    Calls Tryd.prog 4 #[.slice a len cap] w fun e w' => PlayedAll w e w' := by
  have hl' : ¬ (60 : Int) < len := by omega
  have hin' := Lib.hid hin
  clear hin
  go_enter Tryd.func4, Tryd.ntmps4
  go_wp2_with (first
    | (go_at_call 11; refine (new_eight _).mono ?_; rintro e w1 ⟨ar, bw, rfl, hA, ha, hb, hK⟩; have k1 := Lib.hid hK; have a1 := Lib.hid hA; have la := Lib.hid ha; have lb := Lib.hid hb; clear hA ha hb hK)
    | (go_at_call 12; refine (no_nil _).mono ?_; rintro e w' ⟨rfl, rfl⟩))
  go_loopw [21] (fun i wr => ∃ (k cnt : Nat) (ws : List Int), k ≤ len ∧ i = .int .i64 k ∧ Arena wr ar bw ws cnt ∧ ws.length = 8 ∧ cnt ≤ k ∧ Keeps (fun _ => False) w wr) (fun i _ => len - (intOf i).toNat)
  case atStart => exact ⟨0, 0, _, by omega, rfl, a1.out, rfl, by omega, k1.out⟩
  case round =>
    obtain ⟨k, cnt, ws, hk, rfl, hA, hws, hcnt, hK⟩ := hrel
    have hA' := Lib.hid hA
    have hws' := Lib.hid hws
    have hK' := Lib.hid hK
    clear hA hws hK
    by_cases hlt : k < len
    · obtain ⟨b, off, rfl, hc⟩ := (hin'.out.keeps hK'.out (fun _ _ h => h)).at_ (by omega)
      obtain ⟨kd, t, o, n, c0, c1, c2, c3⟩ := hc k hlt
      clear hc
      have hb := cell_lt c0
      have hcb : cnt ≤ 1000000 := by omega
      go_wp2_with (first
        | (go_at_call 13; refine (play_load ar bw 8 cnt ws t hws'.out hcb _ (hA'.out.alloc _)).mono ?_; rintro e w2 ⟨v, ws2, cnt2, rfl, hA2, hn2, hc2, hK2⟩; have A2 := Lib.hid hA2; have n2 := Lib.hid hn2; have K2 := Lib.hid ((hK'.out.alloc _).its hK2 (fun h => absurd h (by have := la.out; omega)) (fun h => absurd h (by have := lb.out; omega))); clear hA2 hn2 hK2)
        | (go_at_call 14; refine (play_store ar bw 8 cnt ws t n hws'.out hcb _ (hA'.out.alloc _)).mono ?_; rintro e w2 ⟨v, ws2, cnt2, rfl, hA2, hn2, hc2, hK2⟩; have A2 := Lib.hid hA2; have n2 := Lib.hid hn2; have K2 := Lib.hid ((hK'.out.alloc _).its hK2 (fun h => absurd h (by have := la.out; omega)) (fun h => absurd h (by have := lb.out; omega))); clear hA2 hn2 hK2)
        | (go_at_call 15; refine (play_cas ar bw 8 cnt ws t o n hws'.out hcb _ (hA'.out.alloc _)).mono ?_; rintro e w2 ⟨v, ws2, cnt2, rfl, hA2, hn2, hc2, hK2⟩; have A2 := Lib.hid hA2; have n2 := Lib.hid hn2; have K2 := Lib.hid ((hK'.out.alloc _).its hK2 (fun h => absurd h (by have := la.out; omega)) (fun h => absurd h (by have := lb.out; omega))); clear hA2 hn2 hK2))
      iterate 3
        · go_roundw
          case rel => exact ⟨k + 1, cnt2, ws2, by omega, by go_num, A2.out, n2.out, by omega, K2.out⟩
          case measure => simp [intOf]; omega
      · go_roundw
        case rel => exact ⟨k + 1, cnt, ws, by omega, by go_num, hA'.out.alloc _, hws'.out, by omega, hK'.out.alloc _⟩
        case measure => simp [intOf]; omega
    · go_wp2
      go_ret
      exact ⟨_, _, _, _, rfl, hA'.out, hws'.out, by omega, la.out, lb.out, hK'.out⟩
end Go.Proofs.YtokcchgccfpbpaaDoor
