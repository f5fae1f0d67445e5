/-
  QueueRises: called with any timers and any times, concordlaw04.QueueRises returns true and changes nothing; the library's variable errors.errorType holds what the program's text lays in it (the card ties it). The card says nothing of code outside the pruned copy.
-/
import Derived.Test.YtjmkfloaagppdaaDoorQuGone
import Derived.Test.YtjmkfloaagppdaaDoorQuAhead
import Derived.IntWalk
import Derived.Test.YtjmkfloaagppdaaDoorWdTail
namespace Go.Proofs.YtjmkfloaagppdaaDoor
open Go.RowKit Go.Extern.Stop Go.Stop Go.Extern
open Go.ChangeShapes Go.WideShapes Go.ChangeAt Go.Deep

/-- The queue of the law, with what it has. -/
structure Lone (w wr : World) (q : Nat) (L : List Tm) (X : Nat → Prop) : Prop where
  Q : Qu wr q L X
  nQ : ∀ x, X x → w.heap.size ≤ x
  keeps : Keeps (fun _ => False) w wr
theorem Lone.push {w wr w' : World} {q : Nat} {L L' : List Tm} {X : Nat → Prop} (h : Lone w wr q L X) (hW : Went wr q L' X w') : ∃ X', Lone w w' q L' X' := by
  obtain ⟨⟨X', hQ, hX⟩, hK⟩ := hW
  exact ⟨X', hQ, fun x hx => (hX x hx).elim (h.nQ x) fun g => Nat.le_trans h.keeps.size g, h.keeps.trans hK fun x hx g => absurd hx (Nat.not_lt.2 (h.nQ x g))⟩
theorem Lone.same {w wr w' : World} {q : Nat} {L : List Tm} {X : Nat → Prop} (h : Lone w wr q L X) (k : Keeps (fun _ => False) wr w') : Lone w w' q L X := ⟨h.Q.same k, h.nQ, h.keeps.trans k fun _ _ => False.elim⟩
theorem Lone.more {w wr w' : World} {q : Nat} {L : List Tm} {X S : Nat → Prop} (h : Lone w wr q L X) (k : Keeps S wr w') (hS : ∀ x, X x → ¬ S x) (hw : ∀ x, x < w.heap.size → ¬ S x) : Lone w w' q L X := ⟨h.Q.keeps k hS, h.nQ, h.keeps.trans k fun x hx hs => absurd hs (hw x hx)⟩

/-- Between two times. -/
structure Rise (w wo wr : World) (q : Nat) (X : Nat → Prop) (L D R : List Tm) (v : Value) : Prop where
  lone : Lone w wr q R X
  own : Own wr v D wo.heap.size
  all : D ++ R = L
  size : wo.heap.size ≤ wr.heap.size
  base : w.heap.size ≤ wo.heap.size
  old : ∀ x, X x → x < wo.heap.size

/-- Within what one time told: k of E were taken over. -/
structure Told (w wo wr : World) (q : Nat) (X : Nat → Prop) (L D E R : List Tm) (k : Nat) (v u : Value) : Prop where
  lone : Lone w wr q R X
  own : Own wr v (D ++ E.take k) wo.heap.size
  rd : Rd wr u E
  apart : ∀ b off n c, u = .slice (some ⟨b, off, none⟩) n c → ¬ v.ownBlock = some b ∧ b < wr.heap.size
  all : D ++ (E ++ R) = L
  size : wo.heap.size ≤ wr.heap.size
  base : w.heap.size ≤ wo.heap.size
  old : ∀ x, X x → x < wo.heap.size

theorem Rise.go_ {w wo wr w' : World} {q : Nat} {X : Nat → Prop} {L D R : List Tm} {v u : Value} {now : Int} (h : Rise w wo wr q X L D R v) (hO : Own w' u (due now R) wr.heap.size) (hQ : Qu w' q (undue now R) X) (hK : Keeps X wr w') :
    ∃ E R', Told w wo w' q X L D E R' 0 v u ∧ (∀ y ∈ E, y.1 ≤ now) ∧ (∀ y ∈ R', now < y.1) := by
  refine ⟨due now R, undue now R, ⟨⟨hQ, h.lone.nQ, h.lone.keeps.trans hK fun x hx g => absurd hx (Nat.not_lt.2 (h.lone.nQ x g))⟩, ?_, hO.rd, ?_, by rw [due_undue]; exact h.all, Nat.le_trans h.size hK.size, h.base, h.old⟩, fun y hy => due_le y hy, fun y hy => undue_gt h.lone.Q.up y hy⟩
  · rw [List.take_zero, List.append_nil]
    exact h.own.keeps hK fun x hx g => absurd (h.old x g) (Nat.not_lt.2 hx)
  · rintro b off n c rfl
    refine ⟨fun hv => ?_, ?_⟩
    · obtain ⟨cs, hcs⟩ := row_whole h.own.1 hv
      have h1 := hcs.lt
      have h2 := hO.2 b rfl
      omega
    · obtain ⟨cs, hcs⟩ := row_whole hO.1 (g := b) rfl
      exact hcs.lt

theorem Told.same {w wo wr w' : World} {q : Nat} {X : Nat → Prop} {L D E R : List Tm} {k : Nat} {v u : Value} (h : Told w wo wr q X L D E R k v u) (hK : Keeps (fun _ => False) wr w') : Told w wo w' q X L D E R k v u :=
  ⟨h.lone.same hK, h.own.same hK, h.rd.same hK, fun b off n c e => ⟨(h.apart b off n c e).1, Nat.lt_of_lt_of_le (h.apart b off n c e).2 hK.size⟩, h.all, Nat.le_trans h.size hK.size, h.base, h.old⟩

theorem Told.more {w wo wr w' : World} {q : Nat} {X : Nat → Prop} {L D E R : List Tm} {k : Nat} {v v' u : Value} (h : Told w wo wr q X L D E R k v u) (hk : k < E.length) (hO : TRow w' v' ((D ++ E.take k) ++ [at_ E k])) (hG : wr.grownBy w' v.ownBlock) (hl : v'.ownBlock = v.ownBlock ∨ v'.ownBlock = some wr.heap.size) :
    Told w wo w' q X L D E R (k + 1) v' u := by
  have k1 : Keeps (fun x => v.ownBlock = some x) wr w' := (Keeps.refl _ wr).grown hG fun j hj _ => hj
  obtain ⟨o1, k2⟩ := h.own.more h.size hO hG hl
  rw [List.append_assoc, ← take_next hk] at o1
  refine ⟨h.lone.more k2 (fun x hx g => absurd (h.old x hx) (Nat.not_lt.2 g)) (fun x hx g => by have := h.base; omega), o1, h.rd.keeps k1 fun b off n c e => (h.apart b off n c e).1, fun b off n c e => ?_, h.all, Nat.le_trans h.size k1.size, h.base, h.old⟩
  obtain ⟨h1, h2⟩ := h.apart b off n c e
  refine ⟨fun hv => ?_, Nat.lt_of_lt_of_le h2 k1.size⟩
  rcases hl with e' | e'
  · exact h1 (e' ▸ hv)
  · rw [e'] at hv
    injection hv with hv
    omega

theorem Told.done {w wo wr : World} {q : Nat} {X : Nat → Prop} {L D E R : List Tm} {v u : Value} (h : Told w wo wr q X L D E R E.length v u) : Rise w wo wr q X L (D ++ E) R v := by
  have := h.own
  rw [List.take_length] at this
  exact ⟨h.lone, this, by rw [List.append_assoc]; exact h.all, h.size, h.base, h.old⟩
theorem Rise.same {w wo wr w' : World} {q : Nat} {X : Nat → Prop} {L D R : List Tm} {v : Value} (h : Rise w wo wr q X L D R v) (hK : Keeps (fun _ => False) wr w') : Rise w wo w' q X L D R v :=
  ⟨h.lone.same hK, h.own.same hK, h.all, Nat.le_trans h.size hK.size, h.base, h.old⟩
theorem Rise.few {w wo wr : World} {q : Nat} {X : Nat → Prop} {L D R : List Tm} {v : Value} (h : Rise w wo wr q X L D R v) : D.length + R.length = L.length := by
  rw [← h.all, List.length_append]

set_option maxRecDepth 100000 in
set_option maxHeartbeats 2000000 in
theorem queueRises_walk (a0 : Option Addr) (len0 cap0 : Nat) (a1 : Option Addr) (len1 cap1 : Nat) (w : World) (_w0 : Tms w a0 len0 cap0) (_w1 : Nums w a1 len1) (hg : Glob w) :
    Calls Tryd.prog 4 #[.slice a0 len0 cap0, .slice a1 len1 cap1] w fun e w' => e = .returned (.bool true) ∧ Below w.heap.size w w' := by
  obtain ⟨l, hl, hwf, hR⟩ := _w0.list
  have al := Lib.hid (fun W (k : Keeps (fun _ => False) w W) => alive4 W (hg.keeps k id))
  have R0 := Lib.hid hR
  have wf0 := Lib.hid hwf
  have hl0 := Lib.hid hl
  have in1 := Lib.hid _w1
  clear hg _w0 hR hwf hl _w1
  by_cases c0 : 60 < len0 ∨ 30 < len1
  · by_cases c1 : 60 < len0
    · have c1' : (60 : Int) < (len0 : Int) := by omega
      go_enter Tryd.func4, Tryd.ntmps4
      go_wp2_with (first
        | (go_at_call 9; refine (new_any _).mono ?_; rintro e w1 ⟨q, X, rfl, hQ, hX, hK⟩; have K1 := Lib.hid hK; clear hQ hX hK)
        | (go_at_call 10; refine (al.out _ K1.out).mono ?_; rintro e w2 ⟨rfl, hK⟩; have K2 := Lib.hid (K1.out.trans hK fun _ _ => False.elim); clear hK))
      go_ret
      exact ⟨rfl, K2.out.below (Nat.le_refl _) fun _ _ => id⟩
    · have c1' : ¬ (60 : Int) < (len0 : Int) := by omega
      have c2' : (30 : Int) < (len1 : Int) := by omega
      go_enter Tryd.func4, Tryd.ntmps4
      go_wp2_with (first
        | (go_at_call 9; refine (new_any _).mono ?_; rintro e w1 ⟨q, X, rfl, hQ, hX, hK⟩; have K1 := Lib.hid hK; clear hQ hX hK)
        | (go_at_call 10; refine (al.out _ K1.out).mono ?_; rintro e w2 ⟨rfl, hK⟩; have K2 := Lib.hid (K1.out.trans hK fun _ _ => False.elim); clear hK))
      go_ret
      exact ⟨rfl, K2.out.below (Nat.le_refl _) fun _ _ => id⟩
  · have c1' : ¬ (60 : Int) < (len0 : Int) := by omega
    have c2' : ¬ (30 : Int) < (len1 : Int) := by omega
    go_enter Tryd.func4, Tryd.ntmps4
    go_wp2_with fail
    refine (new_any _).mono ?_
    rintro e w1 ⟨q, X, rfl, hQ, hX, hK⟩
    have L1 := Lib.hid (show Lone w w1 q [] X from ⟨hQ, hX, hK⟩)
    clear hQ hX hK
    go_wp2_with fail
    go_loopw [6, 39] (fun nv iv wr => ∃ (i : Nat) (L : List Tm) (X : Nat → Prop), iv = .int .i64 i ∧ nv = .int .i64 L.length ∧ i ≤ len0 ∧ L.length ≤ i ∧ Lone w wr q L X) (fun _ iv _ => len0 - (intOf iv).toNat)
    case atStart => exact ⟨0, [], X, rfl, rfl, Nat.zero_le _, Nat.le_refl _, L1.out⟩
    case round =>
      clear L1
      obtain ⟨i, L, X, rfl, rfl, hi, hLi, hL⟩ := hrel
      have L2 := Lib.hid hL
      clear hL
      by_cases hin : i < len0
      · have hin' : (i : Int) < (len0 : Int) := by omega
        obtain ⟨b, off, rfl, y0, y1⟩ := R0.out.at_ i (by rw [hl0.out]; exact hin)
        have z0 := (L2.out.keeps.cell (p := ⟨b, off + i * 2, none⟩) (cell_lt y0) id).trans y0
        have z1 := (L2.out.keeps.cell (p := ⟨b, off + i * 2 + 1, none⟩) (cell_lt y1) id).trans y1
        have wi := Lib.hid (wf0.out _ (at_mem (show i < l.length by rw [hl0.out]; exact hin)))
        have kA := Lib.hid ((Keeps.refl (fun _ => False) wr).alloc (.cells #[.int .i64 (at_ l i).1, .int .i64 (at_ l i).2] 31))
        clear y0 y1
        generalize at_ l i = t at z0 z1 wi kA
        have L3 := Lib.hid (L2.out.same kA.out)
        by_cases he : ∃ u ∈ L, u.2 = t.2
        · obtain ⟨u, hu, he⟩ := he
          have cP := Lib.hid (push_there L3.out.Q t wi.out u hu he)
          unfold tmVal at cP
          clear hu he
          go_wp2_with fail
          refine cP.out.mono ?_
          rintro e w3 ⟨er, rfl, hF, hK⟩
          have L4 := Lib.hid (L3.out.same hK)
          have F4 := Lib.hid hF
          clear hF hK cP
          go_wp2_with fail
          refine (no_isFault F4.out (by decide) (by decide) (Keeps.refl _ _)).mono ?_
          rintro e w' ⟨rfl, rfl⟩
          go_wp2_with fail
          go_roundw
          case rel => exact ⟨i + 1, L, X, by go_num, rfl, by omega, by omega, L4.out⟩
          case measure => simp [intOf]; omega
        · have cP := Lib.hid (push_ok L3.out.Q t wi.out (by omega) fun u hu e => he ⟨u, hu, e⟩)
          have hn : (ins t L).length = L.length + 1 := ins_length t L
          unfold tmVal at cP
          clear he
          go_wp2_with fail
          refine cP.out.mono ?_
          rintro e w3 ⟨rfl, hW⟩
          obtain ⟨X', hL⟩ := L3.out.push hW
          have L4 := Lib.hid hL
          clear hW hL cP
          go_wp2_with fail
          refine (no_nil _).mono ?_
          rintro e w' ⟨rfl, rfl⟩
          go_wp2_with fail
          go_roundw
          case rel => exact ⟨i + 1, ins t L, X', by go_num, by rw [hn]; go_num, by omega, by omega, L4.out⟩
          case measure => simp [intOf]; omega
      · have hin' : ¬ (i : Int) < (len0 : Int) := by omega
        go_wp2_with fail
        obtain ⟨wo, hwo⟩ : ∃ wo : World, wo = wr := ⟨_, rfl⟩
        have G1 := Lib.hid (show Rise w wo wr q X L [] L (.slice none 0 0) from ⟨L2.out, Own.none _ _, rfl, by rw [hwo]; exact Nat.le_refl _, by rw [hwo]; exact L2.out.keeps.size, by rw [hwo]; exact L2.out.Q.old⟩)
        have hL60 : L.length ≤ 60 := by omega
        have hUL := Lib.hid L2.out.Q.up
        clear hwo
        go_loopw [9, 10, 53] (fun v nv jv w2 => ∃ (j : Nat) (z : Int) (D R : List Tm), jv = .int .i64 j ∧ nv = .int .i64 z ∧ j ≤ len1 ∧ lenOf v = D.length ∧ Rise w wo w2 q X L D R v) (fun _ _ jv _ => len1 - (intOf jv).toNat)
        case atStart => exact ⟨0, 0, [], L, rfl, rfl, Nat.zero_le _, rfl, G1.out⟩
        case round =>
          clear G1
          obtain ⟨j, z, D, R, rfl, rfl, hj, hvl, hG⟩ := hrel
          have G2 := Lib.hid hG
          obtain ⟨vo, vc, hvs, _⟩ := TRow.shape hG.own.1
          subst hvs
          clear hG hvl
          by_cases hj1 : j < len1
          · have hj1' : (j : Int) < (len1 : Int) := by omega
            obtain ⟨cb, off, zv, rfl, hc, x, rfl, _⟩ := (in1.out.keeps G2.out.lone.keeps fun _ _ => id).at_ j hj1
            by_cases hj0 : j = 0
            · subst hj0
              rw [Nat.add_zero] at hc
              go_wp2_with fail
              refine (due_any G2.out.lone.Q x).mono ?_
              rintro e w4 ⟨u, rfl, hO, hQ, hK⟩
              obtain ⟨E, R', hT, hle, hgt⟩ := G2.out.go_ hO hQ hK
              have T4 := Lib.hid hT
              have le4 := Lib.hid hle
              have gt4 := Lib.hid hgt
              clear hO hQ hK hT hle hgt
              have hE60 : D.length + (E.length + R'.length) = L.length := by
                have := congrArg List.length T4.out.all
                rwa [List.length_append, List.length_append] at this
              obtain ⟨uo, uc, hus, _⟩ := T4.out.rd
              subst hus
              go_wp2_with fail
              go_loopw [9, 71] (fun v kv w5 => ∃ k : Nat, kv = .int .i64 k ∧ k ≤ E.length ∧ Told w wo w5 q X L D E R' k v (.slice uo E.length uc)) (fun _ kv _ => E.length - (intOf kv).toNat)
              case atStart => exact ⟨0, rfl, Nat.zero_le _, T4.out⟩
              case round =>
                clear T4
                obtain ⟨k, rfl, hk, hT⟩ := hrel
                have T5 := Lib.hid hT
                obtain ⟨vo, vc, hvs, _⟩ := TRow.shape hT.own.1
                rw [List.length_append, List.length_take, Nat.min_eq_left hk] at hvs
                subst hvs
                clear hT
                by_cases hkE : k < E.length
                · have hkE' : (k : Int) < (E.length : Int) := by omega
                  obtain ⟨b, off, rfl, y0, y1⟩ := T5.out.rd.at_ k hkE
                  have hY := le4.out _ (at_mem hkE)
                  have k5 := Lib.hid (((Keeps.refl (fun _ => False) wr).alloc (.cells #[.int .i64 (at_ E k).1, .int .i64 (at_ E k).2] 31)).alloc (.cells #[.int .i64 (at_ E k).1, .int .i64 (at_ E k).2] 31))
                  have T6 := Lib.hid (T5.out.same k5.out)
                  have mB := Lib.hid (Whole.made (wr.alloc (.cells #[.int .i64 (at_ E k).1, .int .i64 (at_ E k).2] 31)) 31 #[.int .i64 (at_ E k).1, .int .i64 (at_ E k).2])
                  have more := Lib.hid (fun V v' => T6.out.more (w' := V) (v' := v') hkE)
                  obtain ⟨t, ht⟩ : ∃ t, at_ E k = t := ⟨_, rfl⟩
                  rw [ht] at y0 y1 hY k5 T6 mB more
                  clear ht
                  have hY' : ¬ x < t.1 := by omega
                  have few9 : D.length + k + 1 ≤ 100000 := by omega
                  go_wp2_with (first
                    | (at_builtin; refine wpList_append_tms _ rfl _ _ rfl (.slice vo (D.length + k) vc) (D ++ E.take k) [t] rfl T6.out.own.1 ⟨wr.heap.size + 1, 0, none⟩ 1 _ rfl rfl (one_timer (by have := mB.out; rw [World.size_alloc] at this; exact this)) (D.length + k + 1) (by rw [List.length_append, List.length_take, Nat.min_eq_left (Nat.le_of_lt hkE)]) few9 ?_; intro ao cap V hO hG hl; have T7 := Lib.hid (more.out V _ hO hG hl); clear hO hG hl))
                  go_roundw
                  case rel => exact ⟨k + 1, by go_num, by omega, T7.out⟩
                  case measure => simp [intOf]; omega
                · obtain rfl : k = E.length := by omega
                  have hkE' : ¬ (E.length : Int) < (E.length : Int) := by omega
                  have G3 := Lib.hid T5.out.done
                  clear T5
                  cases R' with
                  | nil =>
                    have cN := Lib.hid (next_none G3.out.lone.Q)
                    unfold tmVal at cN
                    go_wp2_with (first | (go_at_call 12; refine cN.out.mono ?_; rintro e w6 ⟨rfl, hK⟩; have G4 := Lib.hid ((G3.out.same hK).same ((Keeps.refl (fun _ => False) w6).alloc (.cells #[.int .i64 0, .int .i64 0] 31))); clear hK))
                    go_roundw
                    case rel => exact ⟨0 + 1, x, D ++ E, [], by go_num, rfl, by omega, by rw [List.length_append]; rfl, G4.out⟩
                    case measure => simp [intOf]; omega
                  | cons h R'' =>
                    have cN := Lib.hid (next_some G3.out.lone.Q)
                    have hh := gt4.out h (by simp)
                    have hh' : ¬ h.1 ≤ x := by omega
                    unfold tmVal at cN
                    go_wp2_with (first | (go_at_call 12; refine cN.out.mono ?_; rintro e w6 ⟨rfl, hK⟩; have G4 := Lib.hid ((G3.out.same hK).same ((Keeps.refl (fun _ => False) w6).alloc (.cells #[.int .i64 h.1, .int .i64 h.2] 31))); clear hK))
                    go_roundw
                    case rel => exact ⟨0 + 1, x, D ++ E, h :: R'', by go_num, rfl, by omega, by rw [List.length_append]; rfl, G4.out⟩
                    case measure => simp [intOf]; omega
            · have hj0' : (0 : Int) < (j : Int) := by omega
              by_cases hxz : x < z
              · go_wp2_with fail
                refine (due_any G2.out.lone.Q z).mono ?_
                rintro e w4 ⟨u, rfl, hO, hQ, hK⟩
                obtain ⟨E, R', hT, hle, hgt⟩ := G2.out.go_ hO hQ hK
                have T4 := Lib.hid hT
                have le4 := Lib.hid hle
                have gt4 := Lib.hid hgt
                clear hO hQ hK hT hle hgt
                have hE60 : D.length + (E.length + R'.length) = L.length := by
                  have := congrArg List.length T4.out.all
                  rwa [List.length_append, List.length_append] at this
                obtain ⟨uo, uc, hus, _⟩ := T4.out.rd
                subst hus
                go_wp2_with fail
                go_loopw [9, 71] (fun v kv w5 => ∃ k : Nat, kv = .int .i64 k ∧ k ≤ E.length ∧ Told w wo w5 q X L D E R' k v (.slice uo E.length uc)) (fun _ kv _ => E.length - (intOf kv).toNat)
                case atStart => exact ⟨0, rfl, Nat.zero_le _, T4.out⟩
                case round =>
                  clear T4
                  obtain ⟨k, rfl, hk, hT⟩ := hrel
                  have T5 := Lib.hid hT
                  obtain ⟨vo, vc, hvs, _⟩ := TRow.shape hT.own.1
                  rw [List.length_append, List.length_take, Nat.min_eq_left hk] at hvs
                  subst hvs
                  clear hT
                  by_cases hkE : k < E.length
                  · have hkE' : (k : Int) < (E.length : Int) := by omega
                    obtain ⟨b, off, rfl, y0, y1⟩ := T5.out.rd.at_ k hkE
                    have hY := le4.out _ (at_mem hkE)
                    have k5 := Lib.hid (((Keeps.refl (fun _ => False) wr).alloc (.cells #[.int .i64 (at_ E k).1, .int .i64 (at_ E k).2] 31)).alloc (.cells #[.int .i64 (at_ E k).1, .int .i64 (at_ E k).2] 31))
                    have T6 := Lib.hid (T5.out.same k5.out)
                    have mB := Lib.hid (Whole.made (wr.alloc (.cells #[.int .i64 (at_ E k).1, .int .i64 (at_ E k).2] 31)) 31 #[.int .i64 (at_ E k).1, .int .i64 (at_ E k).2])
                    have more := Lib.hid (fun V v' => T6.out.more (w' := V) (v' := v') hkE)
                    obtain ⟨t, ht⟩ : ∃ t, at_ E k = t := ⟨_, rfl⟩
                    rw [ht] at y0 y1 hY k5 T6 mB more
                    clear ht
                    have hY' : ¬ z < t.1 := by omega
                    have few9 : D.length + k + 1 ≤ 100000 := by omega
                    go_wp2_with (first
                      | (at_builtin; refine wpList_append_tms _ rfl _ _ rfl (.slice vo (D.length + k) vc) (D ++ E.take k) [t] rfl T6.out.own.1 ⟨wr.heap.size + 1, 0, none⟩ 1 _ rfl rfl (one_timer (by have := mB.out; rw [World.size_alloc] at this; exact this)) (D.length + k + 1) (by rw [List.length_append, List.length_take, Nat.min_eq_left (Nat.le_of_lt hkE)]) few9 ?_; intro ao cap V hO hG hl; have T7 := Lib.hid (more.out V _ hO hG hl); clear hO hG hl))
                    go_roundw
                    case rel => exact ⟨k + 1, by go_num, by omega, T7.out⟩
                    case measure => simp [intOf]; omega
                  · obtain rfl : k = E.length := by omega
                    have hkE' : ¬ (E.length : Int) < (E.length : Int) := by omega
                    have G3 := Lib.hid T5.out.done
                    clear T5
                    cases R' with
                    | nil =>
                      have cN := Lib.hid (next_none G3.out.lone.Q)
                      unfold tmVal at cN
                      go_wp2_with (first | (go_at_call 12; refine cN.out.mono ?_; rintro e w6 ⟨rfl, hK⟩; have G4 := Lib.hid ((G3.out.same hK).same ((Keeps.refl (fun _ => False) w6).alloc (.cells #[.int .i64 0, .int .i64 0] 31))); clear hK))
                      go_roundw
                      case rel => exact ⟨j + 1, z, D ++ E, [], by go_num, rfl, by omega, by rw [List.length_append]; rfl, G4.out⟩
                      case measure => simp [intOf]; omega
                    | cons h R'' =>
                      have cN := Lib.hid (next_some G3.out.lone.Q)
                      have hh := gt4.out h (by simp)
                      have hh' : ¬ h.1 ≤ z := by omega
                      unfold tmVal at cN
                      go_wp2_with (first | (go_at_call 12; refine cN.out.mono ?_; rintro e w6 ⟨rfl, hK⟩; have G4 := Lib.hid ((G3.out.same hK).same ((Keeps.refl (fun _ => False) w6).alloc (.cells #[.int .i64 h.1, .int .i64 h.2] 31))); clear hK))
                      go_roundw
                      case rel => exact ⟨j + 1, z, D ++ E, h :: R'', by go_num, rfl, by omega, by rw [List.length_append]; rfl, G4.out⟩
                      case measure => simp [intOf]; omega
              · go_wp2_with fail
                refine (due_any G2.out.lone.Q x).mono ?_
                rintro e w4 ⟨u, rfl, hO, hQ, hK⟩
                obtain ⟨E, R', hT, hle, hgt⟩ := G2.out.go_ hO hQ hK
                have T4 := Lib.hid hT
                have le4 := Lib.hid hle
                have gt4 := Lib.hid hgt
                clear hO hQ hK hT hle hgt
                have hE60 : D.length + (E.length + R'.length) = L.length := by
                  have := congrArg List.length T4.out.all
                  rwa [List.length_append, List.length_append] at this
                obtain ⟨uo, uc, hus, _⟩ := T4.out.rd
                subst hus
                go_wp2_with fail
                go_loopw [9, 71] (fun v kv w5 => ∃ k : Nat, kv = .int .i64 k ∧ k ≤ E.length ∧ Told w wo w5 q X L D E R' k v (.slice uo E.length uc)) (fun _ kv _ => E.length - (intOf kv).toNat)
                case atStart => exact ⟨0, rfl, Nat.zero_le _, T4.out⟩
                case round =>
                  clear T4
                  obtain ⟨k, rfl, hk, hT⟩ := hrel
                  have T5 := Lib.hid hT
                  obtain ⟨vo, vc, hvs, _⟩ := TRow.shape hT.own.1
                  rw [List.length_append, List.length_take, Nat.min_eq_left hk] at hvs
                  subst hvs
                  clear hT
                  by_cases hkE : k < E.length
                  · have hkE' : (k : Int) < (E.length : Int) := by omega
                    obtain ⟨b, off, rfl, y0, y1⟩ := T5.out.rd.at_ k hkE
                    have hY := le4.out _ (at_mem hkE)
                    have k5 := Lib.hid (((Keeps.refl (fun _ => False) wr).alloc (.cells #[.int .i64 (at_ E k).1, .int .i64 (at_ E k).2] 31)).alloc (.cells #[.int .i64 (at_ E k).1, .int .i64 (at_ E k).2] 31))
                    have T6 := Lib.hid (T5.out.same k5.out)
                    have mB := Lib.hid (Whole.made (wr.alloc (.cells #[.int .i64 (at_ E k).1, .int .i64 (at_ E k).2] 31)) 31 #[.int .i64 (at_ E k).1, .int .i64 (at_ E k).2])
                    have more := Lib.hid (fun V v' => T6.out.more (w' := V) (v' := v') hkE)
                    obtain ⟨t, ht⟩ : ∃ t, at_ E k = t := ⟨_, rfl⟩
                    rw [ht] at y0 y1 hY k5 T6 mB more
                    clear ht
                    have hY' : ¬ x < t.1 := by omega
                    have few9 : D.length + k + 1 ≤ 100000 := by omega
                    go_wp2_with (first
                      | (at_builtin; refine wpList_append_tms _ rfl _ _ rfl (.slice vo (D.length + k) vc) (D ++ E.take k) [t] rfl T6.out.own.1 ⟨wr.heap.size + 1, 0, none⟩ 1 _ rfl rfl (one_timer (by have := mB.out; rw [World.size_alloc] at this; exact this)) (D.length + k + 1) (by rw [List.length_append, List.length_take, Nat.min_eq_left (Nat.le_of_lt hkE)]) few9 ?_; intro ao cap V hO hG hl; have T7 := Lib.hid (more.out V _ hO hG hl); clear hO hG hl))
                    go_roundw
                    case rel => exact ⟨k + 1, by go_num, by omega, T7.out⟩
                    case measure => simp [intOf]; omega
                  · obtain rfl : k = E.length := by omega
                    have hkE' : ¬ (E.length : Int) < (E.length : Int) := by omega
                    have G3 := Lib.hid T5.out.done
                    clear T5
                    cases R' with
                    | nil =>
                      have cN := Lib.hid (next_none G3.out.lone.Q)
                      unfold tmVal at cN
                      go_wp2_with (first | (go_at_call 12; refine cN.out.mono ?_; rintro e w6 ⟨rfl, hK⟩; have G4 := Lib.hid ((G3.out.same hK).same ((Keeps.refl (fun _ => False) w6).alloc (.cells #[.int .i64 0, .int .i64 0] 31))); clear hK))
                      go_roundw
                      case rel => exact ⟨j + 1, x, D ++ E, [], by go_num, rfl, by omega, by rw [List.length_append]; rfl, G4.out⟩
                      case measure => simp [intOf]; omega
                    | cons h R'' =>
                      have cN := Lib.hid (next_some G3.out.lone.Q)
                      have hh := gt4.out h (by simp)
                      have hh' : ¬ h.1 ≤ x := by omega
                      unfold tmVal at cN
                      go_wp2_with (first | (go_at_call 12; refine cN.out.mono ?_; rintro e w6 ⟨rfl, hK⟩; have G4 := Lib.hid ((G3.out.same hK).same ((Keeps.refl (fun _ => False) w6).alloc (.cells #[.int .i64 h.1, .int .i64 h.2] 31))); clear hK))
                      go_roundw
                      case rel => exact ⟨j + 1, x, D ++ E, h :: R'', by go_num, rfl, by omega, by rw [List.length_append]; rfl, G4.out⟩
                      case measure => simp [intOf]; omega
          · have hj1' : ¬ (j : Int) < (len1 : Int) := by omega
            have hDR : D.length + R.length = L.length := G2.out.few
            have hUD := hUL.out
            rw [← G2.out.all] at hUD
            obtain ⟨uD, _, uDR⟩ := List.pairwise_append.1 hUD
            have UD := Lib.hid (show ∀ p, p + 1 < D.length → ahead (at_ D p) (at_ D (p + 1)) = true from fun p hp => by
              have := List.pairwise_iff_getElem.1 uD p (p + 1) (by omega) hp (by omega)
              rwa [← at_eq (List.getElem?_eq_getElem hp), ← at_eq (List.getElem?_eq_getElem (show p < D.length by omega))] at this)
            have UDR := Lib.hid (show ∀ a ∈ D, ∀ b ∈ R, ahead a b = true from uDR)
            clear hUD uD uDR
            go_wp2_with fail
            go_loopw [99] (fun mv w3 => ∃ m : Nat, mv = .int .i64 m ∧ m ≤ D.length ∧ Rise w wo w3 q X L D R (.slice vo D.length vc)) (fun mv _ => D.length - (intOf mv).toNat)
            case atStart => exact ⟨0, rfl, Nat.zero_le _, G2.out⟩
            case round =>
              clear G2
              obtain ⟨m, rfl, hm, hG⟩ := hrel
              have G3 := Lib.hid hG
              clear hG
              by_cases hmD : m < D.length
              · have hmD' : (m : Int) < (D.length : Int) := by omega
                by_cases hm0 : m = 0
                · subst hm0
                  go_wp2_with fail
                  go_region
                  go_wp2_with fail
                  go_roundw
                  case rel => exact ⟨0 + 1, by go_num, by omega, G3.out.same (Keeps.refl _ _).drew⟩
                  case measure => simp [intOf]; omega
                · obtain ⟨p, hpm⟩ : ∃ p, p + 1 = m := ⟨m - 1, by omega⟩
                  obtain ⟨gv, rfl⟩ : ∃ gv, vo = some ⟨gv, 0, none⟩ := by
                    obtain ⟨g, c, e⟩ := TRow.form G3.out.own.1 (by omega)
                    simp only [Value.slice.injEq] at e
                    exact ⟨g, e.1⟩
                  have y0 := TRow.when G3.out.own.1 p (by omega)
                  have y1 := TRow.id G3.out.own.1 p (by omega)
                  have z0 := TRow.when G3.out.own.1 m hmD
                  have z1 := TRow.id G3.out.own.1 m hmD
                  have ra := Lib.hid (ref_ahead (at_ D p) (at_ D m) true (by rw [← hpm]; exact UD.out p (by omega)))
                  generalize at_ D p = y at y0 y1 ra
                  generalize at_ D m = z' at z0 z1 ra
                  have S0 := Lib.hid (fun V (K : Keeps (fun _ => False) wr V) => (⟨(K.cell (p := ⟨gv, p * 2, none⟩) (cell_lt y0) id).trans y0, (K.cell (p := ⟨gv, p * 2 + 1, none⟩) (cell_lt y1) id).trans y1, (K.cell (p := ⟨gv, m * 2, none⟩) (cell_lt z0) id).trans z0, (K.cell (p := ⟨gv, m * 2 + 1, none⟩) (cell_lt z1) id).trans z1⟩ : V.cell? ⟨gv, p * 2, none⟩ = some (.int .i64 y.1) ∧ V.cell? ⟨gv, p * 2 + 1, none⟩ = some (.int .i64 y.2) ∧ V.cell? ⟨gv, m * 2, none⟩ = some (.int .i64 z'.1) ∧ V.cell? ⟨gv, m * 2 + 1, none⟩ = some (.int .i64 z'.2)))
                  clear y0 y1 z0 z1
                  have s0 := Lib.hid (S0.out wr.drew (Keeps.refl _ _).drew)
                  have m0 : (0 : Int) < (m : Int) := by omega
                  have m0n : 0 < m := by omega
                  have e0 : IntKind.i64.wrap ((m : Int) - 1) = (p : Int) := by rw [IntWalk.i64_in _ (by omega)]; omega
                  have p0 : (0 : Int) ≤ (p : Int) := by omega
                  have pD : (p : Int) < (D.length : Int) := by omega
                  have pD' : p < D.length := by omega
                  have hmm := Lib.hid (show D.length - (m + 1) < D.length - m by omega)
                  have hpm := Lib.hid hpm
                  clear hm0
                  go_wp2_with fail
                  go_region_held3 (fun V => V.cell? ⟨gv, p * 2, none⟩ = some (.int .i64 y.1) ∧ V.cell? ⟨gv, p * 2 + 1, none⟩ = some (.int .i64 y.2) ∧ V.cell? ⟨gv, m * 2, none⟩ = some (.int .i64 z'.1) ∧ V.cell? ⟨gv, m * 2 + 1, none⟩ = some (.int .i64 z'.2)) (first | exact s0.out | exact s4.out) (first | (go_at_call 19; refine (ra.out _).mono ?_; rintro e w4 ⟨rfl, hK⟩; have s4 := Lib.hid (S0.out _ ((Keeps.refl (fun _ => False) wr).drew.trans hK fun _ _ => False.elim)); have G4 := Lib.hid (G3.out.same ((Keeps.refl (fun _ => False) wr).drew.trans hK fun _ _ => False.elim)); clear hK))
                  go_wp2_with fail
                  go_roundw
                  case rel => exact ⟨m + 1, by go_num, by omega, G4.out⟩
                  case measure => simp [intOf]; exact hmm.out
              · obtain rfl : m = D.length := by omega
                have hmD' : ¬ (D.length : Int) < (D.length : Int) := by omega
                have e0 : IntKind.i64.wrap ((D.length : Int) + (R.length : Int)) = (L.length : Int) := by rw [IntWalk.i64_in _ (by omega)]; omega
                go_wp2_with fail
                refine (all_any G3.out.lone.Q).mono ?_
                rintro e w4 ⟨u, rfl, hU, hK⟩
                have G4 := Lib.hid (G3.out.same hK)
                have U4 := Lib.hid hU
                obtain ⟨ru, cu, hu, _⟩ := hU
                subst hu
                clear hK G3
                by_cases hD0 : D = []
                · have hb0 : ((D.length : Int) == 0) = true := by rw [hD0]; rfl
                  have hbw : IntKind.i64.wrap (R.length : Int) = (L.length : Int) := by rw [IntWalk.i64_in _ (by omega)]; rw [hD0] at hDR; simp at hDR; omega
                  have hD0 := Lib.hid hD0
                  go_wp2_with fail
                  refine AnyT.begin (S := fun _ => True) (by kernel_rfl) trivial (fun hHeld => ?_)
                  first
                    | (refine AnyT.take (i := 0) (v := ?_) rfl (by kernel_rfl) (fun _ _ _ h => h) (Or.inl ⟨by rfl, ?_⟩) (by assumption) ?_; rotate_left; (· (intro V hSV; (try dsimp only at hSV); (first | (go_simp; done) | (go_simp; with_reducible rfl)))); simp only [Act.put, List.setIfInBounds_toArray, List.set_cons_zero, List.set_cons_succ])
                    | (refine AnyT.take (i := 0) (v := undef) rfl (by kernel_rfl) (fun _ _ _ h => h) (Or.inr ⟨by rfl, rfl⟩) (by assumption) ?_; simp only [Act.put, List.setIfInBounds_toArray, List.set_cons_zero, List.set_cons_succ])
                  first
                    | (refine AnyT.take (i := 1) (v := ?_) rfl (by kernel_rfl) (fun _ _ _ h => h) (Or.inl ⟨by rfl, ?_⟩) (by assumption) ?_; rotate_left; (· (intro V hSV; (try dsimp only at hSV); (first | (go_simp; done) | (go_simp; with_reducible rfl)))); simp only [Act.put, List.setIfInBounds_toArray, List.set_cons_zero, List.set_cons_succ])
                    | (refine AnyT.take (i := 1) (v := undef) rfl (by kernel_rfl) (fun _ _ _ h => h) (Or.inr ⟨by rfl, rfl⟩) (by assumption) ?_; simp only [Act.put, List.setIfInBounds_toArray, List.set_cons_zero, List.set_cons_succ])
                  first
                    | (refine AnyT.take (i := 2) (v := ?_) rfl (by kernel_rfl) (fun _ _ _ h => h) (Or.inl ⟨by rfl, ?_⟩) (by assumption) ?_; rotate_left; (· (intro V hSV; (try dsimp only at hSV); (first | (go_simp; done) | (go_simp; with_reducible rfl)))); simp only [Act.put, List.setIfInBounds_toArray, List.set_cons_zero, List.set_cons_succ])
                    | (refine AnyT.take (i := 2) (v := undef) rfl (by kernel_rfl) (fun _ _ _ h => h) (Or.inr ⟨by rfl, rfl⟩) (by assumption) ?_; simp only [Act.put, List.setIfInBounds_toArray, List.set_cons_zero, List.set_cons_succ])
                  first
                    | (refine AnyT.take (i := 3) (v := ?_) rfl (by kernel_rfl) (fun _ _ _ h => h) (Or.inl ⟨by rfl, ?_⟩) (by assumption) ?_; rotate_left; (· (intro V hSV; (try dsimp only at hSV); (first | (go_simp; done) | (go_simp; with_reducible rfl)))); simp only [Act.put, List.setIfInBounds_toArray, List.set_cons_zero, List.set_cons_succ])
                    | (refine AnyT.take (i := 3) (v := undef) rfl (by kernel_rfl) (fun _ _ _ h => h) (Or.inr ⟨by rfl, rfl⟩) (by assumption) ?_; simp only [Act.put, List.setIfInBounds_toArray, List.set_cons_zero, List.set_cons_succ])
                  first
                    | (refine AnyT.take (i := 4) (v := ?_) rfl (by kernel_rfl) (fun _ _ _ h => h) (Or.inl ⟨by rfl, ?_⟩) (by assumption) ?_; rotate_left; (· (intro V hSV; (try dsimp only at hSV); (first | (go_simp; done) | (go_simp; with_reducible rfl)))); simp only [Act.put, List.setIfInBounds_toArray, List.set_cons_zero, List.set_cons_succ])
                    | (refine AnyT.take (i := 4) (v := undef) rfl (by kernel_rfl) (fun _ _ _ h => h) (Or.inr ⟨by rfl, rfl⟩) (by assumption) ?_; simp only [Act.put, List.setIfInBounds_toArray, List.set_cons_zero, List.set_cons_succ])
                  first
                    | (refine AnyT.take (i := 5) (v := ?_) rfl (by kernel_rfl) (fun _ _ _ h => h) (Or.inl ⟨by rfl, ?_⟩) (by assumption) ?_; rotate_left; (· (intro V hSV; (try dsimp only at hSV); (first | (go_simp; done) | (go_simp; with_reducible rfl)))); simp only [Act.put, List.setIfInBounds_toArray, List.set_cons_zero, List.set_cons_succ])
                    | (refine AnyT.take (i := 5) (v := undef) rfl (by kernel_rfl) (fun _ _ _ h => h) (Or.inr ⟨by rfl, rfl⟩) (by assumption) ?_; simp only [Act.put, List.setIfInBounds_toArray, List.set_cons_zero, List.set_cons_succ])
                  first
                    | (refine AnyT.take (i := 6) (v := ?_) rfl (by kernel_rfl) (fun _ _ _ h => h) (Or.inl ⟨by rfl, ?_⟩) (by assumption) ?_; rotate_left; (· (intro V hSV; (try dsimp only at hSV); (first | (go_simp; done) | (go_simp; with_reducible rfl)))); simp only [Act.put, List.setIfInBounds_toArray, List.set_cons_zero, List.set_cons_succ])
                    | (refine AnyT.take (i := 6) (v := undef) rfl (by kernel_rfl) (fun _ _ _ h => h) (Or.inr ⟨by rfl, rfl⟩) (by assumption) ?_; simp only [Act.put, List.setIfInBounds_toArray, List.set_cons_zero, List.set_cons_succ])
                  first
                    | (refine AnyT.take (i := 7) (v := ?_) rfl (by kernel_rfl) (fun _ _ _ h => h) (Or.inl ⟨by rfl, ?_⟩) (by assumption) ?_; rotate_left; (· (intro V hSV; (try dsimp only at hSV); (first | (go_simp; done) | (go_simp; with_reducible rfl)))); simp only [Act.put, List.setIfInBounds_toArray, List.set_cons_zero, List.set_cons_succ])
                    | (refine AnyT.take (i := 7) (v := undef) rfl (by kernel_rfl) (fun _ _ _ h => h) (Or.inr ⟨by rfl, rfl⟩) (by assumption) ?_; simp only [Act.put, List.setIfInBounds_toArray, List.set_cons_zero, List.set_cons_succ])
                  first
                    | (refine AnyT.take (i := 8) (v := ?_) rfl (by kernel_rfl) (fun _ _ _ h => h) (Or.inl ⟨by rfl, ?_⟩) (by assumption) ?_; rotate_left; (· (intro V hSV; (try dsimp only at hSV); (first | (go_simp; done) | (go_simp; with_reducible rfl)))); simp only [Act.put, List.setIfInBounds_toArray, List.set_cons_zero, List.set_cons_succ])
                    | (refine AnyT.take (i := 8) (v := undef) rfl (by kernel_rfl) (fun _ _ _ h => h) (Or.inr ⟨by rfl, rfl⟩) (by assumption) ?_; simp only [Act.put, List.setIfInBounds_toArray, List.set_cons_zero, List.set_cons_succ])
                  first
                    | (refine AnyT.take (i := 9) (v := ?_) rfl (by kernel_rfl) (fun _ _ _ h => h) (Or.inl ⟨by rfl, ?_⟩) (by assumption) ?_; rotate_left; (· (intro V hSV; (try dsimp only at hSV); (first | (go_simp; done) | (go_simp; with_reducible rfl)))); simp only [Act.put, List.setIfInBounds_toArray, List.set_cons_zero, List.set_cons_succ])
                    | (refine AnyT.take (i := 9) (v := undef) rfl (by kernel_rfl) (fun _ _ _ h => h) (Or.inr ⟨by rfl, rfl⟩) (by assumption) ?_; simp only [Act.put, List.setIfInBounds_toArray, List.set_cons_zero, List.set_cons_succ])
                  first
                    | (refine AnyT.take (i := 10) (v := ?_) rfl (by kernel_rfl) (fun _ _ _ h => h) (Or.inl ⟨by rfl, ?_⟩) (by assumption) ?_; rotate_left; (· (intro V hSV; (try dsimp only at hSV); (first | (go_simp; done) | (go_simp; with_reducible rfl)))); simp only [Act.put, List.setIfInBounds_toArray, List.set_cons_zero, List.set_cons_succ])
                    | (refine AnyT.take (i := 10) (v := undef) rfl (by kernel_rfl) (fun _ _ _ h => h) (Or.inr ⟨by rfl, rfl⟩) (by assumption) ?_; simp only [Act.put, List.setIfInBounds_toArray, List.set_cons_zero, List.set_cons_succ])
                  first
                    | (refine AnyT.take (i := 11) (v := ?_) rfl (by kernel_rfl) (fun _ _ _ h => h) (Or.inl ⟨by rfl, ?_⟩) (by assumption) ?_; rotate_left; (· (intro V hSV; (try dsimp only at hSV); (first | (go_simp; done) | (go_simp; with_reducible rfl)))); simp only [Act.put, List.setIfInBounds_toArray, List.set_cons_zero, List.set_cons_succ])
                    | (refine AnyT.take (i := 11) (v := undef) rfl (by kernel_rfl) (fun _ _ _ h => h) (Or.inr ⟨by rfl, rfl⟩) (by assumption) ?_; simp only [Act.put, List.setIfInBounds_toArray, List.set_cons_zero, List.set_cons_succ])
                  first
                    | (refine AnyT.take (i := 12) (v := ?_) rfl (by kernel_rfl) (fun _ _ _ h => h) (Or.inl ⟨by rfl, ?_⟩) (by assumption) ?_; rotate_left; (· (intro V hSV; (try dsimp only at hSV); (first | (go_simp; done) | (go_simp; with_reducible rfl)))); simp only [Act.put, List.setIfInBounds_toArray, List.set_cons_zero, List.set_cons_succ])
                    | (refine AnyT.take (i := 12) (v := undef) rfl (by kernel_rfl) (fun _ _ _ h => h) (Or.inr ⟨by rfl, rfl⟩) (by assumption) ?_; simp only [Act.put, List.setIfInBounds_toArray, List.set_cons_zero, List.set_cons_succ])
                  first
                    | (refine AnyT.take (i := 13) (v := ?_) rfl (by kernel_rfl) (fun _ _ _ h => h) (Or.inl ⟨by rfl, ?_⟩) (by assumption) ?_; rotate_left; (· (intro V hSV; (try dsimp only at hSV); (first | (go_simp; done) | (go_simp; with_reducible rfl)))); simp only [Act.put, List.setIfInBounds_toArray, List.set_cons_zero, List.set_cons_succ])
                    | (refine AnyT.take (i := 13) (v := undef) rfl (by kernel_rfl) (fun _ _ _ h => h) (Or.inr ⟨by rfl, rfl⟩) (by assumption) ?_; simp only [Act.put, List.setIfInBounds_toArray, List.set_cons_zero, List.set_cons_succ])
                  first
                    | (refine AnyT.take (i := 14) (v := ?_) rfl (by kernel_rfl) (fun _ _ _ h => h) (Or.inl ⟨by rfl, ?_⟩) (by assumption) ?_; rotate_left; (· (intro V hSV; (try dsimp only at hSV); (first | (go_simp; done) | (go_simp; with_reducible rfl)))); simp only [Act.put, List.setIfInBounds_toArray, List.set_cons_zero, List.set_cons_succ])
                    | (refine AnyT.take (i := 14) (v := undef) rfl (by kernel_rfl) (fun _ _ _ h => h) (Or.inr ⟨by rfl, rfl⟩) (by assumption) ?_; simp only [Act.put, List.setIfInBounds_toArray, List.set_cons_zero, List.set_cons_succ])
                  first
                    | (refine AnyT.take (i := 15) (v := ?_) rfl (by kernel_rfl) (fun _ _ _ h => h) (Or.inl ⟨by rfl, ?_⟩) (by assumption) ?_; rotate_left; (· (intro V hSV; (try dsimp only at hSV); (first | (go_simp; done) | (go_simp; with_reducible rfl)))); simp only [Act.put, List.setIfInBounds_toArray, List.set_cons_zero, List.set_cons_succ])
                    | (refine AnyT.take (i := 15) (v := undef) rfl (by kernel_rfl) (fun _ _ _ h => h) (Or.inr ⟨by rfl, rfl⟩) (by assumption) ?_; simp only [Act.put, List.setIfInBounds_toArray, List.set_cons_zero, List.set_cons_succ])
                  first
                    | (refine AnyT.take (i := 16) (v := ?_) rfl (by kernel_rfl) (fun _ _ _ h => h) (Or.inl ⟨by rfl, ?_⟩) (by assumption) ?_; rotate_left; (· (intro V hSV; (try dsimp only at hSV); (first | (go_simp; done) | (go_simp; with_reducible rfl)))); simp only [Act.put, List.setIfInBounds_toArray, List.set_cons_zero, List.set_cons_succ])
                    | (refine AnyT.take (i := 16) (v := undef) rfl (by kernel_rfl) (fun _ _ _ h => h) (Or.inr ⟨by rfl, rfl⟩) (by assumption) ?_; simp only [Act.put, List.setIfInBounds_toArray, List.set_cons_zero, List.set_cons_succ])
                  first
                    | (refine AnyT.take (i := 17) (v := ?_) rfl (by kernel_rfl) (fun _ _ _ h => h) (Or.inl ⟨by rfl, ?_⟩) (by assumption) ?_; rotate_left; (· (intro V hSV; (try dsimp only at hSV); (first | (go_simp; done) | (go_simp; with_reducible rfl)))); simp only [Act.put, List.setIfInBounds_toArray, List.set_cons_zero, List.set_cons_succ])
                    | (refine AnyT.take (i := 17) (v := undef) rfl (by kernel_rfl) (fun _ _ _ h => h) (Or.inr ⟨by rfl, rfl⟩) (by assumption) ?_; simp only [Act.put, List.setIfInBounds_toArray, List.set_cons_zero, List.set_cons_succ])
                  first
                    | (refine AnyT.take (i := 18) (v := ?_) rfl (by kernel_rfl) (fun _ _ _ h => h) (Or.inl ⟨by rfl, ?_⟩) (by assumption) ?_; rotate_left; (· (intro V hSV; (try dsimp only at hSV); (first | (go_simp; done) | (go_simp; with_reducible rfl)))); simp only [Act.put, List.setIfInBounds_toArray, List.set_cons_zero, List.set_cons_succ])
                    | (refine AnyT.take (i := 18) (v := undef) rfl (by kernel_rfl) (fun _ _ _ h => h) (Or.inr ⟨by rfl, rfl⟩) (by assumption) ?_; simp only [Act.put, List.setIfInBounds_toArray, List.set_cons_zero, List.set_cons_succ])
                  first
                    | (refine AnyT.take (i := 19) (v := ?_) rfl (by kernel_rfl) (fun _ _ _ h => h) (Or.inl ⟨by rfl, ?_⟩) (by assumption) ?_; rotate_left; (· (intro V hSV; (try dsimp only at hSV); (first | (go_simp; done) | (go_simp; with_reducible rfl)))); simp only [Act.put, List.setIfInBounds_toArray, List.set_cons_zero, List.set_cons_succ])
                    | (refine AnyT.take (i := 19) (v := undef) rfl (by kernel_rfl) (fun _ _ _ h => h) (Or.inr ⟨by rfl, rfl⟩) (by assumption) ?_; simp only [Act.put, List.setIfInBounds_toArray, List.set_cons_zero, List.set_cons_succ])
                  first
                    | (refine AnyT.take (i := 20) (v := ?_) rfl (by kernel_rfl) (fun _ _ _ h => h) (Or.inl ⟨by rfl, ?_⟩) (by assumption) ?_; rotate_left; (· (intro V hSV; (try dsimp only at hSV); (first | (go_simp; done) | (go_simp; with_reducible rfl)))); simp only [Act.put, List.setIfInBounds_toArray, List.set_cons_zero, List.set_cons_succ])
                    | (refine AnyT.take (i := 20) (v := undef) rfl (by kernel_rfl) (fun _ _ _ h => h) (Or.inr ⟨by rfl, rfl⟩) (by assumption) ?_; simp only [Act.put, List.setIfInBounds_toArray, List.set_cons_zero, List.set_cons_succ])
                  first
                    | (refine AnyT.take (i := 21) (v := ?_) rfl (by kernel_rfl) (fun _ _ _ h => h) (Or.inl ⟨by rfl, ?_⟩) (by assumption) ?_; rotate_left; (· (intro V hSV; (try dsimp only at hSV); (first | (go_simp; done) | (go_simp; with_reducible rfl)))); simp only [Act.put, List.setIfInBounds_toArray, List.set_cons_zero, List.set_cons_succ])
                    | (refine AnyT.take (i := 21) (v := undef) rfl (by kernel_rfl) (fun _ _ _ h => h) (Or.inr ⟨by rfl, rfl⟩) (by assumption) ?_; simp only [Act.put, List.setIfInBounds_toArray, List.set_cons_zero, List.set_cons_succ])
                  first
                    | (refine AnyT.take (i := 22) (v := ?_) rfl (by kernel_rfl) (fun _ _ _ h => h) (Or.inl ⟨by rfl, ?_⟩) (by assumption) ?_; rotate_left; (· (intro V hSV; (try dsimp only at hSV); (first | (go_simp; done) | (go_simp; with_reducible rfl)))); simp only [Act.put, List.setIfInBounds_toArray, List.set_cons_zero, List.set_cons_succ])
                    | (refine AnyT.take (i := 22) (v := undef) rfl (by kernel_rfl) (fun _ _ _ h => h) (Or.inr ⟨by rfl, rfl⟩) (by assumption) ?_; simp only [Act.put, List.setIfInBounds_toArray, List.set_cons_zero, List.set_cons_succ])
                  first
                    | (refine AnyT.take (i := 23) (v := ?_) rfl (by kernel_rfl) (fun _ _ _ h => h) (Or.inl ⟨by rfl, ?_⟩) (by assumption) ?_; rotate_left; (· (intro V hSV; (try dsimp only at hSV); (first | (go_simp; done) | (go_simp; with_reducible rfl)))); simp only [Act.put, List.setIfInBounds_toArray, List.set_cons_zero, List.set_cons_succ])
                    | (refine AnyT.take (i := 23) (v := undef) rfl (by kernel_rfl) (fun _ _ _ h => h) (Or.inr ⟨by rfl, rfl⟩) (by assumption) ?_; simp only [Act.put, List.setIfInBounds_toArray, List.set_cons_zero, List.set_cons_succ])
                  first
                    | (refine AnyT.take (i := 24) (v := ?_) rfl (by kernel_rfl) (fun _ _ _ h => h) (Or.inl ⟨by rfl, ?_⟩) (by assumption) ?_; rotate_left; (· (intro V hSV; (try dsimp only at hSV); (first | (go_simp; done) | (go_simp; with_reducible rfl)))); simp only [Act.put, List.setIfInBounds_toArray, List.set_cons_zero, List.set_cons_succ])
                    | (refine AnyT.take (i := 24) (v := undef) rfl (by kernel_rfl) (fun _ _ _ h => h) (Or.inr ⟨by rfl, rfl⟩) (by assumption) ?_; simp only [Act.put, List.setIfInBounds_toArray, List.set_cons_zero, List.set_cons_succ])
                  first
                    | (refine AnyT.take (i := 25) (v := ?_) rfl (by kernel_rfl) (fun _ _ _ h => h) (Or.inl ⟨by rfl, ?_⟩) (by assumption) ?_; rotate_left; (· (intro V hSV; (try dsimp only at hSV); (first | (go_simp; done) | (go_simp; with_reducible rfl)))); simp only [Act.put, List.setIfInBounds_toArray, List.set_cons_zero, List.set_cons_succ])
                    | (refine AnyT.take (i := 25) (v := undef) rfl (by kernel_rfl) (fun _ _ _ h => h) (Or.inr ⟨by rfl, rfl⟩) (by assumption) ?_; simp only [Act.put, List.setIfInBounds_toArray, List.set_cons_zero, List.set_cons_succ])
                  first
                    | (refine AnyT.take (i := 26) (v := ?_) rfl (by kernel_rfl) (fun _ _ _ h => h) (Or.inl ⟨by rfl, ?_⟩) (by assumption) ?_; rotate_left; (· (intro V hSV; (try dsimp only at hSV); (first | (go_simp; done) | (go_simp; with_reducible rfl)))); simp only [Act.put, List.setIfInBounds_toArray, List.set_cons_zero, List.set_cons_succ])
                    | (refine AnyT.take (i := 26) (v := undef) rfl (by kernel_rfl) (fun _ _ _ h => h) (Or.inr ⟨by rfl, rfl⟩) (by assumption) ?_; simp only [Act.put, List.setIfInBounds_toArray, List.set_cons_zero, List.set_cons_succ])
                  first
                    | (refine AnyT.take (i := 27) (v := ?_) rfl (by kernel_rfl) (fun _ _ _ h => h) (Or.inl ⟨by rfl, ?_⟩) (by assumption) ?_; rotate_left; (· (intro V hSV; (try dsimp only at hSV); (first | (go_simp; done) | (go_simp; with_reducible rfl)))); simp only [Act.put, List.setIfInBounds_toArray, List.set_cons_zero, List.set_cons_succ])
                    | (refine AnyT.take (i := 27) (v := undef) rfl (by kernel_rfl) (fun _ _ _ h => h) (Or.inr ⟨by rfl, rfl⟩) (by assumption) ?_; simp only [Act.put, List.setIfInBounds_toArray, List.set_cons_zero, List.set_cons_succ])
                  first
                    | (refine AnyT.take (i := 28) (v := ?_) rfl (by kernel_rfl) (fun _ _ _ h => h) (Or.inl ⟨by rfl, ?_⟩) (by assumption) ?_; rotate_left; (· (intro V hSV; (try dsimp only at hSV); (first | (go_simp; done) | (go_simp; with_reducible rfl)))); simp only [Act.put, List.setIfInBounds_toArray, List.set_cons_zero, List.set_cons_succ])
                    | (refine AnyT.take (i := 28) (v := undef) rfl (by kernel_rfl) (fun _ _ _ h => h) (Or.inr ⟨by rfl, rfl⟩) (by assumption) ?_; simp only [Act.put, List.setIfInBounds_toArray, List.set_cons_zero, List.set_cons_succ])
                  first
                    | (refine AnyT.take (i := 29) (v := ?_) rfl (by kernel_rfl) (fun _ _ _ h => h) (Or.inl ⟨by rfl, ?_⟩) (by assumption) ?_; rotate_left; (· (intro V hSV; (try dsimp only at hSV); (first | (go_simp; done) | (go_simp; with_reducible rfl)))); simp only [Act.put, List.setIfInBounds_toArray, List.set_cons_zero, List.set_cons_succ])
                    | (refine AnyT.take (i := 29) (v := undef) rfl (by kernel_rfl) (fun _ _ _ h => h) (Or.inr ⟨by rfl, rfl⟩) (by assumption) ?_; simp only [Act.put, List.setIfInBounds_toArray, List.set_cons_zero, List.set_cons_succ])
                  refine AnyT.ready (rs := [30]) (by kernel_rfl) (by simp) (ReadyT.cons rfl (fun K hK => ?_) ReadyT.nil)
                  go_simp
                  refine (al.out _ (G4.out.lone.keeps.drew)).mono ?_
                  rintro e w5 ⟨rfl, hK5⟩
                  have K5 := Lib.hid (G4.out.lone.keeps.drew.trans hK5 fun _ _ => False.elim)
                  clear hK5
                  go_wp2_with fail
                  have hHeld := True.intro
                  refine hK.out _ _ (fun _ => hHeld) (fun _ => ?_)
                  clear hK K
                  try simp only [Act.put, List.setIfInBounds_toArray, List.set_cons_zero, List.set_cons_succ]
                  first
                    | (refine AnyT.take (i := 31) (v := ?_) rfl (by kernel_rfl) (fun _ _ _ h => h) (Or.inl ⟨by rfl, ?_⟩) (by assumption) ?_; rotate_left; (· (intro V hSV; (try dsimp only at hSV); (first | (go_simp; done) | (go_simp; with_reducible rfl)))); simp only [Act.put, List.setIfInBounds_toArray, List.set_cons_zero, List.set_cons_succ])
                    | (refine AnyT.take (i := 31) (v := undef) rfl (by kernel_rfl) (fun _ _ _ h => h) (Or.inr ⟨by rfl, rfl⟩) (by assumption) ?_; simp only [Act.put, List.setIfInBounds_toArray, List.set_cons_zero, List.set_cons_succ])
                  refine AnyT.ready (rs := [32]) (by kernel_rfl) (by simp) (ReadyT.cons rfl (fun K hK => ?_) ReadyT.nil)
                  go_simp
                  refine hK.out _ _ (fun h => absurd h (by simp)) (fun _ => ?_)
                  clear hK K
                  try simp only [Act.put, List.setIfInBounds_toArray, List.set_cons_zero, List.set_cons_succ]
                  refine AnyT.done (by kernel_rfl) ?_ _
                  go_wp2_with fail
                  go_ret
                  exact ⟨rfl, K5.out.below (Nat.le_refl _) fun _ _ => id⟩
                · by_cases hR0 : R = []
                  · have hb0 : ((R.length : Int) == 0) = true := by rw [hR0]; rfl
                    have hbw : IntKind.i64.wrap (D.length : Int) = (L.length : Int) := by rw [IntWalk.i64_in _ (by omega)]; rw [hR0] at hDR; simp at hDR; omega
                    have hR0 := Lib.hid hR0
                    have hb4 : ((D.length : Int) == 0) = false := by simp; exact hD0
                    go_wp2_with fail
                    refine AnyT.begin (S := fun _ => True) (by kernel_rfl) trivial (fun hHeld => ?_)
                    first
                      | (refine AnyT.take (i := 0) (v := ?_) rfl (by kernel_rfl) (fun _ _ _ h => h) (Or.inl ⟨by rfl, ?_⟩) (by assumption) ?_; rotate_left; (· (intro V hSV; (try dsimp only at hSV); (first | (go_simp; done) | (go_simp; with_reducible rfl)))); simp only [Act.put, List.setIfInBounds_toArray, List.set_cons_zero, List.set_cons_succ])
                      | (refine AnyT.take (i := 0) (v := undef) rfl (by kernel_rfl) (fun _ _ _ h => h) (Or.inr ⟨by rfl, rfl⟩) (by assumption) ?_; simp only [Act.put, List.setIfInBounds_toArray, List.set_cons_zero, List.set_cons_succ])
                    first
                      | (refine AnyT.take (i := 1) (v := ?_) rfl (by kernel_rfl) (fun _ _ _ h => h) (Or.inl ⟨by rfl, ?_⟩) (by assumption) ?_; rotate_left; (· (intro V hSV; (try dsimp only at hSV); (first | (go_simp; done) | (go_simp; with_reducible rfl)))); simp only [Act.put, List.setIfInBounds_toArray, List.set_cons_zero, List.set_cons_succ])
                      | (refine AnyT.take (i := 1) (v := undef) rfl (by kernel_rfl) (fun _ _ _ h => h) (Or.inr ⟨by rfl, rfl⟩) (by assumption) ?_; simp only [Act.put, List.setIfInBounds_toArray, List.set_cons_zero, List.set_cons_succ])
                    first
                      | (refine AnyT.take (i := 2) (v := ?_) rfl (by kernel_rfl) (fun _ _ _ h => h) (Or.inl ⟨by rfl, ?_⟩) (by assumption) ?_; rotate_left; (· (intro V hSV; (try dsimp only at hSV); (first | (go_simp; done) | (go_simp; with_reducible rfl)))); simp only [Act.put, List.setIfInBounds_toArray, List.set_cons_zero, List.set_cons_succ])
                      | (refine AnyT.take (i := 2) (v := undef) rfl (by kernel_rfl) (fun _ _ _ h => h) (Or.inr ⟨by rfl, rfl⟩) (by assumption) ?_; simp only [Act.put, List.setIfInBounds_toArray, List.set_cons_zero, List.set_cons_succ])
                    first
                      | (refine AnyT.take (i := 3) (v := ?_) rfl (by kernel_rfl) (fun _ _ _ h => h) (Or.inl ⟨by rfl, ?_⟩) (by assumption) ?_; rotate_left; (· (intro V hSV; (try dsimp only at hSV); (first | (go_simp; done) | (go_simp; with_reducible rfl)))); simp only [Act.put, List.setIfInBounds_toArray, List.set_cons_zero, List.set_cons_succ])
                      | (refine AnyT.take (i := 3) (v := undef) rfl (by kernel_rfl) (fun _ _ _ h => h) (Or.inr ⟨by rfl, rfl⟩) (by assumption) ?_; simp only [Act.put, List.setIfInBounds_toArray, List.set_cons_zero, List.set_cons_succ])
                    first
                      | (refine AnyT.take (i := 4) (v := ?_) rfl (by kernel_rfl) (fun _ _ _ h => h) (Or.inl ⟨by rfl, ?_⟩) (by assumption) ?_; rotate_left; (· (intro V hSV; (try dsimp only at hSV); (first | (go_simp; done) | (go_simp; with_reducible rfl)))); simp only [Act.put, List.setIfInBounds_toArray, List.set_cons_zero, List.set_cons_succ])
                      | (refine AnyT.take (i := 4) (v := undef) rfl (by kernel_rfl) (fun _ _ _ h => h) (Or.inr ⟨by rfl, rfl⟩) (by assumption) ?_; simp only [Act.put, List.setIfInBounds_toArray, List.set_cons_zero, List.set_cons_succ])
                    first
                      | (refine AnyT.take (i := 5) (v := ?_) rfl (by kernel_rfl) (fun _ _ _ h => h) (Or.inl ⟨by rfl, ?_⟩) (by assumption) ?_; rotate_left; (· (intro V hSV; (try dsimp only at hSV); (first | (go_simp; done) | (go_simp; with_reducible rfl)))); simp only [Act.put, List.setIfInBounds_toArray, List.set_cons_zero, List.set_cons_succ])
                      | (refine AnyT.take (i := 5) (v := undef) rfl (by kernel_rfl) (fun _ _ _ h => h) (Or.inr ⟨by rfl, rfl⟩) (by assumption) ?_; simp only [Act.put, List.setIfInBounds_toArray, List.set_cons_zero, List.set_cons_succ])
                    first
                      | (refine AnyT.take (i := 6) (v := ?_) rfl (by kernel_rfl) (fun _ _ _ h => h) (Or.inl ⟨by rfl, ?_⟩) (by assumption) ?_; rotate_left; (· (intro V hSV; (try dsimp only at hSV); (first | (go_simp; done) | (go_simp; with_reducible rfl)))); simp only [Act.put, List.setIfInBounds_toArray, List.set_cons_zero, List.set_cons_succ])
                      | (refine AnyT.take (i := 6) (v := undef) rfl (by kernel_rfl) (fun _ _ _ h => h) (Or.inr ⟨by rfl, rfl⟩) (by assumption) ?_; simp only [Act.put, List.setIfInBounds_toArray, List.set_cons_zero, List.set_cons_succ])
                    first
                      | (refine AnyT.take (i := 7) (v := ?_) rfl (by kernel_rfl) (fun _ _ _ h => h) (Or.inl ⟨by rfl, ?_⟩) (by assumption) ?_; rotate_left; (· (intro V hSV; (try dsimp only at hSV); (first | (go_simp; done) | (go_simp; with_reducible rfl)))); simp only [Act.put, List.setIfInBounds_toArray, List.set_cons_zero, List.set_cons_succ])
                      | (refine AnyT.take (i := 7) (v := undef) rfl (by kernel_rfl) (fun _ _ _ h => h) (Or.inr ⟨by rfl, rfl⟩) (by assumption) ?_; simp only [Act.put, List.setIfInBounds_toArray, List.set_cons_zero, List.set_cons_succ])
                    first
                      | (refine AnyT.take (i := 8) (v := ?_) rfl (by kernel_rfl) (fun _ _ _ h => h) (Or.inl ⟨by rfl, ?_⟩) (by assumption) ?_; rotate_left; (· (intro V hSV; (try dsimp only at hSV); (first | (go_simp; done) | (go_simp; with_reducible rfl)))); simp only [Act.put, List.setIfInBounds_toArray, List.set_cons_zero, List.set_cons_succ])
                      | (refine AnyT.take (i := 8) (v := undef) rfl (by kernel_rfl) (fun _ _ _ h => h) (Or.inr ⟨by rfl, rfl⟩) (by assumption) ?_; simp only [Act.put, List.setIfInBounds_toArray, List.set_cons_zero, List.set_cons_succ])
                    first
                      | (refine AnyT.take (i := 9) (v := ?_) rfl (by kernel_rfl) (fun _ _ _ h => h) (Or.inl ⟨by rfl, ?_⟩) (by assumption) ?_; rotate_left; (· (intro V hSV; (try dsimp only at hSV); (first | (go_simp; done) | (go_simp; with_reducible rfl)))); simp only [Act.put, List.setIfInBounds_toArray, List.set_cons_zero, List.set_cons_succ])
                      | (refine AnyT.take (i := 9) (v := undef) rfl (by kernel_rfl) (fun _ _ _ h => h) (Or.inr ⟨by rfl, rfl⟩) (by assumption) ?_; simp only [Act.put, List.setIfInBounds_toArray, List.set_cons_zero, List.set_cons_succ])
                    first
                      | (refine AnyT.take (i := 10) (v := ?_) rfl (by kernel_rfl) (fun _ _ _ h => h) (Or.inl ⟨by rfl, ?_⟩) (by assumption) ?_; rotate_left; (· (intro V hSV; (try dsimp only at hSV); (first | (go_simp; done) | (go_simp; with_reducible rfl)))); simp only [Act.put, List.setIfInBounds_toArray, List.set_cons_zero, List.set_cons_succ])
                      | (refine AnyT.take (i := 10) (v := undef) rfl (by kernel_rfl) (fun _ _ _ h => h) (Or.inr ⟨by rfl, rfl⟩) (by assumption) ?_; simp only [Act.put, List.setIfInBounds_toArray, List.set_cons_zero, List.set_cons_succ])
                    first
                      | (refine AnyT.take (i := 11) (v := ?_) rfl (by kernel_rfl) (fun _ _ _ h => h) (Or.inl ⟨by rfl, ?_⟩) (by assumption) ?_; rotate_left; (· (intro V hSV; (try dsimp only at hSV); (first | (go_simp; done) | (go_simp; with_reducible rfl)))); simp only [Act.put, List.setIfInBounds_toArray, List.set_cons_zero, List.set_cons_succ])
                      | (refine AnyT.take (i := 11) (v := undef) rfl (by kernel_rfl) (fun _ _ _ h => h) (Or.inr ⟨by rfl, rfl⟩) (by assumption) ?_; simp only [Act.put, List.setIfInBounds_toArray, List.set_cons_zero, List.set_cons_succ])
                    first
                      | (refine AnyT.take (i := 12) (v := ?_) rfl (by kernel_rfl) (fun _ _ _ h => h) (Or.inl ⟨by rfl, ?_⟩) (by assumption) ?_; rotate_left; (· (intro V hSV; (try dsimp only at hSV); (first | (go_simp; done) | (go_simp; with_reducible rfl)))); simp only [Act.put, List.setIfInBounds_toArray, List.set_cons_zero, List.set_cons_succ])
                      | (refine AnyT.take (i := 12) (v := undef) rfl (by kernel_rfl) (fun _ _ _ h => h) (Or.inr ⟨by rfl, rfl⟩) (by assumption) ?_; simp only [Act.put, List.setIfInBounds_toArray, List.set_cons_zero, List.set_cons_succ])
                    first
                      | (refine AnyT.take (i := 13) (v := ?_) rfl (by kernel_rfl) (fun _ _ _ h => h) (Or.inl ⟨by rfl, ?_⟩) (by assumption) ?_; rotate_left; (· (intro V hSV; (try dsimp only at hSV); (first | (go_simp; done) | (go_simp; with_reducible rfl)))); simp only [Act.put, List.setIfInBounds_toArray, List.set_cons_zero, List.set_cons_succ])
                      | (refine AnyT.take (i := 13) (v := undef) rfl (by kernel_rfl) (fun _ _ _ h => h) (Or.inr ⟨by rfl, rfl⟩) (by assumption) ?_; simp only [Act.put, List.setIfInBounds_toArray, List.set_cons_zero, List.set_cons_succ])
                    first
                      | (refine AnyT.take (i := 14) (v := ?_) rfl (by kernel_rfl) (fun _ _ _ h => h) (Or.inl ⟨by rfl, ?_⟩) (by assumption) ?_; rotate_left; (· (intro V hSV; (try dsimp only at hSV); (first | (go_simp; done) | (go_simp; with_reducible rfl)))); simp only [Act.put, List.setIfInBounds_toArray, List.set_cons_zero, List.set_cons_succ])
                      | (refine AnyT.take (i := 14) (v := undef) rfl (by kernel_rfl) (fun _ _ _ h => h) (Or.inr ⟨by rfl, rfl⟩) (by assumption) ?_; simp only [Act.put, List.setIfInBounds_toArray, List.set_cons_zero, List.set_cons_succ])
                    first
                      | (refine AnyT.take (i := 15) (v := ?_) rfl (by kernel_rfl) (fun _ _ _ h => h) (Or.inl ⟨by rfl, ?_⟩) (by assumption) ?_; rotate_left; (· (intro V hSV; (try dsimp only at hSV); (first | (go_simp; done) | (go_simp; with_reducible rfl)))); simp only [Act.put, List.setIfInBounds_toArray, List.set_cons_zero, List.set_cons_succ])
                      | (refine AnyT.take (i := 15) (v := undef) rfl (by kernel_rfl) (fun _ _ _ h => h) (Or.inr ⟨by rfl, rfl⟩) (by assumption) ?_; simp only [Act.put, List.setIfInBounds_toArray, List.set_cons_zero, List.set_cons_succ])
                    first
                      | (refine AnyT.take (i := 16) (v := ?_) rfl (by kernel_rfl) (fun _ _ _ h => h) (Or.inl ⟨by rfl, ?_⟩) (by assumption) ?_; rotate_left; (· (intro V hSV; (try dsimp only at hSV); (first | (go_simp; done) | (go_simp; with_reducible rfl)))); simp only [Act.put, List.setIfInBounds_toArray, List.set_cons_zero, List.set_cons_succ])
                      | (refine AnyT.take (i := 16) (v := undef) rfl (by kernel_rfl) (fun _ _ _ h => h) (Or.inr ⟨by rfl, rfl⟩) (by assumption) ?_; simp only [Act.put, List.setIfInBounds_toArray, List.set_cons_zero, List.set_cons_succ])
                    first
                      | (refine AnyT.take (i := 17) (v := ?_) rfl (by kernel_rfl) (fun _ _ _ h => h) (Or.inl ⟨by rfl, ?_⟩) (by assumption) ?_; rotate_left; (· (intro V hSV; (try dsimp only at hSV); (first | (go_simp; done) | (go_simp; with_reducible rfl)))); simp only [Act.put, List.setIfInBounds_toArray, List.set_cons_zero, List.set_cons_succ])
                      | (refine AnyT.take (i := 17) (v := undef) rfl (by kernel_rfl) (fun _ _ _ h => h) (Or.inr ⟨by rfl, rfl⟩) (by assumption) ?_; simp only [Act.put, List.setIfInBounds_toArray, List.set_cons_zero, List.set_cons_succ])
                    first
                      | (refine AnyT.take (i := 18) (v := ?_) rfl (by kernel_rfl) (fun _ _ _ h => h) (Or.inl ⟨by rfl, ?_⟩) (by assumption) ?_; rotate_left; (· (intro V hSV; (try dsimp only at hSV); (first | (go_simp; done) | (go_simp; with_reducible rfl)))); simp only [Act.put, List.setIfInBounds_toArray, List.set_cons_zero, List.set_cons_succ])
                      | (refine AnyT.take (i := 18) (v := undef) rfl (by kernel_rfl) (fun _ _ _ h => h) (Or.inr ⟨by rfl, rfl⟩) (by assumption) ?_; simp only [Act.put, List.setIfInBounds_toArray, List.set_cons_zero, List.set_cons_succ])
                    first
                      | (refine AnyT.take (i := 19) (v := ?_) rfl (by kernel_rfl) (fun _ _ _ h => h) (Or.inl ⟨by rfl, ?_⟩) (by assumption) ?_; rotate_left; (· (intro V hSV; (try dsimp only at hSV); (first | (go_simp; done) | (go_simp; with_reducible rfl)))); simp only [Act.put, List.setIfInBounds_toArray, List.set_cons_zero, List.set_cons_succ])
                      | (refine AnyT.take (i := 19) (v := undef) rfl (by kernel_rfl) (fun _ _ _ h => h) (Or.inr ⟨by rfl, rfl⟩) (by assumption) ?_; simp only [Act.put, List.setIfInBounds_toArray, List.set_cons_zero, List.set_cons_succ])
                    first
                      | (refine AnyT.take (i := 20) (v := ?_) rfl (by kernel_rfl) (fun _ _ _ h => h) (Or.inl ⟨by rfl, ?_⟩) (by assumption) ?_; rotate_left; (· (intro V hSV; (try dsimp only at hSV); (first | (go_simp; done) | (go_simp; with_reducible rfl)))); simp only [Act.put, List.setIfInBounds_toArray, List.set_cons_zero, List.set_cons_succ])
                      | (refine AnyT.take (i := 20) (v := undef) rfl (by kernel_rfl) (fun _ _ _ h => h) (Or.inr ⟨by rfl, rfl⟩) (by assumption) ?_; simp only [Act.put, List.setIfInBounds_toArray, List.set_cons_zero, List.set_cons_succ])
                    first
                      | (refine AnyT.take (i := 21) (v := ?_) rfl (by kernel_rfl) (fun _ _ _ h => h) (Or.inl ⟨by rfl, ?_⟩) (by assumption) ?_; rotate_left; (· (intro V hSV; (try dsimp only at hSV); (first | (go_simp; done) | (go_simp; with_reducible rfl)))); simp only [Act.put, List.setIfInBounds_toArray, List.set_cons_zero, List.set_cons_succ])
                      | (refine AnyT.take (i := 21) (v := undef) rfl (by kernel_rfl) (fun _ _ _ h => h) (Or.inr ⟨by rfl, rfl⟩) (by assumption) ?_; simp only [Act.put, List.setIfInBounds_toArray, List.set_cons_zero, List.set_cons_succ])
                    first
                      | (refine AnyT.take (i := 22) (v := ?_) rfl (by kernel_rfl) (fun _ _ _ h => h) (Or.inl ⟨by rfl, ?_⟩) (by assumption) ?_; rotate_left; (· (intro V hSV; (try dsimp only at hSV); (first | (go_simp; done) | (go_simp; with_reducible rfl)))); simp only [Act.put, List.setIfInBounds_toArray, List.set_cons_zero, List.set_cons_succ])
                      | (refine AnyT.take (i := 22) (v := undef) rfl (by kernel_rfl) (fun _ _ _ h => h) (Or.inr ⟨by rfl, rfl⟩) (by assumption) ?_; simp only [Act.put, List.setIfInBounds_toArray, List.set_cons_zero, List.set_cons_succ])
                    first
                      | (refine AnyT.take (i := 23) (v := ?_) rfl (by kernel_rfl) (fun _ _ _ h => h) (Or.inl ⟨by rfl, ?_⟩) (by assumption) ?_; rotate_left; (· (intro V hSV; (try dsimp only at hSV); (first | (go_simp; done) | (go_simp; with_reducible rfl)))); simp only [Act.put, List.setIfInBounds_toArray, List.set_cons_zero, List.set_cons_succ])
                      | (refine AnyT.take (i := 23) (v := undef) rfl (by kernel_rfl) (fun _ _ _ h => h) (Or.inr ⟨by rfl, rfl⟩) (by assumption) ?_; simp only [Act.put, List.setIfInBounds_toArray, List.set_cons_zero, List.set_cons_succ])
                    first
                      | (refine AnyT.take (i := 24) (v := ?_) rfl (by kernel_rfl) (fun _ _ _ h => h) (Or.inl ⟨by rfl, ?_⟩) (by assumption) ?_; rotate_left; (· (intro V hSV; (try dsimp only at hSV); (first | (go_simp; done) | (go_simp; with_reducible rfl)))); simp only [Act.put, List.setIfInBounds_toArray, List.set_cons_zero, List.set_cons_succ])
                      | (refine AnyT.take (i := 24) (v := undef) rfl (by kernel_rfl) (fun _ _ _ h => h) (Or.inr ⟨by rfl, rfl⟩) (by assumption) ?_; simp only [Act.put, List.setIfInBounds_toArray, List.set_cons_zero, List.set_cons_succ])
                    first
                      | (refine AnyT.take (i := 25) (v := ?_) rfl (by kernel_rfl) (fun _ _ _ h => h) (Or.inl ⟨by rfl, ?_⟩) (by assumption) ?_; rotate_left; (· (intro V hSV; (try dsimp only at hSV); (first | (go_simp; done) | (go_simp; with_reducible rfl)))); simp only [Act.put, List.setIfInBounds_toArray, List.set_cons_zero, List.set_cons_succ])
                      | (refine AnyT.take (i := 25) (v := undef) rfl (by kernel_rfl) (fun _ _ _ h => h) (Or.inr ⟨by rfl, rfl⟩) (by assumption) ?_; simp only [Act.put, List.setIfInBounds_toArray, List.set_cons_zero, List.set_cons_succ])
                    first
                      | (refine AnyT.take (i := 26) (v := ?_) rfl (by kernel_rfl) (fun _ _ _ h => h) (Or.inl ⟨by rfl, ?_⟩) (by assumption) ?_; rotate_left; (· (intro V hSV; (try dsimp only at hSV); (first | (go_simp; done) | (go_simp; with_reducible rfl)))); simp only [Act.put, List.setIfInBounds_toArray, List.set_cons_zero, List.set_cons_succ])
                      | (refine AnyT.take (i := 26) (v := undef) rfl (by kernel_rfl) (fun _ _ _ h => h) (Or.inr ⟨by rfl, rfl⟩) (by assumption) ?_; simp only [Act.put, List.setIfInBounds_toArray, List.set_cons_zero, List.set_cons_succ])
                    first
                      | (refine AnyT.take (i := 27) (v := ?_) rfl (by kernel_rfl) (fun _ _ _ h => h) (Or.inl ⟨by rfl, ?_⟩) (by assumption) ?_; rotate_left; (· (intro V hSV; (try dsimp only at hSV); (first | (go_simp; done) | (go_simp; with_reducible rfl)))); simp only [Act.put, List.setIfInBounds_toArray, List.set_cons_zero, List.set_cons_succ])
                      | (refine AnyT.take (i := 27) (v := undef) rfl (by kernel_rfl) (fun _ _ _ h => h) (Or.inr ⟨by rfl, rfl⟩) (by assumption) ?_; simp only [Act.put, List.setIfInBounds_toArray, List.set_cons_zero, List.set_cons_succ])
                    first
                      | (refine AnyT.take (i := 28) (v := ?_) rfl (by kernel_rfl) (fun _ _ _ h => h) (Or.inl ⟨by rfl, ?_⟩) (by assumption) ?_; rotate_left; (· (intro V hSV; (try dsimp only at hSV); (first | (go_simp; done) | (go_simp; with_reducible rfl)))); simp only [Act.put, List.setIfInBounds_toArray, List.set_cons_zero, List.set_cons_succ])
                      | (refine AnyT.take (i := 28) (v := undef) rfl (by kernel_rfl) (fun _ _ _ h => h) (Or.inr ⟨by rfl, rfl⟩) (by assumption) ?_; simp only [Act.put, List.setIfInBounds_toArray, List.set_cons_zero, List.set_cons_succ])
                    first
                      | (refine AnyT.take (i := 29) (v := ?_) rfl (by kernel_rfl) (fun _ _ _ h => h) (Or.inl ⟨by rfl, ?_⟩) (by assumption) ?_; rotate_left; (· (intro V hSV; (try dsimp only at hSV); (first | (go_simp; done) | (go_simp; with_reducible rfl)))); simp only [Act.put, List.setIfInBounds_toArray, List.set_cons_zero, List.set_cons_succ])
                      | (refine AnyT.take (i := 29) (v := undef) rfl (by kernel_rfl) (fun _ _ _ h => h) (Or.inr ⟨by rfl, rfl⟩) (by assumption) ?_; simp only [Act.put, List.setIfInBounds_toArray, List.set_cons_zero, List.set_cons_succ])
                    refine AnyT.ready (rs := [30]) (by kernel_rfl) (by simp) (ReadyT.cons rfl (fun K hK => ?_) ReadyT.nil)
                    go_simp
                    refine (al.out _ (G4.out.lone.keeps.drew)).mono ?_
                    rintro e w5 ⟨rfl, hK5⟩
                    have K5 := Lib.hid (G4.out.lone.keeps.drew.trans hK5 fun _ _ => False.elim)
                    clear hK5
                    go_wp2_with fail
                    have hHeld := True.intro
                    refine hK.out _ _ (fun _ => hHeld) (fun _ => ?_)
                    clear hK K
                    try simp only [Act.put, List.setIfInBounds_toArray, List.set_cons_zero, List.set_cons_succ]
                    first
                      | (refine AnyT.take (i := 31) (v := ?_) rfl (by kernel_rfl) (fun _ _ _ h => h) (Or.inl ⟨by rfl, ?_⟩) (by assumption) ?_; rotate_left; (· (intro V hSV; (try dsimp only at hSV); (first | (go_simp; done) | (go_simp; with_reducible rfl)))); simp only [Act.put, List.setIfInBounds_toArray, List.set_cons_zero, List.set_cons_succ])
                      | (refine AnyT.take (i := 31) (v := undef) rfl (by kernel_rfl) (fun _ _ _ h => h) (Or.inr ⟨by rfl, rfl⟩) (by assumption) ?_; simp only [Act.put, List.setIfInBounds_toArray, List.set_cons_zero, List.set_cons_succ])
                    refine AnyT.ready (rs := [32]) (by kernel_rfl) (by simp) (ReadyT.cons rfl (fun K hK => ?_) ReadyT.nil)
                    go_simp
                    refine hK.out _ _ (fun h => absurd h (by simp)) (fun _ => ?_)
                    clear hK K
                    try simp only [Act.put, List.setIfInBounds_toArray, List.set_cons_zero, List.set_cons_succ]
                    refine AnyT.done (by kernel_rfl) ?_ _
                    go_wp2_with fail
                    go_ret
                    exact ⟨rfl, K5.out.below (Nat.le_refl _) fun _ _ => id⟩
                  · have hDp : 0 < D.length := List.length_pos_iff.2 hD0
                    have hRp : 0 < R.length := List.length_pos_iff.2 hR0
                    obtain ⟨p, hpm⟩ : ∃ p, p + 1 = D.length := ⟨D.length - 1, by omega⟩
                    obtain ⟨gv, rfl⟩ : ∃ gv, vo = some ⟨gv, 0, none⟩ := by
                      obtain ⟨g, c, e⟩ := TRow.form G4.out.own.1 (by omega)
                      simp only [Value.slice.injEq] at e
                      exact ⟨g, e.1⟩
                    obtain ⟨b, off, rfl, z0, z1⟩ := U4.out.at_ 0 hRp
                    have y0 := TRow.when G4.out.own.1 p (by omega)
                    have y1 := TRow.id G4.out.own.1 p (by omega)
                    have ra := Lib.hid (ref_ahead (at_ D p) (at_ R 0) true (UDR.out _ (at_mem (by omega)) _ (at_mem hRp)))
                    generalize at_ D p = y at y0 y1 ra
                    generalize at_ R 0 = z' at z0 z1 ra
                    rw [Nat.zero_mul, Nat.add_zero] at z0 z1
                    have S0 := Lib.hid (fun V (K : Keeps (fun _ => False) w4 V) => (⟨(K.cell (p := ⟨gv, p * 2, none⟩) (cell_lt y0) id).trans y0, (K.cell (p := ⟨gv, p * 2 + 1, none⟩) (cell_lt y1) id).trans y1, (K.cell (p := ⟨b, off, none⟩) (cell_lt z0) id).trans z0, (K.cell (p := ⟨b, off + 1, none⟩) (cell_lt z1) id).trans z1⟩ : V.cell? ⟨gv, p * 2, none⟩ = some (.int .i64 y.1) ∧ V.cell? ⟨gv, p * 2 + 1, none⟩ = some (.int .i64 y.2) ∧ V.cell? ⟨b, off, none⟩ = some (.int .i64 z'.1) ∧ V.cell? ⟨b, off + 1, none⟩ = some (.int .i64 z'.2)))
                    clear y0 y1 z0 z1
                    have s0 := Lib.hid (S0.out w4.drew (Keeps.refl _ _).drew)
                    have e1 : IntKind.i64.wrap ((D.length : Int) - 1) = (p : Int) := by rw [IntWalk.i64_in _ (by omega)]; omega
                    have p0 : (0 : Int) ≤ (p : Int) := by omega
                    have pD : (p : Int) < (D.length : Int) := by omega
                    have pD' : p < D.length := by omega
                    have R1 : (0 : Int) < (R.length : Int) := by omega
                    have hb1 : ((D.length : Int) == 0) = false := by simp; exact hD0
                    have hb2 : ((R.length : Int) == 0) = false := by simp; exact hR0
                    have hb3 : ¬ (D.length : Int) = 0 := by omega
                    have hb4 : ¬ (R.length : Int) = 0 := by omega
                    have hpm := Lib.hid hpm
                    go_wp2_with fail
                    go_region_held3 (fun V => V.cell? ⟨gv, p * 2, none⟩ = some (.int .i64 y.1) ∧ V.cell? ⟨gv, p * 2 + 1, none⟩ = some (.int .i64 y.2) ∧ V.cell? ⟨b, off, none⟩ = some (.int .i64 z'.1) ∧ V.cell? ⟨b, off + 1, none⟩ = some (.int .i64 z'.2)) (first | exact s0.out | exact s5.out | exact s6.out) (first | (go_at_call 19; refine (ra.out _).mono ?_; rintro e w5 ⟨rfl, hK⟩; have k5 := Lib.hid ((Keeps.refl (fun _ => False) w4).drew.trans hK fun _ _ => False.elim); have s5 := Lib.hid (S0.out _ k5.out); clear hK) | (go_at_call 10; refine (al.out _ (G4.out.lone.keeps.trans k5.out fun _ _ => False.elim)).mono ?_; rintro e w6 ⟨rfl, hK⟩; have s6 := Lib.hid (S0.out _ (k5.out.trans hK fun _ _ => False.elim)); have K6 := Lib.hid ((G4.out.lone.keeps.trans k5.out fun _ _ => False.elim).trans hK fun _ _ => False.elim); clear hK))
                    go_wp2_with fail
                    go_ret
                    exact ⟨rfl, K6.out.below (Nat.le_refl _) fun _ _ => id⟩

theorem queueRises_et : Tryd.prog.globalNamed "errors.errorType" = some 0 := by kernel_rfl
theorem queueRises_rt : (Tryd.prog.cutTypes.find? (·.1 == "internal/reflectlite.rtype")).map (·.2) = some 113 := by kernel_rfl
theorem queueRises_oneRow : ((List.range 176).filter fun t => Tryd.prog.rowNamed t [101, 114, 114, 111, 114]) = [44] := by kernel_rfl
theorem queueRises_size : Tryd.prog.types.size = 176 := by kernel_rfl

/-- What the listed variable gives the walk. -/
theorem queueRises_glob {W : World} (h : laidMetH Tryd.prog Rows.queueRisesRow.laid W) : Glob W := by
  have h' : laidMet Tryd.prog [] W ∧ handlesMet Tryd.prog Rows.queueRisesRow.laid W := h
  obtain ⟨name, u, ty, e1, e2, e3, e4, e5⟩ := h'.2 _ (List.mem_singleton.2 rfl)
  have en : name = [101, 114, 114, 111, 114] := (Option.some.inj e1).symm
  subst en
  obtain rfl := Option.some.inj (queueRises_rt.symm.trans e2)
  have hm : ty ∈ (List.range 176).filter fun t => Tryd.prog.rowNamed t [101, 114, 114, 111, 114] := List.mem_filter.2 ⟨List.mem_range.2 (by rw [← queueRises_size]; exact e3), e4⟩
  rw [queueRises_oneRow] at hm
  obtain rfl := List.mem_singleton.1 hm
  have hh : typeHandle Tryd.prog 44 = .pointer (some ⟨1, 44, none⟩) := by kernel_rfl
  rw [hh] at e5
  unfold Glob
  simpa using World.var?_cell queueRises_et e5 0

/-- A world that meets the condition: the settled one, the variable's cell laid. -/
noncomputable def queueRises_laidWorld (os : Os) : World :=
  let w0 := World.holding Tryd.prog os ⟨#[], #[], []⟩
  { w0 with heap := w0.heap.modify 0 fun
      | .cells _ t frozen => .cells #[.iface 113 (.agg #[.pointer (some ⟨1, 44, none⟩)])] t frozen
      | o => o }
theorem queueRises_met (os : Os) (args : Array Value) : laidMetH Tryd.prog Rows.queueRisesRow.laid ((queueRises_laidWorld os).forCall (fun _ _ => 0) ⟨#[], args, []⟩).memory :=
  laidMetH_of_parts (laidMet_nil _ _) (by kernel_rfl)

theorem queueRises_own : ownKnob Tryd.prog.godebug = none := by kernel_rfl
theorem queueRises_laidOut : laidOutB Tryd.prog = true := by kernel_rfl

set_option maxRecDepth 100000 in
theorem queueRises_lifted (os : Os) (started : os.Started) (H : Type) (enc : TypeId × Value → H) :
    ReturnsInHanded {} Tryd.checked os 4 .any (fun w args => (Rows.queueRisesSpec.pre enc Tryd.prog Tryd.f4 [] false w args ∧ laidMetH Tryd.prog Rows.queueRisesRow.laid w) ∧ sizedMet enc Tryd.prog Tryd.f4 (OpenSpec.ofChange Rows.queueRisesSpec) false w args)
      (Rows.queueRisesSpec.post enc Tryd.prog Tryd.f4 false true false false) := by
  refine returnsInHanded_of_change_and (C := Tryd.checked) (X := fun w _ => laidMetH Tryd.prog Rows.queueRisesRow.laid w) (fun _ _ _ hh h => h.of_heap hh) queueRises_own started (by kernel_rfl) Tryd.func4
    (ChangeSpec.witness_at (enc := enc) (C := Tryd.checked) (os := os) (X := fun w _ => laidMetH Tryd.prog Rows.queueRisesRow.laid w) false (queueRises_laidWorld os) #[.slice none 0 0, .slice none 0 0] 8 rfl (by kernel_rfl) (by kernel_rfl) (by kernel_rfl) (by kernel_rfl) (by kernel_rfl) (queueRises_met os _)) ?_
  intro W base args ds gs before hval0 hW hcnd _ hL _
  have hGl := queueRises_glob hL
  clear hcnd
  have hval : ∀ (j : Nat) t v, Tryd.f4.params[j]? = some t → args[j]? = some v → Value.okWide Tryd.prog W .any base t v := hval0
  have hW' := hW
  obtain ⟨p, q, hA0, hV, rfl, hfz, hnd⟩ := hW
  have hA : DataW.TrodAll enc Tryd.prog W 0 (fun _ => true) true Tryd.f4.params.toList args.toList ds p := hA0
  rw [Tryd.params4] at hA hval
  obtain ⟨v0, vs0, d0, ds0, p0, q0, hargs, rfl, rfl, h0, r0⟩ := trodAll_cons hA
  obtain ⟨v1, vs1, d1, ds1, p1, q1, rfl, rfl, rfl, h1, r1⟩ := trodAll_cons r0
  obtain ⟨rfl, rfl, rfl⟩ := trodAll_nil r1
  obtain rfl : args = #[v0, v1] := by cases args; simp_all
  obtain ⟨rfl, rfl⟩ := trodVars_none hV
  have k0 := h0
  have lt0 : ∀ x ∈ p0, x.block < W.heap.size := by obtain ⟨m, hm⟩ := k0; exact DataW.trod_lt m _ _ _ hm
  obtain ⟨a0, len0, cap0, rfl⟩ := okWide_slice Tryd.underlying27 (hval 0 27 v0 rfl rfl)
  have w0 : Tms W a0 len0 cap0 := by
    obtain ⟨fuel, hf⟩ := h0
    rcases open_slice_fields Tryd.underlying27 Tryd.underlying31 (by kernel_rfl) (by kernel_rfl) hf with ⟨hcs, _⟩ | ⟨x, l, c, m, D, Pl, hcs, _, hl, hm, hmm, _, hi⟩
    · simp [Value.cells] at hcs
      obtain ⟨rfl, rfl, rfl⟩ := hcs
      exact .inl ⟨rfl, rfl, rfl⟩
    · simp [Value.cells] at hcs
      obtain ⟨rfl, rfl, rfl⟩ := hcs
      refine .inr ⟨_, rfl, hl, hm, fun i hlt => ?_⟩
      obtain ⟨ys, n, _, _, _, hf⟩ := hi i (by rw [hmm]; split <;> omega)
      obtain ⟨u0, y0, c0, _, t0⟩ := hf 0 _ rfl
      obtain ⟨z0, e0, _, f0⟩ := DataW.trod_int (k := .i64) (by kernel_rfl) t0
      simp at e0
      subst e0
      obtain ⟨u1, y1, c1, _, t1⟩ := hf 1 _ rfl
      obtain ⟨z1, e1, _, f1⟩ := DataW.trod_int (k := .i64) (by kernel_rfl) t1
      simp at e1
      subst e1
      exact ⟨z0, z1, c0, c1, f0, f1⟩
  have k1 := h1
  have lt1 : ∀ x ∈ p1, x.block < W.heap.size := by obtain ⟨m, hm⟩ := k1; exact DataW.trod_lt m _ _ _ hm
  obtain ⟨a1, len1, cap1, rfl⟩ := okWide_slice Tryd.underlying41 (hval 1 41 v1 rfl rfl)
  have w1 : Nums W a1 len1 := by
    obtain ⟨fuel, hf⟩ := h1
    rcases open_ints Tryd.underlying41 Tryd.underlying3 (by kernel_rfl) hf with ⟨hcs, _⟩ | ⟨x, l, c, zs, hcs, _, hl, hm, hzl, _, hi, hwf⟩
    · simp [Value.cells] at hcs
      obtain ⟨rfl, rfl, rfl⟩ := hcs
      exact .inl ⟨rfl, rfl⟩
    · have hz : zs.length = c := by simpa using hzl
      simp [Value.cells] at hcs
      obtain ⟨rfl, rfl, rfl⟩ := hcs
      refine .inr ⟨_, rfl, Nat.le_trans hl hm, fun i hlt => ⟨_, hi i (by omega), _, rfl, hwf _ ?_⟩⟩
      have hiz : i < zs.length := by omega
      rw [show zs.getD i 0 = zs[i] by simp [List.getD, hiz]]
      exact List.getElem_mem hiz
  clear hA0 hval0
  refine (queueRises_walk a0 len0 cap0 a1 len1 cap1 W w0 w1 hGl).mono fun e W' ⟨he, bel⟩ => ?_
  subst he
  exact ⟨_, rfl, _, _, _, [], _, [], hW', trodAll_mk1 (shut_bool Tryd.underlying4 _), (trodAll_cons_mk (Below.trod queueRises_laidOut (by kernel_rfl) (of_decide_eq_true (by kernel_rfl)) k0 bel lt0) (trodAll_cons_mk (Below.trod queueRises_laidOut (by kernel_rfl) (of_decide_eq_true (by kernel_rfl)) k1 bel lt1) trodAll_mk0)), rfl, bel.frame _, fun h => by cases h⟩

/-- The statement QueueRises. -/
theorem queueRises_holds : Rows.QueueRisesSaid :=
  OpenClaim.holds_of_wide 4 Tryd.f4 rfl rfl rfl rfl rfl rfl rfl ⟨rfl, rfl, rfl, rfl, rfl⟩ rfl rfl rfl rfl rfl (by kernel_rfl) Tryd.func4 (by kernel_rfl)
    (of_decide_eq_true (by kernel_rfl)) (by unfold Func.isWrapper; first | (rw [if_pos (by decide +kernel)]; kernel_rfl) | (rw [if_neg (by decide +kernel)]; exact ⟨rfl, rfl⟩))
    (fun os started H enc _ => queueRises_lifted os started H enc)
#print axioms queueRises_holds

/-- The card: the row, what it lists tied to the program's text. -/
theorem queueRises_card : Rows.QueueRisesCardSaid :=
  Claim7.holds_tied_plain_at .later [] [.handle] true Rows.queueRisesCard.stood.harness true
    queueRises_holds (fun _ h => by cases h) (by kernel_rfl) (fun _ h => by cases h) queueRises_row_tie rfl ⟨rfl, rfl⟩ (by kernel_rfl) rfl
    (fun f fn hf hfn => by
      obtain rfl : f = 4 := Option.some.inj ((show Tryd.prog.funcNamed "concord/concordlaw04.QueueRises" = some 4 by kernel_rfl).symm.trans hf) |>.symm
      obtain rfl : fn = Tryd.f4 := (Option.some.inj (Tryd.func4.symm.trans hfn)).symm
      exact ⟨by kernel_rfl, fun j t ht => by
        rw [Tryd.params4] at ht
        have hm : t ∈ Tryd.f4.params.toList := by rw [Tryd.params4]; simpa using Array.mem_of_getElem? ht
        have hall : (Tryd.f4.params.toList.all fun u => !Tryd.prog.wantsStandIn u) = true := by kernel_rfl
        exact (show Tryd.prog.wantsStandIn t = false by simpa using List.all_eq_true.1 hall t hm)⟩)
    (by kernel_rfl)
#print axioms queueRises_card

end Go.Proofs.YtjmkfloaagppdaaDoor
