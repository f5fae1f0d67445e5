/-
  queue: Due by contract: what is due, in order, in a new slice; it is gone.
-/
import Derived.Test.YtjmkfloaagppdaaDoorQuMove
namespace Go.Proofs.YtjmkfloaagppdaaDoor
open Go.RowKit Go.Extern.Stop Go.Stop Go.Extern

/-- A slice of timers of one's own, made behind B blocks. -/
def Own (w : World) (v : Value) (l : List Tm) (B : Nat) : Prop := TRow w v l ∧ ∀ g, v.ownBlock = some g → B ≤ g

theorem Own.none (w : World) (B : Nat) : Own w (.slice .none 0 0) [] B := ⟨⟨rfl, .inl ⟨rfl, rfl⟩⟩, fun g hg => by simp [Value.ownBlock] at hg⟩
theorem Own.keeps {w w' : World} {v : Value} {l : List Tm} {B : Nat} {S : Nat → Prop} (h : Own w v l B) (k : Keeps S w w') (hS : ∀ x, B ≤ x → ¬ S x) : Own w' v l B := ⟨ownsRow_keeps h.1 k fun g hg => hS g (h.2 g hg), h.2⟩
theorem Own.same {w w' : World} {v : Value} {l : List Tm} {B : Nat} (h : Own w v l B) (k : Keeps (fun _ => False) w w') : Own w' v l B := h.keeps k fun _ _ => id
theorem Own.less {w : World} {v : Value} {l : List Tm} {B C : Nat} (h : Own w v l B) (hC : C ≤ B) : Own w v l C := ⟨h.1, fun g hg => Nat.le_trans hC (h.2 g hg)⟩
/-- Behind an append. -/
theorem Own.more {w w' : World} {v v' : Value} {l l' : List Tm} {B : Nat} (h : Own w v l B) (hB : B ≤ w.heap.size) (hO : TRow w' v' l') (hG : w.grownBy w' v.ownBlock) (hl : v'.ownBlock = v.ownBlock ∨ v'.ownBlock = some w.heap.size) : Own w' v' l' B ∧ Keeps (fun x => B ≤ x) w w' := by
  refine ⟨⟨hO, fun g hg => ?_⟩, (Keeps.refl _ w).grown hG fun k hk _ => h.2 k hk⟩
  rcases hl with e | e
  · exact h.2 g (by rw [← e]; exact hg)
  · rw [e] at hg
    injection hg with hg
    omega

def lenOf : Value → Nat
  | .slice _ n _ => n
  | _ => 0

theorem qpop {w : World} {q : Nat} {u : Tm} {L : List Tm} {X : Nat → Prop} (h : Qu w q (u :: L) X) :
    Calls Tryd.prog 34 #[lineI q] w fun e w' => e = .returned (.iface 31 (tmVal u)) ∧ Qu w' q L X ∧ Keeps X w w' := by
  obtain ⟨l, hp, hperm, hU⟩ := h
  have hu := Heap.head hp.2 hperm hU rfl
  have h0 : 0 < l.length := by rw [hperm.length_eq]; simp
  refine (heap_pop hp h0).mono ?_
  rintro e w' ⟨rfl, ⟨l', hH, hpm⟩, hK⟩
  rw [hu] at hpm ⊢
  exact ⟨rfl, ⟨l', hH, (List.perm_cons u).1 (hpm.trans hperm), (List.pairwise_cons.1 hU).2⟩, hK⟩

/-- Where Due is. -/
structure Dues (w wr : World) (q : Nat) (now : Int) (v : Value) (d r L : List Tm) (X : Nat → Prop) : Prop where
  own : Own wr v d w.heap.size
  all : d ++ r = L
  le : ∀ u ∈ d, u.1 ≤ now
  qu : Qu wr q r X
  keeps : Keeps X w wr

/-- What Due leaves. -/
def DueDone (w : World) (q : Nat) (now : Int) (L : List Tm) (X : Nat → Prop) (e : Ending) (w' : World) : Prop :=
  ∃ v, e = .returned v ∧ Own w' v (due now L) w.heap.size ∧ Qu w' q (undue now L) X ∧ Keeps X w w'

theorem Dues.done {w wr : World} {q : Nat} {now : Int} {v : Value} {d r L : List Tm} {X : Nat → Prop} (h : Dues w wr q now v d r L X) (hr : ∀ u r', r = u :: r' → now < u.1) {w' : World} (k : Keeps (fun _ => False) wr w') : DueDone w q now L X (.returned v) w' := by
  obtain ⟨e1, e2⟩ := due_eq h.le hr
  rw [h.all] at e1 e2
  exact ⟨v, rfl, by rw [e1]; exact h.own.same k, by rw [e2]; exact h.qu.same k, h.keeps.trans k fun _ _ => False.elim⟩

set_option maxRecDepth 100000 in
set_option maxHeartbeats 1000000 in
theorem due_any {w : World} {q : Nat} {L : List Tm} {X : Nat → Prop} (h : Qu w q L X) (now : Int) :
    Calls Tryd.prog 18 #[.pointer (some ⟨q, 0, none⟩), .int .i64 now] w fun e w' => DueDone w q now L X e w' := by
  have hA := assert_timer
  have few := h.few
  have g0 := Lib.hid (show Dues w w q now (.slice none 0 0) [] L L X from ⟨Own.none w _, rfl, by simp, h, Keeps.refl _ _⟩)
  have old := Lib.hid h.old
  clear h
  go_enter Tryd.func18, Tryd.ntmps18
  go_wp2_with fail
  go_loopw [5] (fun v wr => ∃ (d r : List Tm), Dues w wr q now v d r L X) (fun v _ => 201 - lenOf v)
  case atStart => exact ⟨[], L, g0.out⟩
  case round =>
    clear g0
    obtain ⟨d, r, hD⟩ := hrel
    have D1 := Lib.hid hD
    obtain ⟨o, c, hv, _⟩ := TRow.shape hD.own.1
    have hln : d.length + r.length = L.length := by rw [← hD.all, List.length_append]
    subst hv
    clear hD
    cases r with
    | nil =>
      have cN := Lib.hid (next_none D1.out.qu)
      unfold tmVal at cN
      go_wp2_with (first | (go_at_call 12; refine cN.out.mono ?_; rintro e w2 ⟨rfl, hK⟩; have K2 := Lib.hid hK; clear hK))
      go_ret
      exact D1.out.done (fun u r' e => by cases e) (K2.out.alloc _)
    | cons u r' =>
      have cN := Lib.hid (next_some D1.out.qu)
      by_cases hlt : now < u.1
      · have dn := Lib.hid (fun w' => D1.out.done (fun u' r'' e => by injection e with e1 e2; subst e1; exact hlt) (w' := w'))
        unfold tmVal at cN
        go_wp2_with (first | (go_at_call 12; refine cN.out.mono ?_; rintro e w2 ⟨rfl, hK⟩; have K2 := Lib.hid hK; clear hK))
        go_ret
        exact dn.out _ (K2.out.alloc _)
      · have hX : ∀ x, w.heap.size ≤ x → ¬ X x := fun x hx h => by have := old.out x h; omega
        have cP := Lib.hid (fun (W : World) (k : Keeps (fun _ => False) wr W) => qpop (D1.out.qu.same k))
        have go := Lib.hid (fun (W V : World) (k : Keeps (fun _ => False) wr W) (hQ : Qu V q r' X) (hK : Keeps X W V) => (⟨D1.out.own.keeps ((k.mono fun _ _ => False.elim : Keeps X wr W).trans_ hK) hX, hQ, (D1.out.keeps.trans k fun _ _ => False.elim).trans_ hK, by rw [List.append_assoc]; exact D1.out.all, fun y hy => by rcases List.mem_append.1 hy with hy | hy; exact D1.out.le y hy; rw [List.mem_singleton.1 hy]; omega⟩ : Own V (.slice o d.length c) d w.heap.size ∧ Qu V q r' X ∧ Keeps X w V ∧ (d ++ [u]) ++ r' = L ∧ ∀ y ∈ d ++ [u], y.1 ≤ now))
        simp only [List.length_cons] at hln
        unfold tmVal at cN cP
        go_wp2_with (first
          | (go_at_call 12; refine cN.out.mono ?_; rintro e w2 ⟨rfl, hK⟩; have K2 := Lib.hid hK; clear hK)
          | (go_at_call 34; refine (cP.out _ (K2.out.alloc _)).mono ?_; rintro e w3 ⟨rfl, hQ, hK⟩; have G3 := Lib.hid (go.out _ _ (K2.out.alloc _) hQ hK); clear hQ hK)
          | (at_builtin; refine wpList_append_tms _ rfl _ _ rfl (.slice o d.length c) d [u] rfl ((G3.out.1.same (((Keeps.refl _ _).alloc _).alloc _)).1) ⟨w3.heap.size + 1, 0, none⟩ 1 _ rfl rfl (one_timer (by have := Whole.made (w3.alloc (.cells #[.int .i64 u.1, .int .i64 u.2] 31)) 31 #[.int .i64 u.1, .int .i64 u.2]; rw [World.size_alloc] at this; exact this)) (d.length + 1) rfl (by omega) ?_; intro ao cap V hO hG hl; have O4 := Lib.hid hO; have H4 := Lib.hid hG; have l4 := Lib.hid hl; clear hO hG hl))
        have k2 : Keeps (fun _ => False) w3 ((w3.alloc (.cells #[.int .i64 u.1, .int .i64 u.2] 31)).alloc (.cells #[.int .i64 u.1, .int .i64 u.2] 31)) := ((Keeps.refl _ _).alloc _).alloc _
        obtain ⟨G1, G2, G3', G4, G5⟩ := G3.out
        obtain ⟨o5, k5⟩ := (G1.same k2).more (Nat.le_trans G3'.size k2.size) O4.out H4.out l4.out
        refine ⟨⟨d ++ [u], r', ⟨o5, G4, G5, (G2.same k2).keeps k5 fun x hx hB => hX x hB hx, (G3'.trans k2 fun _ _ => False.elim).trans k5 fun x hx hB => absurd hx (by omega)⟩⟩, ?_⟩
        simp only [lenOf]
        omega
end Go.Proofs.YtjmkfloaagppdaaDoor
