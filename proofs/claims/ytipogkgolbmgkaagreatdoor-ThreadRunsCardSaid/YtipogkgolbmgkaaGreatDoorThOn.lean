/-
  blocks.New and concordlaw02.On by contract, the arena under its name; a new arena's blocks as a plain state.
-/
import Derived.Test.YtipogkgolbmgkaaGreatDoorThLog
namespace Go.Proofs.YtipogkgolbmgkaaGreatDoor
open Go.RowKit Go.Extern.Stop Go.Stop Go.Extern

/-- What New leaves: blocks on the arena, none yet. -/
def OpenedAt (w : World) (a bw : Nat) (ws : List Int) (cnt from_ : Nat) (e : Ending) (w' : World) : Prop :=
  ∃ b X, e = .returned (.tuple #[.pointer (some ⟨b, 0, none⟩), .nilIface]) ∧ BkAt w' b a ws cnt (St.start from_) X ∧ (∀ x, X x → x = a ∨ x = bw ∨ w.heap.size ≤ x) ∧ Keeps (fun _ => False) w w'

theorem bnew_at (a bw : Nat) (ws : List Int) (cnt from_ : Nat) (hf : from_ ≤ ws.length) (w : World) (h : Arena w a bw ws cnt) :
    Calls Tryz.prog 20 #[.pointer (some ⟨a, 0, none⟩), .int .i64 from_] w fun e w' => OpenedAt w a bw ws cnt from_ e w' := by
  have hmm := @run_makeMap Tryz.prog
  have cl := alen_there a bw ws cnt
  have h3 := h.2.2.1
  have h4 := h.2.2.2
  have t0 : ((ws.length : Int) == 0) = false := by rw [beq_eq_false_iff_ne]; omega
  have t1 : ¬ (from_ : Int) < 0 := by omega
  have t2 : ¬ (ws.length : Int) < from_ := by omega
  have h' := Lib.hid h
  have hf' := Lib.hid hf
  generalize ws.length = L at cl t0 t2 h3 h4
  clear h hf
  go_enter Tryz.func20, Tryz.ntmps20
  go_wp2_with (first
    | (go_at_call 37; refine (cl _ h'.out).mono ?_; rintro e w' ⟨rfl, rfl⟩))
  go_ret2
  have m1 := HoldsM.made Tryz.prog 3 bvE w
  have m2 := holds_two Tryz.prog 3 rowE w (.map #[] 0)
  have kk := (((Keeps.refl (fun _ => False) w).alloc (.map #[] 0)).alloc (.map #[] 0)).alloc (.cells #[.pointer (some ⟨a, 0, none⟩), .map (some w.heap.size), .map (some (w.heap.size + 1)), .int .i64 from_] 84)
  have k2 := ((Keeps.refl (fun _ => False) (w.alloc (.map #[] 0))).alloc (.map #[] 0)).alloc (.cells #[.pointer (some ⟨a, 0, none⟩), .map (some w.heap.size), .map (some (w.heap.size + 1)), .int .i64 from_] 84)
  have k3 := (Keeps.refl (fun _ => False) ((w.alloc (.map #[] 0)).alloc (.map #[] 0))).alloc (.cells #[.pointer (some ⟨a, 0, none⟩), .map (some w.heap.size), .map (some (w.heap.size + 1)), .int .i64 from_] 84)
  have hR := raw_start h'.out from_ rfl kk (m1.keeps k2 id) (m2.keeps k3 id) (whole_three _ _ _ _ _)
  refine ⟨_, _, rfl, ⟨_, _, _, _, ⟨hR, ok_new hf'.out⟩⟩, fun x hx => ?_, kk⟩
  rcases hx with rfl | rfl | rfl | rfl | rfl
  · exact .inl rfl
  · exact .inr (.inl rfl)
  · exact .inr (.inr (Nat.le_refl _))
  · exact .inr (.inr (Nat.le_succ _))
  · exact .inr (.inr (by omega))

/-- What On leaves: blocks on an arena of n words 0, none yet; all of it new. -/
def OnA (w : World) (n from_ : Nat) (e : Ending) (w' : World) : Prop :=
  ∃ a b X, e = .returned (.tuple #[.pointer (some ⟨a, 0, none⟩), .pointer (some ⟨b, 0, none⟩)]) ∧ BkAt w' b a (List.replicate n 0) 0 (St.start from_) X ∧ (∀ x, X x → w.heap.size ≤ x) ∧ Keeps (fun _ => False) w w'

theorem on_at (n from_ : Nat) (h1 : 1 ≤ n) (h2 : n ≤ 16384) (hf : from_ ≤ n) (w : World) :
    Calls Tryz.prog 4 #[.int .i64 n, .int .i64 from_] w fun e w' => OnA w n from_ e w' := by
  have hf' := Lib.hid hf
  have cn := Lib.hid (new_in n h1 h2)
  clear hf
  go_enter Tryz.func4, Tryz.ntmps4
  go_wp2_with fail
  refine (cn.out _).mono ?_
  rintro e w1 ⟨a, bw, rfl, hA, ha, hb, hK⟩
  have A1 := Lib.hid hA
  have K1 := Lib.hid hK
  have la := Lib.hid ha
  have lb := Lib.hid hb
  clear hA hK ha hb
  go_wp2_with fail
  refine (no_nil _).mono ?_
  rintro e w' ⟨rfl, rfl⟩
  go_wp2_with fail
  refine (bnew_at a bw _ 0 from_ (by rw [List.length_replicate]; exact hf'.out) _ A1.out).mono ?_
  rintro e w2 ⟨b, X, rfl, hB, hX, hK⟩
  have B2 := Lib.hid hB
  have X2 := Lib.hid hX
  have K2 := Lib.hid hK
  clear hB hX hK
  go_wp2_with (go_at_call 10; refine (no_nil _).mono ?_; rintro e w' ⟨rfl, rfl⟩)
  go_ret2
  refine ⟨_, b, X, rfl, B2.out, fun x hx => ?_, K1.out.trans_ K2.out⟩
  rcases X2.out x hx with rfl | rfl | h
  · exact la.out
  · exact lb.out
  · exact Nat.le_trans K1.out.size h

/-- Blocks of n words, plainly. -/
def Mm.start (n : Nat) : Mm := ⟨St.start 1, fun _ => 0, n, 0⟩

theorem Mm.start_get (n : Nat) : (Mm.start n).st.get 0 = none := rfl

theorem mm_start {w : World} {b a n : Nat} {X : Nat → Prop} (h1 : 1 ≤ n) (h2 : n ≤ 16384) (h : BkAt w b a (List.replicate n 0) 0 (St.start 1) X) : MmM w b a (Mm.start n) X :=
  ⟨⟨ok_new h1, h2, fun _ => by simp [Mm.start], fun B hB => (by cases hB)⟩, _, 0, h, List.length_replicate, Nat.zero_le _, fun B hB => (by cases hB)⟩
end Go.Proofs.YtipogkgolbmgkaaGreatDoor
