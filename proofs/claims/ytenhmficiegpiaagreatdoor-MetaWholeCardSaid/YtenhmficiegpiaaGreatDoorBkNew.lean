/-
  blocks.New by contract, and concordlaw02.On: blocks on a new arena of words 0.
-/
import Derived.Test.YtenhmficiegpiaaGreatDoorBkFree
import Derived.Carry
import Derived.Test.YtenhmficiegpiaaGreatDoorWdNo
namespace Go.Proofs.YtenhmficiegpiaaGreatDoor
open Go.RowKit Go.Extern.Stop Go.Stop Go.Extern

/-- No blocks yet. -/
def St.start (from_ : Nat) : St := ⟨[], fun _ => [], from_⟩

theorem bnew_nil (i : Int) (w : World) :
    Calls Tryz.prog 22 #[.pointer none, .int .i64 i] w fun e w' => e = .returned (.tuple #[.pointer none, .iface 71 (.int .i64 1)]) ∧ w = w' := by
  go_enter Tryz.func22, Tryz.ntmps22
  go_wp2_with (go_at_call 34; refine (alen_nil _).mono ?_; rintro e w' ⟨rfl, rfl⟩)
  go_ret2
  exact ⟨rfl, rfl⟩

theorem raw_start {w w' : World} {a bw m : Nat} {ws : List Int} {cnt : Nat} (h : Arena w a bw ws cnt) (from_ : Nat) (hm : m = w.heap.size) (k : Keeps (fun _ => False) w w')
    (h1 : HoldsM Tryz.prog 3 bvE w' m (fun _ => none)) (h2 : HoldsM Tryz.prog 3 rowE w' (m + 1) (fun _ => none)) (h3 : Whole w' (m + 2) 90 #[.pointer (some ⟨a, 0, none⟩), .map (some m), .map (some (m + 1)), .int .i64 from_]) :
    BkRaw w' (m + 2) a bw m (m + 1) ws cnt (allF (St.start from_)) (St.start from_).fr (St.start from_).top (fun _ => none) (fun x => x = a ∨ x = bw ∨ x = m ∨ x = m + 1 ∨ x = m + 2) where
  blk := h3
  arena := h.keeps k id id
  all := by
    have e : allF (St.start from_) = fun _ => none := by
      funext j
      unfold allF St.start St.at
      split <;> rfl
    rw [e]
    exact h1
  freed := h2
  own := fun n => World.ownsRow_nil _ _ _ _
  apart := fun n j _ g hg => by cases hg
  keys := fun j hj => by cases hj
  ne := by omega
  inX := ⟨.inr (.inr (.inr (.inr rfl))), .inl rfl, .inr (.inl rfl), .inr (.inr (.inl rfl)), .inr (.inr (.inr (.inl rfl)))⟩
  rowX := fun n g hg => by cases hg
  old := fun x hx => by
    have h4 := h.lt
    have h5 := k.size
    have h6 := h3.lt
    rcases hx with rfl | rfl | rfl | rfl | rfl <;> omega

/-- What New leaves: blocks on the arena, none yet. -/
def Opened (w : World) (a bw : Nat) (ws : List Int) (cnt from_ : Nat) (e : Ending) (w' : World) : Prop :=
  ∃ b X, e = .returned (.tuple #[.pointer (some ⟨b, 0, none⟩), .nilIface]) ∧ Bk w' b ws cnt (St.start from_) X ∧ (∀ x, X x → x = a ∨ x = bw ∨ w.heap.size ≤ x) ∧ Keeps (fun _ => False) w w'

theorem holds_two {V : Type} (P : Program) (K : TypeId) (E : Enc V) (w : World) (o : Obj) : HoldsM P K E ((w.alloc o).alloc (.map #[] 0)) (w.heap.size + 1) (fun _ => none) := by
  have := HoldsM.made P K E (w.alloc o)
  simpa using this
theorem whole_three (w : World) (o o2 : Obj) (t : TypeId) (cs : Array Value) : Whole (((w.alloc o).alloc o2).alloc (.cells cs t)) (w.heap.size + 2) t cs := by
  have := Whole.made ((w.alloc o).alloc o2) t cs
  simpa using this

theorem bnew_bk (a bw : Nat) (ws : List Int) (cnt from_ : Nat) (hf : from_ ≤ ws.length) (w : World) (h : Arena w a bw ws cnt) :
    Calls Tryz.prog 22 #[.pointer (some ⟨a, 0, none⟩), .int .i64 from_] w fun e w' => Opened w a bw ws cnt from_ e w' := by
  have hmm := @run_makeMap Tryz.prog
  have cl := alen_there a bw ws cnt
  have h3 := h.2.2.1
  have h4 := h.2.2.2
  have t0 : ((ws.length : Int) == 0) = false := by rw [beq_eq_false_iff_ne]; omega
  have t1 : ¬ (from_ : Int) < 0 := by omega
  have t2 : ¬ (ws.length : Int) < from_ := by omega
  have h' := Lib.hid h
  have hf' := Lib.hid hf
  generalize ws.length = L at cl t0 t2 h3 h4
  clear h hf
  go_enter Tryz.func22, Tryz.ntmps22
  go_wp2_with (first
    | (go_at_call 34; refine (cl _ h'.out).mono ?_; rintro e w' ⟨rfl, rfl⟩))
  go_ret2
  have m1 := HoldsM.made Tryz.prog 3 bvE w
  have m2 := holds_two Tryz.prog 3 rowE w (.map #[] 0)
  have kk := (((Keeps.refl (fun _ => False) w).alloc (.map #[] 0)).alloc (.map #[] 0)).alloc (.cells #[.pointer (some ⟨a, 0, none⟩), .map (some w.heap.size), .map (some (w.heap.size + 1)), .int .i64 from_] 90)
  have k2 := ((Keeps.refl (fun _ => False) (w.alloc (.map #[] 0))).alloc (.map #[] 0)).alloc (.cells #[.pointer (some ⟨a, 0, none⟩), .map (some w.heap.size), .map (some (w.heap.size + 1)), .int .i64 from_] 90)
  have k3 := (Keeps.refl (fun _ => False) ((w.alloc (.map #[] 0)).alloc (.map #[] 0))).alloc (.cells #[.pointer (some ⟨a, 0, none⟩), .map (some w.heap.size), .map (some (w.heap.size + 1)), .int .i64 from_] 90)
  have hR := raw_start h'.out from_ rfl kk (m1.keeps k2 id) (m2.keeps k3 id) (whole_three _ _ _ _ _)
  refine ⟨_, _, rfl, ⟨_, _, _, _, _, ⟨hR, ok_new hf'.out⟩⟩, fun x hx => ?_, kk⟩
  rcases hx with rfl | rfl | rfl | rfl | rfl
  · exact .inl rfl
  · exact .inr (.inl rfl)
  · exact .inr (.inr (Nat.le_refl _))
  · exact .inr (.inr (Nat.le_succ _))
  · exact .inr (.inr (by omega))

/-- What On leaves: blocks on an arena of n words 0, none yet; all of it new. -/
def OnIt (w : World) (n from_ : Nat) (e : Ending) (w' : World) : Prop :=
  ∃ p b X, e = .returned (.tuple #[.pointer (some p), .pointer (some ⟨b, 0, none⟩)]) ∧ Bk w' b (List.replicate n 0) 0 (St.start from_) X ∧ (∀ x, X x → w.heap.size ≤ x) ∧ Keeps (fun _ => False) w w'

theorem on_bk (n from_ : Nat) (h1 : 1 ≤ n) (h2 : n ≤ 16384) (hf : from_ ≤ n) (w : World) :
    Calls Tryz.prog 11 #[.int .i64 n, .int .i64 from_] w fun e w' => OnIt w n from_ e w' := by
  have hf' := Lib.hid hf
  have cn := Lib.hid (new_in n h1 h2)
  clear hf
  go_enter Tryz.func11, Tryz.ntmps11
  go_wp2_with fail
  refine (cn.out _).mono ?_
  rintro e w1 ⟨a, bw, rfl, hA, ha, hb, hK⟩
  have A1 := Lib.hid hA
  have K1 := Lib.hid hK
  have la := Lib.hid ha
  have lb := Lib.hid hb
  clear hA hK ha hb
  go_wp2_with fail
  refine (no_nil _).mono ?_
  rintro e w' ⟨rfl, rfl⟩
  go_wp2_with fail
  refine (bnew_bk a bw _ 0 from_ (by rw [List.length_replicate]; exact hf'.out) _ A1.out).mono ?_
  rintro e w2 ⟨b, X, rfl, hB, hX, hK⟩
  have B2 := Lib.hid hB
  have X2 := Lib.hid hX
  have K2 := Lib.hid hK
  clear hB hX hK
  go_wp2_with (go_at_call 16; refine (no_nil _).mono ?_; rintro e w' ⟨rfl, rfl⟩)
  go_ret2
  refine ⟨_, b, X, rfl, B2.out, fun x hx => ?_, K1.out.trans_ K2.out⟩
  rcases X2.out x hx with rfl | rfl | h
  · exact la.out
  · exact lb.out
  · exact Nat.le_trans K1.out.size h
end Go.Proofs.YtenhmficiegpiaaGreatDoor
