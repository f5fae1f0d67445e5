/-
  What is still to be gone over of a transaction, plainly: forests, the next first, each with how deep it lies.
  The walker of transactions in memory: a row of parts, each a slice of statements and how deep they lie.
-/
import Derived.Test.YthidipigpfcbbaaGreatDoorPgPlain
import Derived.Test.YthidipigpfcbbaaGreatDoorPgOne

namespace Go.Proofs.YthidipigpfcbbaaGreatDoor

abbrev Lf := List (Fo × Nat)
def todo (s : Lf) : List Ln := s.flatMap fun x => lin x.1 x.2
/-- Every forest has a statement. -/
def Full (s : Lf) : Prop := ∀ x ∈ s, x.1 ≠ .nil
def pushL (F : Fo) (d : Nat) (s : Lf) : Lf := match F with
  | .nil => s
  | .cons s' B E R => (.cons s' B E R, d) :: s

theorem todo_cons (F : Fo) (d : Nat) (s : Lf) : todo ((F, d) :: s) = lin F d ++ todo s := rfl
theorem todo_push (F : Fo) (d : Nat) (s : Lf) : todo (pushL F d s) = lin F d ++ todo s := by
  cases F with
  | nil => rfl
  | cons s' B E R => rfl
theorem full_push {F : Fo} {d : Nat} {s : Lf} (h : Full s) : Full (pushL F d s) := by
  cases F with
  | nil => exact h
  | cons s' B E R =>
    intro x hx
    rcases List.mem_cons.1 hx with rfl | hx
    · intro e; cases e
    · exact h x hx
theorem Full.tail {x : Fo × Nat} {s : Lf} (h : Full (x :: s)) : Full s := fun y hy => h y (List.mem_cons_of_mem _ hy)
theorem lin_pos {F : Fo} (d : Nat) (h : F ≠ .nil) : 0 < (lin F d).length := by
  cases F with
  | nil => exact absurd rfl h
  | cons s B E R => simp [lin]
theorem full_len : ∀ {s : Lf}, Full s → s.length ≤ (todo s).length
  | [], _ => Nat.le_refl _
  | (F, d) :: s, h => by
    have h1 := full_len h.tail
    have h2 := lin_pos d (h (F, d) (by simp))
    rw [todo_cons, List.length_append, List.length_cons]
    simp only at h2
    omega
theorem full_nil {s : Lf} (h : Full s) (h0 : todo s = []) : s = [] := by
  have := full_len h
  rw [h0] at this
  exact List.eq_nil_of_length_eq_zero (Nat.le_zero.1 this)
/-- The next one is taken. -/
theorem todo_next (st : St7) (B E R : Fo) (d : Nat) (t : Lf) : todo ((.cons st B E R, d) :: t) = ⟨st, B, E, d⟩ :: todo (pushL B (d + 1) (pushL E (d + 1) (pushL R d t))) := by
  rw [todo_cons, todo_push, todo_push, todo_push]
  simp [lin]
theorem pushL_len (F : Fo) (d : Nat) (s : Lf) : (pushL F d s).length ≤ s.length + 1 := by
  cases F <;> simp [pushL]
/-- The last of a forest that has one. -/
theorem fo_rest {R : Fo} : R.len = 0 ↔ R = .nil := by
  constructor
  · intro h
    have : R.items = [] := List.eq_nil_of_length_eq_zero h
    rw [← Fo.of_items R, this]; rfl
  · rintro rfl; rfl
end Go.Proofs.YthidipigpfcbbaaGreatDoor

namespace Go.Proofs.YthidipigpfcbbaaGreatDoor
open Go.RowKit Go.Extern.Stop Go.Stop Go.Extern

/-- A part, as it lies in memory. -/
abbrev PtV := Sl × Int
def ptCells (x : PtV) : List Value := [slv x.1, .int .i64 x.2]
def partK : RK PtV where
  T := 131
  e := 172
  size := 2
  bytes := 32
  z := .agg #[.slice none 0 0, .int .i64 0]
  cs := fun l => l.flatMap ptCells
  app := fun l m => by simp
  len := fun l => flat_len ptCells 2 (fun x => rfl) l
  one := fun l u hu => by
    obtain ⟨x, _, hx⟩ := List.mem_flatMap.1 hu
    simp [ptCells, slv] at hx
    rcases hx with rfl | rfl <;> rfl
  hu := Tryz.underlying131
  info := by kernel_rfl
  zs := rfl
  pos := by decide
  few := by decide

/-- A row that is cut. -/
theorem RK.cut {α : Type} (K : RK α) {w : World} {lo : Option Addr} {n k c : Nat} {l m : List α} (h : K.Row w (.slice lo n c) (l ++ m)) (hk : l.length = k) : K.Row w (.slice lo k c) l := by
  subst hk
  refine ⟨K.len l, ?_⟩
  have hl : (l ++ m).length = l.length + m.length := List.length_append
  rcases h.2 with ⟨e, h0⟩ | ⟨g, cap, cur, e, hb, hg, hnc, hcm, hcs, ht⟩
  · injection e with e1 e2 e3
    exact .inl ⟨by rw [e1, e3, show l.length = 0 by omega], by omega⟩
  · injection e with e1 e2 e3
    refine .inr ⟨g, cap, cur, by rw [e1, e3], hb, hg, by omega, hcm, hcs, ?_⟩
    have h1 := congrArg (List.take (l.length * K.size)) ht
    have h2 : (K.cs l).take (l.length * K.size) = K.cs l := List.take_of_length_le (by rw [K.len]; exact Nat.le_refl _)
    rw [List.take_take, Nat.min_eq_left (Nat.mul_le_mul (by omega) (Nat.le_refl _)), K.app, List.take_append_of_le_length (by rw [K.len]; exact Nat.le_refl _), h2] at h1
    exact h1

theorem pt_set {w : World} {g n c m : Nat} {l : List PtV} {a b : Sl} {d : Int} (h : partK.Row w (.slice (some ⟨g, 0, none⟩) n c) (l ++ [(a, d)])) (hm : l.length = m) (hn : n = m + 1) : partK.Row (w.setCell ⟨g, m * 2, none⟩ (slv b)) (.slice (some ⟨g, 0, none⟩) n c) (l ++ [(b, d)]) := by
  subst hm
  have hl : ∀ x : PtV, (l ++ [x]).length = l.length + 1 := fun x => by simp
  have h' : w.ownsRow 0 partK.e partK.size (.slice (some ⟨g, 0, none⟩) n c) n (partK.cs (l ++ [(a, d)])) := by
    have := h
    unfold RK.Row at this
    rw [hl, ← hn] at this
    exact this
  have h1 := (World.ownsRow.stored h' (l.length * 2) (slv b)).1
  have e : (partK.cs (l ++ [(a, d)])).set (l.length * 2) (slv b) = partK.cs (l ++ [(b, d)]) := by
    rw [partK.app, partK.app, List.set_append_right _ _ (by rw [partK.len]; exact Nat.le_refl _), partK.len, show l.length * 2 - l.length * partK.size = 0 from Nat.sub_self _]
    rfl
  rw [e] at h1
  show World.ownsRow _ _ _ _ _ (l ++ [(b, d)]).length _
  rw [hl, ← hn]
  exact h1

/-- What is left, in memory, the next first. -/
def StIs (w0 : World) : List PtV → Lf → Prop
  | [], [] => True
  | x :: us, y :: s => (SlOf w0 (slv x.1) y.1 ∧ x.2 = (y.2 : Int)) ∧ StIs w0 us s
  | [], _ :: _ => False
  | _ :: _, [] => False
theorem StIs.len {w0 : World} : ∀ {us : List PtV} {s : Lf}, StIs w0 us s → us.length = s.length
  | [], [], _ => rfl
  | x :: us, y :: s, h => by rw [List.length_cons, List.length_cons, h.2.len]
  | [], _ :: _, h => h.elim
  | _ :: _, [], h => h.elim

/-- The walker: its block, its row. -/
structure Wk (w0 w : World) (wb : Nat) (lk : Value) (us : List PtV) (s : Lf) (lo : Option Addr) (n c : Nat) : Prop where
  box : Whole w wb 133 #[lk, .slice lo n c]
  row : partK.Row w (.slice lo n c) us.reverse
  len : us.length = n
  st : StIs w0 us s
  full : Full s
/-- The blocks that it has. -/
def Ys (wb : Nat) (lo : Option Addr) : Nat → Prop := fun x => x = wb ∨ ∃ a : Addr, lo = some a ∧ x = a.block

theorem own_some {lo : Option Addr} {n c g : Nat} (h : (Value.slice lo n c).ownBlock = some g) : ∃ a : Addr, lo = some a ∧ g = a.block := by
  cases lo with
  | none => cases h
  | some a => simp [Value.ownBlock] at h; exact ⟨a, rfl, h.symm⟩
theorem Wk.keeps {w0 w w' : World} {wb : Nat} {lk : Value} {us : List PtV} {s : Lf} {lo : Option Addr} {n c : Nat} {S : Nat → Prop} (h : Wk w0 w wb lk us s lo n c) (k : Keeps S w w') (hS : ∀ x, Ys wb lo x → ¬ S x) : Wk w0 w' wb lk us s lo n c :=
  ⟨h.box.keeps k (hS _ (.inl rfl)), ownsRow_keeps h.row k fun g hg => hS g (.inr (own_some hg)), h.len, h.st, h.full⟩
theorem Wk.lt {w0 w : World} {wb : Nat} {lk : Value} {us : List PtV} {s : Lf} {lo : Option Addr} {n c : Nat} (h : Wk w0 w wb lk us s lo n c) : ∀ x, Ys wb lo x → x < w.heap.size := by
  rintro x (rfl | ⟨a, rfl, rfl⟩)
  · exact h.box.lt
  · exact (World.ownsRow.lt h.row a.block rfl).2

theorem pt_lit {w : World} {b : Nat} {x : PtV} (h : Whole w b 172 (ptCells x).toArray) : ∀ j u, (partK.cs [x])[j]? = some u → w.cell? ((⟨b, 0, none⟩ : Addr).add j) = some u := by
  intro j u hj
  rw [add_plain _ rfl, Nat.zero_add, h.at_ j]
  have e : partK.cs [x] = ptCells x := by show [x].flatMap ptCells = _; simp
  rw [e] at hj
  simpa using hj

set_option maxRecDepth 100000 in
theorem push_any {w0 w : World} {wb : Nat} {lk v : Value} {us : List PtV} {s : Lf} {lo : Option Addr} {n c : Nat} {F : Fo} {d : Nat} (h : Wk w0 w wb lk us s lo n c) (few : n ≤ 50000) (hF : SlOf w0 v F) :
    Calls Tryz.prog 67 #[.pointer (some ⟨wb, 0, none⟩), v, .int .i64 (d : Nat)] w fun e w' => e = .returned (.tuple #[]) ∧ ∃ us' lo' n' c', Wk w0 w' wb lk us' (pushL F d s) lo' n' c' ∧ Keeps (Ys wb lo) w w' ∧ ∀ x, Ys wb lo' x → Ys wb lo x ∨ w.heap.size ≤ x := by
  obtain ⟨⟨xo, xn, xc⟩, rfl, hx⟩ := hF.plain
  have hF' := Lib.hid hF
  have H := Lib.hid h
  simp only at hx
  have c0 : w.cell? ⟨wb, 1, none⟩ = some (.slice lo n c) := h.box.at_ 1
  rcases Nat.eq_zero_or_pos F.len with h0 | h0
  · have e0 := fo_rest.1 h0
    have hx0 : xn = 0 := by rw [hx]; exact h0
    subst hx0
    have HF := Lib.hid e0
    unfold slv
    clear hF h hx h0 e0 c0
    go_enter Tryz.func67, Tryz.ntmps67
    go_wp2_with fail
    go_end0
    exact ⟨rfl, us, lo, n, c, by rw [HF.out]; exact H.out, Keeps.refl _ _, fun x hx => .inl hx⟩
  · have b1 : (0 : Int) < (xn : Int) := by omega
    have ep : Hid (pushL F d s = (F, d) :: s) := Lib.hid (by cases F with
      | nil => exact absurd h0 (by decide)
      | cons s' B E R => rfl)
    have ws := h.box.lt
    have hfull := full_push (F := F) (d := d) h.full
    have HFu := Lib.hid hfull
    have hl := Lib.hid h.len
    have R1 : Hid (partK.Row (w.alloc (.cells #[.slice xo xn xc, .int .i64 (d : Nat)] 172)) (.slice lo n c) us.reverse) := Lib.hid (ownsRow_keeps h.row ((Keeps.refl (fun _ => False) w).alloc _) fun _ _ => id)
    unfold slv
    clear hF h hx h0 hfull
    go_enter Tryz.func67, Tryz.ntmps67
    go_wp2_with (at_builtin; refine wpList_append_k partK _ rfl _ _ rfl (.slice lo n c) us.reverse [((xo, xn, xc), (d : Int))] rfl R1.out ⟨w.heap.size, 0, none⟩ 1 _ rfl rfl (pt_lit (x := ((xo, xn, xc), (d : Int))) (Whole.made w 172 (ptCells ((xo, xn, xc), (d : Int))).toArray)) (n + 1) (by rw [List.length_reverse, hl.out]) (by omega) ?_; intro ao cap w2 hR hG hL; have R2 := Lib.hid hR; have L2 := Lib.hid hL; have K2 : Hid (Keeps (fun x => (Value.slice lo n c).ownBlock = some x) w w2) := Lib.hid (((Keeps.refl _ w).alloc _).grown hG fun k hk _ => hk); have B2 := Lib.hid (H.out.box.keeps K2.out (row_ne H.out.row H.out.box (by decide))); have d0 : w2.frozen? ⟨wb, 1, none⟩ = false := B2.out.free 1; have d1 : w2.cell? ⟨wb, 1, none⟩ = some (.slice lo n c) := B2.out.at_ 1; clear hR hG hL)
    go_end0
    have hS : Keeps (fun x => x = wb) w2 (w2.setCell ⟨wb, 1, none⟩ (.slice ao (n + 1) cap)) := (Keeps.refl (fun x => x = wb) w2).setCell (p := ⟨wb, 1, none⟩) (fun _ => rfl) _
    have hB := B2.out.set_ 1 (.slice ao (n + 1) cap)
    refine ⟨rfl, ((xo, xn, xc), (d : Int)) :: us, ao, n + 1, cap, ⟨hB, ?_, by rw [List.length_cons, hl.out], ?_, HFu.out⟩, ?_, ?_⟩
    · rw [List.reverse_cons]
      exact ownsRow_keeps R2.out hS fun g hg e => by subst e; exact row_ne R2.out B2.out (by decide) hg
    · rw [ep.out]
      exact ⟨⟨hF'.out, rfl⟩, H.out.st⟩
    · exact (K2.out.mono fun x _ hx => .inr (own_some hx) : Keeps (Ys wb lo) w w2).trans hS fun x _ hx => .inl hx
    · rintro x (hx | ⟨a, rfl, rfl⟩)
      · exact .inl (.inl hx)
      · rcases L2.out with e | e
        · exact .inl (.inr (own_some (e.symm.trans (by rfl))))
        · right
          have e : a.block = (w.alloc (.cells #[.slice xo xn xc, .int .i64 (d : Nat)] 172)).heap.size := by simpa [Value.ownBlock] using e
          rw [e, World.size_alloc]; omega
end Go.Proofs.YthidipigpfcbbaaGreatDoor
