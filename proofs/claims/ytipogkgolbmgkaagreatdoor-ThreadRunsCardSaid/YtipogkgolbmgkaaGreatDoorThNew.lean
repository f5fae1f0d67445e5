/-
  thread.New, Done, Err, Round, Steps, and concordlaw05.Body, by contract; of a thread that is none, too.
-/
import Derived.Test.YtipogkgolbmgkaaGreatDoorThRuns
import Derived.Test.YtipogkgolbmgkaaGreatDoorBkNew
namespace Go.Proofs.YtipogkgolbmgkaaGreatDoor
open Go.RowKit Go.Extern.Stop Go.Stop Go.Extern

theorem run_equalIn_nilFunc (w : World) (d : Nat) : (Op.equalIn (d + 1) 33 .nilFunc .nilFunc).run Tryz.prog w = .ok true w := by
  simp [Op.equalIn, run_underlying Tryz.underlying33]
theorem run_eql_nilFunc (w : World) : (binOp .eql 33 .nilFunc .nilFunc).run Tryz.prog w = .ok (.bool true) w := by
  simp only [binOp]
  simp [Op.equal, Op.maxDepth, run_equalIn_nilFunc w 9999]

/-- A thread that has done nothing. -/
def Ths.start (m : Mm) : Ths := ⟨m, [], 0, 0, false, .ok⟩

theorem Ths.start_ok {m : Mm} (h : m.Ok) (hc : m.cnt = 0) : (Ths.start m).Ok :=
  ⟨h, fun e he => (by cases he), Nat.zero_le _, Nat.zero_le _, by show m.cnt ≤ 0; omega, fun _ => by show 0 + (39 - 0) * 21 + (21 - 0) ≤ 840; omega, Nat.zero_le _, fun _ => rfl, by simp [Ths.start, EA.num]⟩

theorem tnew_none (v : Value) (w : World) :
    Calls Tryz.prog 7 #[.pointer none, v] w fun e w' => e = .returned (.pointer none) ∧ w = w' := by
  go_enter Tryz.func7, Tryz.ntmps7
  go_wp2_with (first
    | (go_at_call 23; refine (size_nil _ _).mono ?_; rintro e w' ⟨rfl, rfl⟩)
    | (go_at_call 24; refine (is_errno 1 1 _).mono ?_; rintro e w' ⟨rfl, rfl⟩))
  go_ret
  exact ⟨rfl, rfl⟩

theorem tnew_nobody {w : World} {b a : Nat} {m : Mm} {X : Nat → Prop} (h : MmM w b a m X) (hg : m.st.get 0 = none) :
    Calls Tryz.prog 7 #[.pointer (some ⟨b, 0, none⟩), .nilFunc] w fun e w' => e = .returned (.pointer none) ∧ Keeps (fun _ => False) w w' := by
  have hq := run_eql_nilFunc
  obtain ⟨_, ws, cnt, hb, _⟩ := h
  have cs := Lib.hid (size_miss 0 (by simp) hg w hb.bk)
  clear hb hg
  go_enter Tryz.func7, Tryz.ntmps7
  go_wp2_with fail
  refine cs.out.mono ?_
  rintro e W2 ⟨p, rfl, hW, hK⟩
  have ci := Lib.hid (is_fault p 0 5 1 W2 (hW.at_ 1))
  have K2 := Lib.hid hK
  clear hW hK
  go_wp2_with (go_at_call 24; refine ci.out.mono ?_; rintro e w' ⟨rfl, rfl⟩)
  go_ret
  exact ⟨rfl, K2.out⟩

theorem tnew_any {w : World} {b a pb : Nat} {m : Mm} {X : Nat → Prop} (h : MmM w b a m X) (hc : m.cnt = 0) (hg : m.st.get 0 = none) (hG : Glob w) (hX : ¬ X etB) :
    Calls Tryz.prog 7 #[.pointer (some ⟨b, 0, none⟩), bodyV pb] w fun e w' => ∃ t pl Z, e = .returned (.pointer (some ⟨t, 0, none⟩)) ∧ ThM w' t b a pl pb (Ths.start m) Z ∧ (∀ x, Z x → X x ∨ w.heap.size ≤ x) ∧ Keeps (fun _ => False) w w' := by
  have hq := fun w => run_eql_func (.func 25) #[] #[.pointer (some ⟨pb, 0, none⟩)] w
  have hmm := @run_makeMap Tryz.prog
  have h' := Lib.hid h
  obtain ⟨_, ws, cnt, hb, _⟩ := h
  have cs := Lib.hid (size_miss 0 (by simp) hg w hb.bk)
  have hG' := Lib.hid hG
  have hX' := Lib.hid hX
  have hc' := Lib.hid hc
  clear hb hg hG hX hc
  unfold bodyV
  go_enter Tryz.func7, Tryz.ntmps7
  go_wp2_with fail
  refine cs.out.mono ?_
  rintro e W2 ⟨p, rfl, hW, hK⟩
  have ci := Lib.hid (is_fault p 0 5 1 W2 (hW.at_ 1))
  have K2 := Lib.hid hK
  clear hW hK
  go_wp2_with (go_at_call 24; refine ci.out.mono ?_; rintro e w' ⟨rfl, rfl⟩)
  go_ret
  have kk : Keeps (fun _ => False) W2 ((W2.alloc (.map #[] 0)).alloc (.cells (thCells b (bodyV pb) 0 0 (.slice none 0 0) W2.heap.size false false .nilIface) 63)) := ((Keeps.refl _ W2).alloc _).alloc _
  have mB := two_made W2 (.map #[] 0) 63 (thCells b (bodyV pb) 0 0 (.slice none 0 0) W2.heap.size false false .nilIface)
  have mM := (HoldsM.made Tryz.prog 3 intE W2).keeps ((Keeps.refl (fun _ => False) (W2.alloc (.map #[] 0))).alloc (.cells (thCells b (bodyV pb) 0 0 (.slice none 0 0) W2.heap.size false false .nilIface) 63)) id
  have kw := K2.out.trans_ kk
  have hX : ∀ x, X x → x < W2.heap.size := fun x hx => Nat.lt_of_lt_of_le (h'.out.old x hx) K2.out.size
  have hge : w.heap.size ≤ W2.heap.size := K2.out.size
  refine ⟨W2.heap.size + 1, W2.heap.size, fun x => X x ∨ x = W2.heap.size + 1 ∨ x = W2.heap.size, rfl, ⟨.nilIface, .slice none 0 0, X, {
    th := ⟨mB, ERow.nil _, by rw [show (Ths.start m).log = [] from rfl, placesF_nil]; exact mM⟩
    mm := h'.out.same kw
    x := fun x => .inl
    own := fun x hx => ?_
    old := fun x hx => ?_
    glob := hG'.out.keeps kw id
    gz := ?_ }, Ths.start_ok h'.out.1 hc'.out, rfl, fun ty x hx => (by cases hx)⟩, fun x hx => ?_, kw⟩
  · rcases hx with rfl | rfl | hx
    · exact ⟨.inr (.inl rfl), fun h => by have := hX _ h; omega⟩
    · exact ⟨.inr (.inr rfl), fun h => by have := hX _ h; omega⟩
    · cases hx
  · have hs : ((W2.alloc (.map #[] 0)).alloc (.cells (thCells b (bodyV pb) 0 0 (.slice none 0 0) W2.heap.size false false .nilIface) 63)).heap.size = W2.heap.size + 2 := by simp
    show x < ((W2.alloc (.map #[] 0)).alloc (.cells (thCells b (bodyV pb) 0 0 (.slice none 0 0) W2.heap.size false false .nilIface) 63)).heap.size
    rw [hs]
    rcases hx with hx | rfl | rfl
    · have := hX x hx; omega
    · omega
    · omega
  · have hl : etB < w.heap.size := hG'.out.lt
    rintro (hx | hx | hx)
    · exact hX'.out hx
    · omega
    · omega
  · rcases hx with hx | rfl | rfl
    · exact .inl hx
    · exact .inr (by omega)
    · exact .inr hge

theorem done_nil (w : World) : Calls Tryz.prog 11 #[.pointer none] w fun e w' => e = .returned (.bool true) ∧ w = w' := by
  go_enter Tryz.func11, Tryz.ntmps11
  go_wp2_with (go_at_call 32; refine (tnone_nil _).mono ?_; rintro e w' ⟨rfl, rfl⟩)
  go_ret
  exact ⟨rfl, rfl⟩

theorem done_any {w : World} {t : Nat} {fn : Fn} {f c : Array Value} {d : Bool} (c1 : w.cell? ⟨t, 1, none⟩ = some (.func fn f c)) (c7 : w.cell? ⟨t, 7, none⟩ = some (.bool d)) :
    Calls Tryz.prog 11 #[.pointer (some ⟨t, 0, none⟩)] w fun e w' => e = .returned (.bool d) ∧ w = w' := by
  go_enter Tryz.func11, Tryz.ntmps11
  go_wp2_with (go_at_call 32; refine (tnone_there _ c1).mono ?_; rintro e w' ⟨rfl, rfl⟩)
  go_ret
  exact ⟨rfl, rfl⟩

theorem steps_any {w : World} {t : Nat} {fn : Fn} {f c : Array Value} {n : Int} (c1 : w.cell? ⟨t, 1, none⟩ = some (.func fn f c)) (c3 : w.cell? ⟨t, 3, none⟩ = some (.int .i64 n)) :
    Calls Tryz.prog 15 #[.pointer (some ⟨t, 0, none⟩)] w fun e w' => e = .returned (.int .i64 n) ∧ w = w' := by
  go_enter Tryz.func15, Tryz.ntmps15
  go_wp2_with (go_at_call 32; refine (tnone_there _ c1).mono ?_; rintro e w' ⟨rfl, rfl⟩)
  go_ret
  exact ⟨rfl, rfl⟩

theorem round_any {w : World} {t : Nat} {fn : Fn} {f c : Array Value} {n : Int} (c1 : w.cell? ⟨t, 1, none⟩ = some (.func fn f c)) (c2 : w.cell? ⟨t, 2, none⟩ = some (.int .i64 n)) :
    Calls Tryz.prog 16 #[.pointer (some ⟨t, 0, none⟩)] w fun e w' => e = .returned (.int .i64 n) ∧ w = w' := by
  go_enter Tryz.func16, Tryz.ntmps16
  go_wp2_with (go_at_call 32; refine (tnone_there _ c1).mono ?_; rintro e w' ⟨rfl, rfl⟩)
  go_ret
  exact ⟨rfl, rfl⟩

theorem err_any {w : World} {t : Nat} {fn : Fn} {f c : Array Value} {v : Value} (hv : v = .nilIface ∨ ∃ ty x, v = .iface ty x) (c1 : w.cell? ⟨t, 1, none⟩ = some (.func fn f c)) (c8 : w.cell? ⟨t, 8, none⟩ = some v) :
    Calls Tryz.prog 12 #[.pointer (some ⟨t, 0, none⟩)] w fun e w' => e = .returned v ∧ w = w' := by
  rcases hv with rfl | ⟨ty, x, rfl⟩
  all_goals
    go_enter Tryz.func12, Tryz.ntmps12
    go_wp2_with (go_at_call 32; refine (tnone_there _ c1).mono ?_; rintro e w' ⟨rfl, rfl⟩)
    go_ret
    exact ⟨rfl, rfl⟩

/-- The body of a program. -/
theorem body_new (o : Option Addr) (n c : Nat) (w : World) :
    Calls Tryz.prog 8 #[.slice o n c] w fun e w' => e = .returned (bodyV w.heap.size) ∧ w' = w.alloc (.cells #[.slice o n c] 22) := by
  have hmf := make_func
  go_enter Tryz.func8, Tryz.ntmps8
  go_wp2
  go_ret
  exact ⟨rfl, rfl⟩
end Go.Proofs.YtipogkgolbmgkaaGreatDoor
