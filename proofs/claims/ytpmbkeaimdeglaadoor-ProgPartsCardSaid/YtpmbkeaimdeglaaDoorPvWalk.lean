/-
  prog.Walk by contract.
-/
import Derived.Test.YtpmbkeaimdeglaaDoorPvOver
import Derived.Test.YtpmbkeaimdeglaaDoorPvSmall
import Derived.Test.YtpmbkeaimdeglaaDoorPgWalks
import Derived.Defers
import Derived.Recover
namespace Go.Proofs.YtpmbkeaimdeglaaDoor
open Go.RowKit Go.Extern.Stop Go.Stop Go.Extern

theorem walk_idle (w : World) :
    CallsD Tryd.prog 41 #[] .returning w fun e u' w' => e = .returned (.tuple #[]) ∧ u' = .returning ∧ w' = w := by
  refine callsD_of_wpS Tryd.func41 rfl fun c₀ cs hu => ?_
  apply wpS_region
  simp [wpOpsS, go_sem, recoverD, hu, Tryd.ntmps41]
  cases c₀
  simp_all [bodyPostS, results, Tryd.results41]

theorem run_eql_func (w : World) (fn : Fn) (first cap : Array Value) : (binOp .eql 46 (.func fn first cap) .nilFunc).run Tryd.prog w = .ok (.bool false) w := by
  have h : ∀ d, (Op.equalIn (d + 1) 46 (.func fn first cap) .nilFunc).run Tryd.prog w = .ok false w := fun d => by
    simp [Op.equalIn, run_underlying Tryd.underlying46]
  simp only [binOp]
  simp [Op.equal, Op.maxDepth, h 9999]

set_option maxRecDepth 100000 in
theorem walk2_any {W : World} {n d : Int} (s : St7) (b e : Sl) {vb fn : Nat} {cap : Array Value} {R : Ending → World → Prop} (hent : ∀ (args : Array Value) (V : World), (callFunc fn args).run Tryd.prog V = .ok (.enter fn args) V) (h : Whole W vb 46 #[.func (.func fn) #[] cap])
    (hc : ∀ V, Keeps (fun _ => False) W V → Calls Tryd.prog fn (#[.int .i64 n, .agg (stAgg s b e)] ++ cap) V fun e' W' => ∃ go : Bool, e' = .returned (.bool go) ∧ R (.returned (.bool go)) W') :
    Calls Tryd.prog 42 #[.int .i64 n, .int .i64 d, .agg (stAgg s b e), .pointer (some ⟨vb, 0, none⟩)] W R := by
  obtain ⟨k, c, r, ar, an, br, bn⟩ := s
  obtain ⟨x1, x2, x3⟩ := b
  obtain ⟨y1, y2, y3⟩ := e
  unfold stAgg slv at hc
  unfold stAgg slv
  simp only at hc ⊢
  have c0 : W.cell? ⟨vb, 0, none⟩ = some (.func (.func fn) #[] cap) := h.at_ 0
  have lv := h.lt
  have HC := Lib.hid (hc _ ((Keeps.refl _ W).alloc (.cells #[.int .i64 k, .int .i64 c, .int .i64 r, .int .i64 ar, .int .i64 an, .int .i64 br, .int .i64 bn, .slice x1 x2 x3, .slice y1 y2 y3] 42)))
  clear hc h
  go_enter Tryd.func42, Tryd.ntmps42
  go_wp2_with fail
  refine HC.out.mono ?_
  rintro e w2 ⟨go, rfl, hR⟩
  have H2 := Lib.hid hR
  clear hR HC
  go_wp2_with fail
  exact H2.out

set_option maxRecDepth 100000 in
theorem walk9 : Walk9 := by
  intro w0 w v F fn cap Box Inv Fin hent h hk hbox few hd h0 hsI hsF hcb
  obtain ⟨W1, hW1⟩ : ∃ V, V = w.alloc (.cells #[.func (.func fn) #[] cap] 46) := ⟨_, rfl⟩
  have K1 : Keeps (fun _ => False) w W1 := by rw [hW1]; exact (Keeps.refl _ w).alloc _
  have M1 : Whole W1 w.heap.size 46 #[.func (.func fn) #[] cap] := by rw [hW1]; exact Whole.made _ _ _
  have s1 : W1.heap.size = w.heap.size + 1 := by rw [hW1, World.size_alloc]
  have LK : Look w0 W1.heap.size (lin F 1) 42 #[.pointer (some ⟨w.heap.size, 0, none⟩)]
      (fun i Z W => (Z = Box) ∧ Inv i W ∧ Whole W w.heap.size 46 #[.func (.func fn) #[] cap] ∧ Keeps (fun x => Box x ∨ w.heap.size ≤ x) w W) Fin :=
    { enters := enters_of Tryd.func42 (by kernel_rfl) rfl
      low := fun i Z W ⟨hz, _, _, hq⟩ x hx => by
        subst hz
        have := hbox x hx
        exact ⟨this.1, Nat.lt_of_lt_of_le this.2 hq.size⟩
      stay := fun i Z W W' ⟨hz, hi, hw, hq⟩ hk => by
        subst hz
        have h1 : Keeps (fun x => w.heap.size ≤ x) W W' := hk.mono fun x _ hx => by have := hx.1; omega
        exact ⟨rfl, hsI i W W' hi h1, hw.keeps hk (fun hc => by have := hc.1; omega), hq.trans h1 fun x _ hx => .inr hx⟩
      step := fun i l b e Z W hl ⟨hz, hi, hw, hq⟩ hk2 hB hE => by
        subst hz
        refine walk2_any l.s b e hent hw fun V kV => ?_
        have hiV := hsI i W V hi (kV.mono fun _ _ => False.elim)
        refine (hcb i l b e V hl hiV (hq.trans kV fun _ _ => False.elim) hB hE).mono ?_
        rintro e' W' ⟨go, rfl, hK, h1, h2⟩
        have kk : Keeps Z W W' := (kV.mono fun _ _ => False.elim : Keeps Z W V).trans_ hK
        refine ⟨go, rfl, go, Z, rfl, kk, fun x hx => .inl hx, fun hg => ⟨rfl, h1 hg, hw.keeps kk fun hc => ?_, ?_⟩, h2⟩
        · have := (hbox _ hc).2; omega
        · exact hq.trans kk fun x _ hx => .inl hx }
  have CO := Lib.hid (over_any (w := W1) h ((hk.trans K1 fun _ _ => id).mono fun _ _ => False.elim) (by omega) (by omega) LK ⟨rfl, hsI 0 w W1 h0 (K1.mono fun _ _ => False.elim), M1, K1.mono fun _ _ => False.elim⟩)
  have hmf : ∀ (fn : Fn) (first cap : Array Value) (w : World), (Instr.makeFunc fn first cap).run Tryd.prog w = .ok (.func fn first cap) w := fun _ _ _ _ => rfl
  have heq := run_eql_func
  have c0 : W1.cell? ⟨w.heap.size, 0, none⟩ = some (.func (.func fn) #[] cap) := M1.at_ 0
  have hW1' := Lib.hid hW1
  have K1' := Lib.hid K1
  have S1 := Lib.hid s1
  have HB := Lib.hid hbox
  generalize F.size = N at *
  clear hent h hk hbox few hd h0 hsI hsF hcb hW1 K1 M1 LK s1
  go_enter_defers Tryd.func23, Tryd.ntmps23
  go_upto_region 1 with fail
  rw [← hW1'.out]
  go_wp2_with fail
  refine CO.out.mono ?_
  rintro e w2 ⟨rfl, hK, hR⟩
  have K2 : Hid (Keeps (fun x => Box x ∨ w.heap.size ≤ x) w w2) := Lib.hid ((K1'.out.mono fun _ _ => False.elim : Keeps (fun x => Box x ∨ w.heap.size ≤ x) w W1).trans hK fun x hx hc => by
    have := S1.out
    rcases hc with hc | hc
    · exact .inl hc
    · exact .inr (by omega))
  have R2 : Hid (Inv N w2 ∨ Fin w2) := Lib.hid (by
    rcases hR with ⟨Z, ⟨_, hi, _⟩, _⟩ | hf
    · exact .inl hi
    · exact .inr hf)
  clear hK hR CO
  go_wp2_with fail
  refine leaves_cons (f := 41) (args := #[]) (by simp) (by simp [go_sem]) ?_
  refine (walk_idle w2).mono ?_
  rintro e u' w'' ⟨rfl, rfl, rfl⟩
  exact ⟨_, by simp [results, Tryd.results23, go_sem], rfl, K2.out, R2.out⟩
end Go.Proofs.YtpmbkeaimdeglaaDoor
