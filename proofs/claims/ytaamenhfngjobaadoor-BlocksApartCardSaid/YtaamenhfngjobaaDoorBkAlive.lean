/-
  concordlaw02.alive returns true; nothing that was there has changed. It reads the library's variable errors.errorType.
-/
import Derived.Test.YtaamenhfngjobaaDoorBkNew
import Derived.Test.YtaamenhfngjobaaDoorWdPlace
namespace Go.Proofs.YtaamenhfngjobaaDoor
open Go.RowKit Go.Extern.Stop Go.Stop Go.Extern

theorem on_82 (w : World) : Calls Tryd.prog 7 #[.int .i64 8, .int .i64 2] w fun e w' => OnIt w 8 2 e w' := on_bk 8 2 (by decide) (by decide) (by decide) w

def al0 : St := St.start 2
def al1 : St := ⟨[⟨2, 2, 0, true⟩], fun _ => [], 5⟩
def al2 : St := ⟨[⟨2, 2, 1, false⟩], setFr (fun _ => []) 2 [2], 5⟩
def al3 : St := ⟨[⟨2, 2, 1, true⟩], setFr (setFr (fun _ => []) 2 [2]) 2 [], 5⟩

/-- A call's answer, and blocks in a state behind it. -/
def Went (w : World) (b cnt : Nat) (st : St) (X : Nat → Prop) (v : Value) (e : Ending) (w' : World) : Prop :=
  e = .returned v ∧ (∃ ws' X', Bk w' b ws' cnt st X' ∧ ∀ x, X' x → X x ∨ w.heap.size ≤ x) ∧ Keeps X w w'

theorem al_one (b : Nat) (X : Nat → Prop) (w : World) (h : Bk w b (List.replicate 8 0) 0 al0 X) :
    Calls Tryd.prog 9 #[.pointer (some ⟨b, 0, none⟩), .int .i64 2] w fun e w' => Went w b 3 al1 X (.tuple #[.int .u64 2, .nilIface]) e w' := by
  refine (alloc_new h 2 (by decide) rfl (by decide) (by decide)).mono ?_
  rintro e w' ⟨rfl, ⟨ws', _, hB⟩, hK⟩
  exact ⟨rfl, ⟨ws', X, hB, fun _ h => .inl h⟩, hK⟩

theorem al_two (b : Nat) (ws : List Int) (X : Nat → Prop) (w : World) (h : Bk w b ws 3 al1 X) :
    Calls Tryd.prog 11 #[.pointer (some ⟨b, 0, none⟩), .int .u64 2] w fun e w' => Went w b 4 al2 X .nilIface e w' := by
  refine (free_hit h 2 (by decide) ⟨2, 2, 0, true⟩ rfl (by decide) (by decide)).mono ?_
  rintro e w' ⟨rfl, ⟨X', hd, hB, hX⟩, hK⟩
  exact ⟨rfl, ⟨_, X', hB, hX⟩, hK⟩

theorem al_three (b : Nat) (ws : List Int) (X : Nat → Prop) (w : World) (h : Bk w b ws 4 al2 X) :
    Calls Tryd.prog 9 #[.pointer (some ⟨b, 0, none⟩), .int .i64 2] w fun e w' => Went w b 7 al3 X (.tuple #[.int .u64 4294967298, .nilIface]) e w' := by
  refine (alloc_pop h 2 (by decide) ⟨2, 2, 1, false⟩ (List.mem_singleton.2 rfl) rfl rfl (by decide) [] rfl (by decide)).mono ?_
  rintro e w' ⟨rfl, ⟨ws', _, hB⟩, hK⟩
  exact ⟨rfl, ⟨ws', X, hB, fun _ h => .inl h⟩, hK⟩

theorem al_four (b : Nat) (ws : List Int) (X : Nat → Prop) (w : World) (h : Bk w b ws 7 al3 X) :
    Calls Tryd.prog 13 #[.pointer (some ⟨b, 0, none⟩), .int .u64 2, .int .i64 0] w fun e w' => FaultOf w (fun x => .returned (.tuple #[.int .u64 0, x])) 2 5 e w' :=
  bk_load_miss 2 (by decide) rfl 0 w h

theorem al_used (b : Nat) (ws : List Int) (X : Nat → Prop) (w : World) (h : Bk w b ws 7 al3 X) :
    Calls Tryd.prog 16 #[.pointer (some ⟨b, 0, none⟩)] w fun e w' => e = .returned (.int .i64 3) ∧ Keeps (fun _ => False) w w' := used_bk w h

theorem no_stale (p : Nat) (i : Int) (w : World) (h : Whole w p 79 #[.int .i64 i, .int .i64 5]) :
    Calls Tryd.prog 10 #[.iface 77 (.pointer (some ⟨p, 0, none⟩))] w fun e w' => e = .returned (.int .i64 5) ∧ w = w' :=
  no_fault p 0 5 (by decide) (by decide) w (h.at_ 1)

/-- Blocks of the call's own: what comes of them is the call's own, too. -/
theorem own_step {w0 w w' : World} {X X' : Nat → Prop} (h0 : ∀ x, X x → w0.heap.size ≤ x) (k0 : Keeps (fun _ => False) w0 w) (hX : ∀ x, X' x → X x ∨ w.heap.size ≤ x) (k : Keeps X w w') :
    (∀ x, X' x → w0.heap.size ≤ x) ∧ Keeps (fun _ => False) w0 w' :=
  ⟨fun x hx => (hX x hx).elim (h0 x) (Nat.le_trans k0.size), k0.trans k fun x hx h => absurd (h0 x h) (by omega)⟩

set_option maxRecDepth 100000 in
set_option maxHeartbeats 1000000 in
theorem alive2 (w : World) (hg : Glob w) :
    Calls Tryd.prog 8 #[] w fun e w' => e = .returned (.bool true) ∧ Keeps (fun _ => False) w w' := by
  have g0 := Lib.hid hg
  clear hg
  go_enter Tryd.func8, Tryd.ntmps8
  go_wp2_with fail
  refine (on_82 _).mono ?_
  rintro e w1 ⟨p, b, X, rfl, hB, hX, hK⟩
  have B1 := Lib.hid hB
  have X1 := Lib.hid hX
  have K1 := Lib.hid hK
  clear hB hX hK
  go_wp2_with fail
  refine (al_one b X _ B1.out).mono ?_
  rintro e w2 ⟨rfl, ⟨ws2, Y2, hB, hX⟩, hK⟩
  have S2 := Lib.hid (own_step X1.out K1.out hX hK)
  have B2 := Lib.hid hB
  clear hB hX hK
  go_wp2_with fail
  refine (al_two b ws2 Y2 _ B2.out).mono ?_
  rintro e w3 ⟨rfl, ⟨ws3, Y3, hB, hX⟩, hK⟩
  have S3 := Lib.hid (own_step S2.out.1 S2.out.2 hX hK)
  have B3 := Lib.hid hB
  clear hB hX hK
  go_wp2_with fail
  refine (al_three b ws3 Y3 _ B3.out).mono ?_
  rintro e w4 ⟨rfl, ⟨ws4, Y4, hB, hX⟩, hK⟩
  have S4 := Lib.hid (own_step S3.out.1 S3.out.2 hX hK)
  have B4 := Lib.hid hB
  clear hB hX hK
  go_wp2_with fail
  refine (al_four b ws4 Y4 _ B4.out).mono ?_
  rintro e w5 ⟨q, rfl, hW, hK⟩
  have K5 := Lib.hid (S4.out.2.trans_ hK)
  have W5 := Lib.hid hW
  have B5 := Lib.hid (B4.out.same hK)
  have G5 := Lib.hid (g0.out.keeps K5.out id)
  clear hW hK
  go_wp2_with fail
  refine (no_nil _).mono ?_
  rintro e w' ⟨rfl, rfl⟩
  go_wp2_with fail
  refine (no_nil _).mono ?_
  rintro e w' ⟨rfl, rfl⟩
  go_wp2_with fail
  refine (no_nil _).mono ?_
  rintro e w' ⟨rfl, rfl⟩
  go_wp2_with fail
  refine (no_stale q 2 _ W5.out).mono ?_
  rintro e w' ⟨rfl, rfl⟩
  go_wp2_with fail
  refine (place_fault q 2 (.int .i64 5) _ G5.out W5.out).mono ?_
  rintro e w6 ⟨rfl, hK⟩
  have B6 := Lib.hid (B5.out.same hK)
  have K6 := Lib.hid (K5.out.trans_ hK)
  clear hK
  go_wp2_with fail
  refine (al_used b ws4 Y4 _ B6.out).mono ?_
  rintro e w7 ⟨rfl, hK⟩
  have K7 := Lib.hid (K6.out.trans_ hK)
  clear hK
  go_wp2_with fail
  go_ret
  exact ⟨rfl, K7.out⟩
end Go.Proofs.YtaamenhfngjobaaDoor
