/-
  concordlaw09.weight, Few by contract; what Few says of a transaction.
-/
import Derived.Test.YtpmbkeaimdeglaaDoorPgMem
import Derived.LoopTactic
import Derived.WalkKit
import Derived.BigGuard
import Derived.BigCall
import Derived.CellFam
import Derived.Deep.Draws
import Derived.Deep.QuietTactic
import Derived.BigQuiet
import Derived.Deep.RegionWith
import Derived.Deep.DeepCutAuto
import Derived.Deep.CutBlock
import Derived.Deep.CutRange
namespace Go.Proofs.YtpmbkeaimdeglaaDoor
open Go.RowKit Go.Extern.Stop Go.Stop Go.Extern

def wgo : Fo → Nat → Nat → Nat
  | .nil, n, _ => n
  | .cons _ B E R, n, d => if n < 1000 then wgo R (n + 1 + (if 30 < d + 1 then 1000 else min (wgo B 0 (d + 1)) 1000) + (if 30 < d + 1 then 1000 else min (wgo E 0 (d + 1)) 1000)) d else n
def wt (F : Fo) (d : Nat) : Nat := if 30 < d then 1000 else min (wgo F 0 d) 1000
theorem wgo_cons (s : St7) (B E R : Fo) (n d : Nat) : wgo (.cons s B E R) n d = if n < 1000 then wgo R (n + 1 + wt B (d + 1) + wt E (d + 1)) d else n := rfl
theorem wt_le (F : Fo) (d : Nat) : wt F d ≤ 1000 := by unfold wt; split <;> omega
theorem wgo_few : ∀ (F : Fo) (n d : Nat), d ≤ 30 → wgo F n d < 1000 → wgo F n d = n + F.size ∧ F.deep + d ≤ 30
  | .nil, n, d, hd, _ => ⟨rfl, by simp [Fo.deep]; exact hd⟩
  | .cons s B E R, n, d, hd, h => by
    rw [wgo_cons] at h ⊢
    by_cases hn : n < 1000
    · rw [if_pos hn] at h ⊢
      obtain ⟨h1, h2⟩ := wgo_few R _ d hd h
      have hB : wt B (d + 1) < 1000 := by omega
      have hE : wt E (d + 1) < 1000 := by omega
      have key : ∀ G : Fo, wt G (d + 1) < 1000 → d + 1 ≤ 30 ∧ wt G (d + 1) = wgo G 0 (d + 1) ∧ wgo G 0 (d + 1) < 1000 := fun G hG => by
        unfold wt at hG ⊢
        split at hG
        · omega
        · rename_i h30
          rw [if_neg h30]
          exact ⟨by omega, by omega, by omega⟩
      obtain ⟨k1, k2, k3⟩ := key B hB
      obtain ⟨_, k4, k5⟩ := key E hE
      obtain ⟨b1, b2⟩ := wgo_few B 0 (d + 1) k1 k3
      obtain ⟨e1, e2⟩ := wgo_few E 0 (d + 1) k1 k5
      refine ⟨?_, ?_⟩
      · simp only [Fo.size]; omega
      · simp only [Fo.deep]; omega
    · rw [if_neg hn] at h; omega
/-- A transaction that is gone through. -/
theorem few_says {F : Fo} (h : wt F 0 ≤ 250) : F.size ≤ 250 ∧ F.deep ≤ 30 := by
  unfold wt at h
  rw [if_neg (by omega)] at h
  obtain ⟨h1, h2⟩ := wgo_few F 0 0 (by omega) (by omega)
  omega
theorem wgo_big : ∀ (F : Fo) (n d : Nat), 1000 ≤ n → wgo F n d = n
  | .nil, n, d, _ => rfl
  | .cons s B E R, n, d, h => by rw [wgo_cons, if_neg (by omega)]

/-- A slice's length fits. -/
theorem SlOf.fit {w : World} {v : Value} {F : Fo} (h : SlOf w v F) : ∃ a c, v = .slice a F.len c ∧ F.len ≤ maxLen := by
  obtain ⟨a, c, h1, h2, _⟩ := h
  exact ⟨a, c, h1, Nat.le_trans h2.1 h2.2⟩
/-- A statement of a slice, in memory. -/
theorem SlOf.item {w : World} {v : Value} {F : Fo} (h : SlOf w v F) {i : Nat} (hi : i < F.len) : ∃ b o c s B E, v = .slice (some ⟨b, o, none⟩) F.len c ∧ F.items[i]? = some (s, B, E) ∧ ItemAt w (s, B, E) b (o + i * 9) := by
  obtain ⟨a, c, h1, h2, _, h4⟩ := h
  obtain ⟨b, o, rfl, hr⟩ := h4 (by omega)
  obtain ⟨⟨s, B, E⟩, hx⟩ : ∃ x, F.items[i]? = some x := ⟨_, List.getElem?_eq_getElem hi⟩
  exact ⟨b, o, c, s, B, E, h1, hx, hr.item hx⟩
theorem ItemAt.keeps {w w' : World} {x : St7 × Fo × Fo} {b o : Nat} {S : Nat → Prop} (h : ItemAt w x b o) (k : Keeps S w w') (hS : ∀ y, y < w.heap.size → ¬ S y) : ItemAt w' x b o := by
  obtain ⟨h1, ⟨v, h2, h3⟩, ⟨u, h4, h5⟩⟩ := h
  exact ⟨h1.keeps k hS, ⟨v, (k.cell (cell_lt h2) (hS _ (cell_lt h2))).trans h2, h3.keeps k hS⟩, ⟨u, (k.cell (cell_lt h4) (hS _ (cell_lt h4))).trans h4, h5.keeps k hS⟩⟩

set_option maxRecDepth 100000 in
set_option maxHeartbeats 1000000 in
theorem weight_any : ∀ (N : Nat) (F : Fo), F.size ≤ N → ∀ (w : World) (v : Value) (d : Nat), SlOf w v F → d ≤ 31 →
    Calls Tryd.prog 26 #[v, .int .i64 (d : Nat)] w fun e w' => e = .returned (.int .i64 (wt F d : Nat)) ∧ Keeps (fun _ => False) w w' := by
  intro N
  induction N using Nat.strongRecOn with
  | _ N ih =>
    intro F hN w v d h hd
    by_cases h30 : 30 < d
    · have e1 : wt F d = 1000 := by unfold wt; rw [if_pos h30]
      rw [e1]
      have b0 : (30 : Int) < (d : Int) := by omega
      clear ih h
      go_enter Tryd.func26, Tryd.ntmps26
      go_wp2_with fail
      go_ret
      exact ⟨rfl, Keeps.refl _ _⟩
    · have b0 : ¬ (30 : Int) < (d : Int) := by omega
      have it := Lib.hid (fun i (hi : i < F.len) => h.item hi)
      obtain ⟨a, c, rfl, hfit⟩ := h.fit
      obtain ⟨n, hn⟩ : ∃ n, F.len = n := ⟨_, rfl⟩
      rw [hn] at hfit it
      have hn' := Lib.hid (show F.items.length = n from hn)
      have IH := Lib.hid (fun G (hG : G.size < F.size) (V : World) (u : Value) (hu : SlOf V u G) => ih G.size (by omega) G (Nat.le_refl _) V u (d + 1) hu (by omega))
      have hw : wt F d = min (wgo (Fo.ofItems (F.items.drop 0)) 0 d) 1000 := by unfold wt; rw [if_neg h30, List.drop_zero, Fo.of_items]
      have hw' := Lib.hid hw
      have hmax : (n : Int) ≤ 9223372036854775807 := by unfold maxLen at hfit; omega
      have hd31 : (d : Int) ≤ 31 := by omega
      obtain ⟨r, hr⟩ : ∃ r, wt F d = r := ⟨_, rfl⟩
      rw [hr] at hw' ⊢
      clear ih h hn hw hr hfit
      rw [show F.len = n from hn'.out]
      go_enter Tryd.func26, Tryd.ntmps26
      go_wp2_with fail
      go_loopw [5, 6] (fun nv iv wr => ∃ i m : Nat, nv = .int .i64 m ∧ iv = .int .i64 i ∧ i ≤ n ∧ m ≤ 3000 ∧ wgo (Fo.ofItems (F.items.drop 0)) 0 d = wgo (Fo.ofItems (F.items.drop i)) m d ∧ Keeps (fun _ => False) w wr) (fun nv iv _ => n - (intOf iv).toNat)
      case atStart => exact ⟨0, 0, rfl, rfl, Nat.zero_le _, by omega, rfl, Keeps.refl _ _⟩
      case round =>
        obtain ⟨i, m, rfl, rfl, hi, hm, hg, hK⟩ := hrel
        have G1 := Lib.hid hg
        have K1 := Lib.hid hK
        clear hg hK
        have hm3 : (m : Int) ≤ 3000 := by omega
        by_cases hlt : i < n
        · by_cases hlm : m < 1000
          · have b1 : (i : Int) < (n : Int) := by omega
            have b2 : (m : Int) < 1000 := by omega
            obtain ⟨b, o, c', s, B, E, hv, hx, hat⟩ := it.out i hlt
            injection hv with hv _ hc
            subst hv
            subst hc
            obtain ⟨_, ⟨vB, cB, oB⟩, ⟨vE, cE, oE⟩⟩ := hat
            have sz := Fo.item_size hx
            have CB := Lib.hid (fun (V : World) (k : Keeps (fun _ => False) w V) => (IH.out B (by omega) V vB (oB.same k)).mono fun e w' (h : _ ∧ _) => (⟨h.1, k.trans h.2 fun _ _ => id⟩ : e = .returned (.int .i64 (wt B (d + 1) : Nat)) ∧ Keeps (fun _ => False) w w'))
            have CE := Lib.hid (fun (V : World) (k : Keeps (fun _ => False) w V) => (IH.out E (by omega) V vE (oE.same k)).mono fun e w' (h : _ ∧ _) => (⟨h.1, k.trans h.2 fun _ _ => id⟩ : e = .returned (.int .i64 (wt E (d + 1) : Nat)) ∧ Keeps (fun _ => False) w w'))
            have lB := wt_le B (d + 1)
            have lE := wt_le E (d + 1)
            have st : Hid (wgo (Fo.ofItems (F.items.drop i)) m d = wgo (Fo.ofItems (F.items.drop (i + 1))) (m + 1 + wt B (d + 1) + wt E (d + 1)) d) := Lib.hid (by
              have hlt' : i < F.items.length := by rw [hn'.out]; exact hlt
              rw [List.drop_eq_getElem_cons hlt', show F.items[i] = (s, B, E) from Option.some.inj ((List.getElem?_eq_getElem hlt').symm.trans hx)]
              show wgo (.cons s B E _) m d = _
              rw [wgo_cons, if_pos hlm])
            have eB : ∀ V, Keeps (fun _ => False) w V → V.cell? ⟨b, o + i * 9 + 7, none⟩ = some vB := fun V k => (k.cell (cell_lt cB) id).trans cB
            have eE : ∀ V, Keeps (fun _ => False) w V → V.cell? ⟨b, o + i * 9 + 8, none⟩ = some vE := fun V k => (k.cell (cell_lt cE) id).trans cE
            have eB' := Lib.hid eB
            have eE' := Lib.hid eE
            have f1 := eB wr K1.out
            have f2 := eE wr K1.out
            generalize hwB : wt B (d + 1) = xB at *
            generalize hwE : wt E (d + 1) = xE at *
            have hxB : (xB : Int) ≤ 1000 := by omega
            have hxE : (xE : Int) ≤ 1000 := by omega
            clear eB eE hx cB oB cE oE hwB hwE sz
            have wd : IntKind.i64.wrap ((d : Int) + 1) = ((d + 1 : Nat) : Int) := by rw [show (d : Int) + 1 = ((d + 1 : Nat) : Int) by omega]; exact IntWalk.i64_in _ (by omega)
            have W3 : Hid (IntKind.i64.wrap (IntKind.i64.wrap (IntKind.i64.wrap ((m : Int) + 1) + (xB : Int)) + (xE : Int)) = ((m + 1 + xB + xE : Nat) : Int)) := Lib.hid (by
              rw [IntWalk.i64_in ((m : Int) + 1) (by omega), IntWalk.i64_in ((m : Int) + 1 + (xB : Int)) (by omega), IntWalk.i64_in _ (by omega)]
              omega)
            go_upto_block 1 with fail
            go_cut [5] from 19 to 38 (fun nv wx => nv = .int .i64 ((m + 1 + xB + xE : Nat) : Int) ∧ Keeps (fun _ => False) w wx)
            case first =>
              go_wp2_with fail
              go_region_with (first
                | (go_at_call_of 26 vB; refine (CB.out _ ?_).mono ?_; (first | exact K1.out.drew | exact K1.out | assumption); rintro e w2 ⟨rfl, hK⟩; have g1 := eB'.out _ hK; have g2 := eE'.out _ hK)
                | (go_at_call_of 26 vE; refine (CE.out _ ?_).mono ?_; (first | exact K1.out.drew | exact K1.out | assumption); rintro e w2 ⟨rfl, hK⟩; have g1 := eB'.out _ hK; have g2 := eE'.out _ hK))
              all_goals
                go_wp2_with fail
                go_meet
                case rel => exact ⟨congrArg (Value.int .i64) W3.out, by assumption⟩
            case rest =>
              obtain ⟨rfl, hK⟩ := hcut
              have K2 := Lib.hid hK
              clear hK
              go_wp2_with fail
              go_roundw
              case rel => exact ⟨i + 1, m + 1 + xB + xE, rfl, by go_num, by omega, by omega, G1.out.trans st.out, K2.out⟩
              case measure => simp [intOf]; omega
          · have b1 : (i : Int) < (n : Int) := by omega
            have b2 : ¬ (m : Int) < 1000 := by omega
            have e := hw'.out
            rw [G1.out, wgo_big _ _ _ (by omega)] at e
            rw [Nat.min_eq_right (by omega)] at e
            have e' := Lib.hid e
            clear e
            by_cases b3 : (m : Int) = 1000
            · rw [b3]
              go_wp2_with fail
              go_ret
              exact ⟨by rw [e'.out]; rfl, K1.out⟩
            · have b4 : ¬ (m : Int) ≤ 1000 := by omega
              go_wp2_with fail
              go_ret
              exact ⟨by rw [e'.out]; rfl, K1.out⟩
        · obtain rfl : i = n := by omega
          have b1 : ¬ (i : Int) < (i : Int) := by omega
          have e := hw'.out
          rw [G1.out, List.drop_of_length_le (by rw [hn'.out]; exact Nat.le_refl _)] at e
          replace e : r = min m 1000 := e
          by_cases b3 : (m : Int) ≤ 1000
          · rw [Nat.min_eq_left (by omega)] at e
            have e' := Lib.hid e
            clear e
            go_wp2_with fail
            go_ret
            exact ⟨by rw [e'.out]; rfl, K1.out⟩
          · rw [Nat.min_eq_right (by omega)] at e
            have e' := Lib.hid e
            clear e
            go_wp2_with fail
            go_ret
            exact ⟨by rw [e'.out]; rfl, K1.out⟩

theorem few_any {w : World} {v : Value} {F : Fo} (h : SlOf w v F) :
    Calls Tryd.prog 8 #[v] w fun e w' => e = .returned (.bool (decide (wt F 0 ≤ 250))) ∧ Keeps (fun _ => False) w w' := by
  have cw := Lib.hid (weight_any F.size F (Nat.le_refl _) w v 0 h (by omega))
  obtain ⟨x, hx⟩ : ∃ x, wt F 0 = x := ⟨_, rfl⟩
  rw [hx] at cw ⊢
  clear h hx
  rw [show decide (x ≤ 250) = decide ((x : Int) ≤ 250) from decide_eq_decide.2 (by omega)]
  go_enter Tryd.func8, Tryd.ntmps8
  go_wp2_with (go_at_call 26; refine cw.out.mono ?_; rintro e w2 ⟨rfl, hK⟩; have K2 := Lib.hid hK; clear hK)
  go_ret
  exact ⟨rfl, K2.out⟩
end Go.Proofs.YtpmbkeaimdeglaaDoor
