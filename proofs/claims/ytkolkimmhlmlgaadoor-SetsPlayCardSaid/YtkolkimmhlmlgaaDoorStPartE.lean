/-
  slices.partitionEqualOrdered at uint64 by contract: what it answers, and leaves in the row, is what the library's plain function says.
-/
import Derived.Test.YtkolkimmhlmlgaaDoorStHeapS
import Derived.Sort.WalkC4
import Derived.Deep.CutRange
import Derived.Deep.CutBlock
namespace Go.Proofs.YtkolkimmhlmlgaaDoor
open Go.RowKit
open Go.Sort (swp scanUp scanDown scanUp_spec scanDown_spec partEqLoop partitionEqual partLoop partition)

set_option maxRecDepth 100000 in
set_option maxHeartbeats 1000000 in
theorem partEq_u {w : World} {g o n cap : Nat} {d : Array Int} (h : URow w g o n cap d) (a b p : Nat) (hap : a ≤ p) (hpb : p < b) (hb : b ≤ n) (hn : n < 4611686018427387904) :
    Calls Tryd.prog 62 #[.slice (some ⟨g, o, none⟩) n cap, .int .i64 a, .int .i64 b, .int .i64 p] w fun e w' => ∃ i : Nat, e = .returned (.int .i64 i) ∧ i = (partitionEqual ltI d a b p).1 ∧ Srt w w' g o n cap (partitionEqual ltI d a b p).2 := by
  have SX := Lib.hid (Srt.refl h)
  clear h
  have hd : partitionEqual ltI d a b p = partEqLoop ltI a (a + 1) (b - 1) (swp d a p) := rfl
  rw [hd]
  clear hd
  go_enter Tryd.func62, Tryd.ntmps62
  go_wp2_with fail
  go_cut [] from 11 (fun wx => Srt w wx g o n cap (swp d a p))
  case first =>
    obtain ⟨G, hG, c, f⟩ := SX.out.fam
    have hw := (SX.out.drewN 1).swap a p (by omega) (by omega)
    rw [← hG, ← hG] at hw
    have hw' := Lib.hid hw
    clear hw hG SX
    rcases Nat.eq_or_lt_of_le hap with he | hl
    · subst he
      go_region
      go_wp2
      go_meet
      case rel => exact hw'.out
    · have hne : ¬ a = p := by omega
      go_region
      go_wp2
      go_meet
      case rel => exact hw'.out
  case rest =>
    have SX := Lib.hid hcut
    clear hcut
    go_wp2_with fail
    go_loopw [9, 10] (fun iv jv wx => ∃ (i j : Nat) (dk : Array Int), iv = .int .i64 i ∧ jv = .int .i64 j ∧ a < i ∧ i ≤ j + 1 ∧ j < b ∧ Srt w wx g o n cap dk ∧ partEqLoop ltI a i j dk = partEqLoop ltI a (a + 1) (b - 1) (swp d a p)) (fun iv jv _ => (intOf jv + 2 - intOf iv).toNat)
    case atStart => exact ⟨a + 1, b - 1, swp d a p, by go_num, by congr 1; omega, by omega, by omega, by omega, SX.out, rfl⟩
    case round =>
      clear SX
      obtain ⟨i, j, dk, rfl, rfl, hai, hij, hjb, hS, hO⟩ := hrel
      have SX := Lib.hid hS
      have O1 := Lib.hid hO
      clear hS hO
      go_upto_block 2 with fail
      go_cut [9] from 29 to 82 (fun iv wx => ∃ i2 : Nat, iv = .int .i64 i2 ∧ i2 = scanUp (fun x => !ltI dk[a]! x) dk j i ∧ Srt w wx g o n cap dk)
      case first =>
        go_wp2_with fail
        go_loopw [9] (fun iv wx => ∃ k : Nat, iv = .int .i64 k ∧ i ≤ k ∧ k ≤ j + 1 ∧ scanUp (fun x => !ltI dk[a]! x) dk j k = scanUp (fun x => !ltI dk[a]! x) dk j i ∧ Srt w wx g o n cap dk) (fun iv _ => j + 1 - (intOf iv).toNat)
        case atStart => exact ⟨i, rfl, by omega, by omega, rfl, SX.out⟩
        case round =>
          clear SX
          obtain ⟨k, rfl, hk1, hk2, hE, hS⟩ := hrel
          obtain ⟨G, hG, c, f⟩ := hS.fam
          have S1 := Lib.hid hS
          have E1 := Lib.hid hE
          have G1 := Lib.hid hG
          clear hS hE hG
          by_cases hk : k ≤ j
          · go_wp2_with fail
            go_big_quiet ((go_at_call 61; exact Calls.quiet_of_same (less_u _ _ _)))
            go_wp2
            · have ht : (!ltI (G a) (G k)) = true := by assumption
              have e := E1.out.symm.trans (scanUp_go (fun x => !ltI dk[a]! x) dk j k hk (by simp only [← G1.out]; simpa using ht))
              have e' := Lib.hid e
              clear e
              go_roundw
              case rel => exact ⟨k + 1, by go_num, by omega, by omega, e'.out.symm, S1.out.drewN _⟩
              case measure => simp [intOf]; omega
            · have ht : (!ltI (G a) (G k)) = false := by assumption
              have e := E1.out.symm.trans (scanUp_end (fun x => !ltI dk[a]! x) dk j k (.inr (by simp only [← G1.out]; simpa using ht)))
              have e' := Lib.hid e
              clear e
              go_meet
              case rel => exact ⟨k, rfl, e'.out.symm, S1.out.drewN _⟩
          · have hd : decide ((k : Int) ≤ (j : Int)) = false := by simp; omega
            go_wp2_with fail
            go_big_quiet (fail)
            have e' := Lib.hid (E1.out.symm.trans (scanUp_end (fun x => !ltI dk[a]! x) dk j k (.inl (by omega))))
            go_wp2
            go_meet
            case rel => exact ⟨k, rfl, e'.out.symm, S1.out.drewN _⟩
      case rest =>
        obtain ⟨i2, rfl, hi2, hS⟩ := hcut
        have SX := Lib.hid hS
        clear hS
        have hi2a : i ≤ i2 := by rw [hi2]; exact (scanUp_spec (fun x => !ltI dk[a]! x) dk j _ i rfl).1
        have hi2b : i2 ≤ j + 1 := by rw [hi2]; exact (scanUp_spec (fun x => !ltI dk[a]! x) dk j _ i rfl).2.1 hij
        have hi2' := Lib.hid hi2
        clear hi2
        go_upto_block 4 with fail
        go_cut [10] from 29 to 82 (fun iv wx => ∃ j2 : Nat, iv = .int .i64 j2 ∧ j2 = scanDown (fun x => ltI dk[a]! x) dk i2 j ∧ Srt w wx g o n cap dk)
        case first =>
          go_wp2_with fail
          go_loopw [10] (fun iv wx => ∃ k : Nat, iv = .int .i64 k ∧ k ≤ j ∧ i2 ≤ k + 1 ∧ scanDown (fun x => ltI dk[a]! x) dk i2 k = scanDown (fun x => ltI dk[a]! x) dk i2 j ∧ Srt w wx g o n cap dk) (fun iv _ => (intOf iv).toNat)
          case atStart => exact ⟨j, rfl, by omega, by omega, rfl, SX.out⟩
          case round =>
            clear SX
            obtain ⟨k, rfl, hk1, hk2, hE, hS⟩ := hrel
            obtain ⟨G, hG, c, f⟩ := hS.fam
            have S1 := Lib.hid hS
            have E1 := Lib.hid hE
            have G1 := Lib.hid hG
            clear hS hE hG
            have wk : IntKind.i64.wrap ((k : Int) - 1) = (k : Int) - 1 := IntWalk.i64_in _ (by omega)
            by_cases hk : i2 ≤ k
            · go_wp2_with fail
              go_big_quiet ((go_at_call 61; exact Calls.quiet_of_same (less_u _ _ _)))
              go_wp2
              · have ht : ltI (G a) (G k) = true := by assumption
                have e := E1.out.symm.trans (scanDown_go (fun x => ltI dk[a]! x) dk i2 k hk (by omega) (by simp only [← G1.out]; simpa using ht))
                have e' := Lib.hid e
                clear e
                go_roundw
                case rel => exact ⟨k - 1, by congr 1; omega, by omega, by omega, e'.out.symm, S1.out.drewN _⟩
                case measure => simp [intOf]; omega
              · have ht : ltI (G a) (G k) = false := by assumption
                have e := E1.out.symm.trans (scanDown_end (fun x => ltI dk[a]! x) dk i2 k (.inr (by simp only [← G1.out]; simpa using ht)))
                have e' := Lib.hid e
                clear e
                go_meet
                case rel => exact ⟨k, rfl, e'.out.symm, S1.out.drewN _⟩
            · have hd : decide ((i2 : Int) ≤ (k : Int)) = false := by simp; omega
              go_wp2_with fail
              go_big_quiet (fail)
              have e' := Lib.hid (E1.out.symm.trans (scanDown_end (fun x => ltI dk[a]! x) dk i2 k (.inl (by omega))))
              go_wp2
              go_meet
              case rel => exact ⟨k, rfl, e'.out.symm, S1.out.drewN _⟩
        case rest =>
          obtain ⟨j2, rfl, hj2, hS⟩ := hcut
          have SX := Lib.hid hS
          clear hS
          have hj2a : j2 ≤ j := by rw [hj2]; exact (scanDown_spec (fun x => ltI dk[a]! x) dk i2 j).1
          have hj2b : i2 ≤ j2 + 1 := by rw [hj2]; exact (scanDown_spec (fun x => ltI dk[a]! x) dk i2 j).2.1 hi2b
          have hj2' := Lib.hid hj2
          clear hj2
          by_cases hgt : i2 > j2
          · have e := O1.out.symm.trans (partEq_break ltI a i j dk hi2'.out hj2'.out hgt)
            have e1 := Lib.hid (congrArg Prod.fst e)
            have e2 := Lib.hid (congrArg Prod.snd e)
            clear e
            go_wp2_with fail
            go_ret
            exact ⟨i2, rfl, e1.out.symm, e2.out ▸ SX.out⟩
          · have hlt := scans_lt ltI a i j dk (by omega) hi2'.out hj2'.out (by omega)
            have e := Lib.hid (O1.out.symm.trans (partEq_go ltI a i j dk hi2'.out hj2'.out hgt))
            have wj : IntKind.i64.wrap ((j2 : Int) - 1) = (j2 : Int) - 1 := IntWalk.i64_in _ (by omega)
            go_wp2_with fail
            go_cut [] from 29 to 82 (fun wx => Srt w wx g o n cap (swp dk i2 j2))
            case first =>
              obtain ⟨G, hG, c, f⟩ := SX.out.fam
              have hw := (SX.out.drewN 1).swap i2 j2 (by omega) (by omega)
              rw [← hG, ← hG] at hw
              have hw' := Lib.hid hw
              clear hw hG SX
              go_region
              go_wp2
              go_meet
              case rel => exact hw'.out
            case rest =>
              have SX := Lib.hid hcut
              clear hcut
              go_wp2_with fail
              go_roundw
              case rel => exact ⟨i2 + 1, j2 - 1, swp dk i2 j2, by go_num, by congr 1; omega, by omega, by omega, by omega, SX.out, e.out.symm⟩
              case measure => simp [intOf]; omega
end Go.Proofs.YtkolkimmhlmlgaaDoor
