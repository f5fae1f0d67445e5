/-
  slices.partitionOrdered at uint64 by contract: what it answers, and leaves in the row, is what the library's plain function says.
-/
import Derived.Test.YtkolkimmhlmlgaaDoorStPartE
import Derived.Sort.WalkC4
import Derived.Deep.CutRange
import Derived.Deep.CutBlock
namespace Go.Proofs.YtkolkimmhlmlgaaDoor
open Go.RowKit
open Go.Sort (swp scanUp scanDown scanUp_spec scanDown_spec partEqLoop partitionEqual partLoop partition)

set_option maxRecDepth 100000 in
set_option maxHeartbeats 2000000 in
theorem part_u {w : World} {g o n cap : Nat} {d : Array Int} (h : URow w g o n cap d) (a b p : Nat) (hap : a ≤ p) (hpb : p < b) (hb : b ≤ n) (hn : n < 4611686018427387904) :
    Calls Tryd.prog 63 #[.slice (some ⟨g, o, none⟩) n cap, .int .i64 a, .int .i64 b, .int .i64 p] w fun e w' => ∃ (i : Nat) (c : Bool), e = .returned (.tuple #[.int .i64 i, .bool c]) ∧ i = (partition ltI d a b p).1 ∧ c = (partition ltI d a b p).2.1 ∧ Srt w w' g o n cap (partition ltI d a b p).2.2 := by
  have SX := Lib.hid (Srt.refl h)
  clear h
  go_enter Tryd.func63, Tryd.ntmps63
  go_wp2_with fail
  go_cut [] from 12 (fun wx => Srt w wx g o n cap (swp d a p))
  case first =>
    obtain ⟨G, hG, c, f⟩ := SX.out.fam
    have hw := (SX.out.drewN 1).swap a p (by omega) (by omega)
    rw [← hG, ← hG] at hw
    have hw' := Lib.hid hw
    clear hw hG SX
    rcases Nat.eq_or_lt_of_le hap with he | hl
    · subst he
      go_region
      go_wp2
      go_meet
      case rel => exact hw'.out
    · have hne : ¬ a = p := by omega
      go_region
      go_wp2
      go_meet
      case rel => exact hw'.out
  case rest =>
    have SX := Lib.hid hcut
    clear hcut
    obtain ⟨dk, hdk⟩ : ∃ dk, dk = swp d a p := ⟨_, rfl⟩
    rw [← hdk] at SX
    have hdk' := Lib.hid hdk
    clear hdk
    obtain ⟨i, hi⟩ : ∃ i, i = a + 1 := ⟨_, rfl⟩
    obtain ⟨j, hj⟩ : ∃ j, j = b - 1 := ⟨_, rfl⟩
    have wi : IntKind.i64.wrap ((a : Int) + 1) = (i : Int) := by rw [show (a : Int) + 1 = (i : Int) by omega]; exact IntWalk.i64_in _ (by omega)
    have wj : IntKind.i64.wrap ((b : Int) - 1) = (j : Int) := by rw [show (b : Int) - 1 = (j : Int) by omega]; exact IntWalk.i64_in _ (by omega)
    have hij : i ≤ j + 1 := by omega
    have hai : a < i := by omega
    have hjb : j < b := by omega
    have hi' := Lib.hid hi
    have hj' := Lib.hid hj
    clear hi hj
    go_upto_block 0 with fail
    go_cut [10] from 30 (fun iv wx => ∃ i2 : Nat, iv = .int .i64 i2 ∧ i2 = scanUp (fun x => ltI x dk[a]!) dk j i ∧ Srt w wx g o n cap dk)
    case first =>
      go_wp2_with fail
      go_loopw [10] (fun iv wx => ∃ k : Nat, iv = .int .i64 k ∧ i ≤ k ∧ k ≤ j + 1 ∧ scanUp (fun x => ltI x dk[a]!) dk j k = scanUp (fun x => ltI x dk[a]!) dk j i ∧ Srt w wx g o n cap dk) (fun iv _ => j + 1 - (intOf iv).toNat)
      case atStart => exact ⟨i, rfl, by omega, by omega, rfl, SX.out⟩
      case round =>
        clear SX
        obtain ⟨k, rfl, hk1, hk2, hE, hS⟩ := hrel
        obtain ⟨G, hG, c, f⟩ := hS.fam
        have S1 := Lib.hid hS
        have E1 := Lib.hid hE
        have G1 := Lib.hid hG
        clear hS hE hG
        by_cases hk : k ≤ j
        · go_wp2_with fail
          go_big_quiet ((go_at_call 61; exact Calls.quiet_of_same (less_u _ _ _)))
          go_wp2
          · have ht : ltI (G k) (G a) = true := by assumption
            have e := E1.out.symm.trans (scanUp_go (fun x => ltI x dk[a]!) dk j k hk (by simp only [← G1.out]; simpa using ht))
            have e' := Lib.hid e
            clear e
            go_roundw
            case rel => exact ⟨k + 1, by go_num, by omega, by omega, e'.out.symm, S1.out.drewN _⟩
            case measure => simp [intOf]; omega
          · have ht : ltI (G k) (G a) = false := by assumption
            have e := E1.out.symm.trans (scanUp_end (fun x => ltI x dk[a]!) dk j k (.inr (by simp only [← G1.out]; simpa using ht)))
            have e' := Lib.hid e
            clear e
            go_meet
            case rel => exact ⟨k, rfl, e'.out.symm, S1.out.drewN _⟩
        · have hd : decide ((k : Int) ≤ (j : Int)) = false := by simp; omega
          go_wp2_with fail
          go_big_quiet (fail)
          have e' := Lib.hid (E1.out.symm.trans (scanUp_end (fun x => ltI x dk[a]!) dk j k (.inl (by omega))))
          go_wp2
          go_meet
          case rel => exact ⟨k, rfl, e'.out.symm, S1.out.drewN _⟩
    case rest =>
      obtain ⟨i2, rfl, hi2, hS⟩ := hcut
      have SX := Lib.hid hS
      clear hS
      have hi2a : i ≤ i2 := by rw [hi2]; exact (scanUp_spec (fun x => ltI x dk[a]!) dk j _ i rfl).1
      have hi2b : i2 ≤ j + 1 := by rw [hi2]; exact (scanUp_spec (fun x => ltI x dk[a]!) dk j _ i rfl).2.1 hij
      have hi2' := Lib.hid hi2
      clear hi2 wi wj
      go_upto_block 2 with fail
      go_cut [11] from 46 (fun iv wx => ∃ j2 : Nat, iv = .int .i64 j2 ∧ j2 = scanDown (fun x => !ltI x dk[a]!) dk i2 j ∧ Srt w wx g o n cap dk)
      case first =>
        go_wp2_with fail
        go_loopw [11] (fun iv wx => ∃ k : Nat, iv = .int .i64 k ∧ k ≤ j ∧ i2 ≤ k + 1 ∧ scanDown (fun x => !ltI x dk[a]!) dk i2 k = scanDown (fun x => !ltI x dk[a]!) dk i2 j ∧ Srt w wx g o n cap dk) (fun iv _ => (intOf iv).toNat)
        case atStart => exact ⟨j, rfl, by omega, by omega, rfl, SX.out⟩
        case round =>
          clear SX
          obtain ⟨k, rfl, hk1, hk2, hE, hS⟩ := hrel
          obtain ⟨G, hG, c, f⟩ := hS.fam
          have S1 := Lib.hid hS
          have E1 := Lib.hid hE
          have G1 := Lib.hid hG
          clear hS hE hG
          have wk : IntKind.i64.wrap ((k : Int) - 1) = (k : Int) - 1 := IntWalk.i64_in _ (by omega)
          by_cases hk : i2 ≤ k
          · go_wp2_with fail
            go_big_quiet ((go_at_call 61; exact Calls.quiet_of_same (less_u _ _ _)))
            go_wp2
            · have ht : (!ltI (G k) (G a)) = true := by assumption
              have e := E1.out.symm.trans (scanDown_go (fun x => !ltI x dk[a]!) dk i2 k hk (by omega) (by simp only [← G1.out]; simpa using ht))
              have e' := Lib.hid e
              clear e
              go_roundw
              case rel => exact ⟨k - 1, by congr 1; omega, by omega, by omega, e'.out.symm, S1.out.drewN _⟩
              case measure => simp [intOf]; omega
            · have ht : (!ltI (G k) (G a)) = false := by assumption
              have e := E1.out.symm.trans (scanDown_end (fun x => !ltI x dk[a]!) dk i2 k (.inr (by simp only [← G1.out]; simpa using ht)))
              have e' := Lib.hid e
              clear e
              go_meet
              case rel => exact ⟨k, rfl, e'.out.symm, S1.out.drewN _⟩
          · have hd : decide ((i2 : Int) ≤ (k : Int)) = false := by simp; omega
            go_wp2_with fail
            go_big_quiet (fail)
            have e' := Lib.hid (E1.out.symm.trans (scanDown_end (fun x => !ltI x dk[a]!) dk i2 k (.inl (by omega))))
            go_wp2
            go_meet
            case rel => exact ⟨k, rfl, e'.out.symm, S1.out.drewN _⟩
      case rest =>
        obtain ⟨j2, rfl, hj2, hS⟩ := hcut
        have SX := Lib.hid hS
        clear hS
        have hj2a : j2 ≤ j := by rw [hj2]; exact (scanDown_spec (fun x => !ltI x dk[a]!) dk i2 j).1
        have hj2b : i2 ≤ j2 + 1 := by rw [hj2]; exact (scanDown_spec (fun x => !ltI x dk[a]!) dk i2 j).2.1 hi2b
        have hj2' := Lib.hid hj2
        clear hj2
        by_cases hgt : i2 > j2
        · have hja : a ≤ j2 := by omega
          have e := Lib.hid (part_first_break ltI d a b p hi'.out hj'.out hdk'.out hi2'.out hj2'.out hgt)
          obtain ⟨G, hG, c, f⟩ := SX.out.fam
          have hw := (SX.out.drewN 1).swap j2 a (by omega) (by omega)
          rw [← hG, ← hG] at hw
          have hw' := Lib.hid hw
          clear hw hG SX
          rcases Nat.eq_or_lt_of_le hja with he | hl
          · subst he
            go_wp2_with fail
            go_region
            go_wp2
            go_ret2
            exact ⟨_, _, rfl, by rw [e.out], by rw [e.out], by rw [e.out]; exact hw'.out⟩
          · have hne : ¬ j2 = a := by omega
            go_wp2_with fail
            go_region
            go_wp2
            go_ret2
            exact ⟨_, _, rfl, by rw [e.out], by rw [e.out], by rw [e.out]; exact hw'.out⟩
        · have hlt := part_scans_lt ltI a i j dk (by omega) hi2'.out hj2'.out (by omega)
          have e := Lib.hid (part_first_go ltI d a b p hi'.out hj'.out hdk'.out hi2'.out hj2'.out hgt)
          have wj : IntKind.i64.wrap ((j2 : Int) - 1) = (j2 : Int) - 1 := IntWalk.i64_in _ (by omega)
          go_wp2_with fail
          go_cut [] from 81 (fun wx => Srt w wx g o n cap (swp dk i2 j2))
          case first =>
            obtain ⟨G, hG, c, f⟩ := SX.out.fam
            have hw := (SX.out.drewN 1).swap i2 j2 (by omega) (by omega)
            rw [← hG, ← hG] at hw
            have hw' := Lib.hid hw
            clear hw hG SX
            go_region
            go_wp2
            go_meet
            case rel => exact hw'.out
          case rest =>
            have SX := Lib.hid hcut
            clear hcut
            go_wp2_with fail
            obtain ⟨dz, hdz⟩ : ∃ dz, dz = partLoop ltI a (i2 + 1) (j2 - 1) (swp dk i2 j2) := ⟨_, rfl⟩
            have hdz' := Lib.hid hdz
            go_loopw [10, 11] (fun iv jv wx => ∃ (i j : Nat) (dk : Array Int), iv = .int .i64 i ∧ jv = .int .i64 j ∧ a < i ∧ i ≤ j + 1 ∧ j < b ∧ Srt w wx g o n cap dk ∧ partLoop ltI a i j dk = dz) (fun iv jv _ => (intOf jv + 2 - intOf iv).toNat)
            case atStart => exact ⟨i2 + 1, j2 - 1, swp dk i2 j2, by go_num, by congr 1; omega, by omega, by omega, by omega, SX.out, hdz'.out.symm⟩
            case round =>
              rw [← hdz] at e
              clear SX hdz hdz' hgt hlt wj hj2a hj2b hj2' hi2a hi2b hi2' hi' hj' hdk' hij hai hjb
              obtain ⟨i, j, dk, rfl, rfl, hai, hij, hjb, hS, hO⟩ := hrel
              have SX := Lib.hid hS
              have O1 := Lib.hid hO
              clear hS hO
              go_upto_block 6 with fail
              go_cut [10] from 99 to 152 (fun iv wx => ∃ i2 : Nat, iv = .int .i64 i2 ∧ i2 = scanUp (fun x => ltI x dk[a]!) dk j i ∧ Srt w wx g o n cap dk)
              case first =>
                go_wp2_with fail
                go_loopw [10] (fun iv wx => ∃ k : Nat, iv = .int .i64 k ∧ i ≤ k ∧ k ≤ j + 1 ∧ scanUp (fun x => ltI x dk[a]!) dk j k = scanUp (fun x => ltI x dk[a]!) dk j i ∧ Srt w wx g o n cap dk) (fun iv _ => j + 1 - (intOf iv).toNat)
                case atStart => exact ⟨i, rfl, by omega, by omega, rfl, SX.out⟩
                case round =>
                  clear SX
                  obtain ⟨k, rfl, hk1, hk2, hE, hS⟩ := hrel
                  obtain ⟨G, hG, c, f⟩ := hS.fam
                  have S1 := Lib.hid hS
                  have E1 := Lib.hid hE
                  have G1 := Lib.hid hG
                  clear hS hE hG
                  by_cases hk : k ≤ j
                  · go_wp2_with fail
                    go_big_quiet ((go_at_call 61; exact Calls.quiet_of_same (less_u _ _ _)))
                    go_wp2
                    · have ht : ltI (G k) (G a) = true := by assumption
                      have e := E1.out.symm.trans (scanUp_go (fun x => ltI x dk[a]!) dk j k hk (by simp only [← G1.out]; simpa using ht))
                      have e' := Lib.hid e
                      clear e
                      go_roundw
                      case rel => exact ⟨k + 1, by go_num, by omega, by omega, e'.out.symm, S1.out.drewN _⟩
                      case measure => simp [intOf]; omega
                    · have ht : ltI (G k) (G a) = false := by assumption
                      have e := E1.out.symm.trans (scanUp_end (fun x => ltI x dk[a]!) dk j k (.inr (by simp only [← G1.out]; simpa using ht)))
                      have e' := Lib.hid e
                      clear e
                      go_meet
                      case rel => exact ⟨k, rfl, e'.out.symm, S1.out.drewN _⟩
                  · have hd : decide ((k : Int) ≤ (j : Int)) = false := by simp; omega
                    go_wp2_with fail
                    go_big_quiet (fail)
                    have e' := Lib.hid (E1.out.symm.trans (scanUp_end (fun x => ltI x dk[a]!) dk j k (.inl (by omega))))
                    go_wp2
                    go_meet
                    case rel => exact ⟨k, rfl, e'.out.symm, S1.out.drewN _⟩
              case rest =>
                obtain ⟨i2, rfl, hi2, hS⟩ := hcut
                have SX := Lib.hid hS
                clear hS
                have hi2a : i ≤ i2 := by rw [hi2]; exact (scanUp_spec (fun x => ltI x dk[a]!) dk j _ i rfl).1
                have hi2b : i2 ≤ j + 1 := by rw [hi2]; exact (scanUp_spec (fun x => ltI x dk[a]!) dk j _ i rfl).2.1 hij
                have hi2' := Lib.hid hi2
                clear hi2
                go_upto_block 8 with fail
                go_cut [11] from 99 to 152 (fun iv wx => ∃ j2 : Nat, iv = .int .i64 j2 ∧ j2 = scanDown (fun x => !ltI x dk[a]!) dk i2 j ∧ Srt w wx g o n cap dk)
                case first =>
                  go_wp2_with fail
                  go_loopw [11] (fun iv wx => ∃ k : Nat, iv = .int .i64 k ∧ k ≤ j ∧ i2 ≤ k + 1 ∧ scanDown (fun x => !ltI x dk[a]!) dk i2 k = scanDown (fun x => !ltI x dk[a]!) dk i2 j ∧ Srt w wx g o n cap dk) (fun iv _ => (intOf iv).toNat)
                  case atStart => exact ⟨j, rfl, by omega, by omega, rfl, SX.out⟩
                  case round =>
                    clear SX
                    obtain ⟨k, rfl, hk1, hk2, hE, hS⟩ := hrel
                    obtain ⟨G, hG, c, f⟩ := hS.fam
                    have S1 := Lib.hid hS
                    have E1 := Lib.hid hE
                    have G1 := Lib.hid hG
                    clear hS hE hG
                    have wk : IntKind.i64.wrap ((k : Int) - 1) = (k : Int) - 1 := IntWalk.i64_in _ (by omega)
                    by_cases hk : i2 ≤ k
                    · go_wp2_with fail
                      go_big_quiet ((go_at_call 61; exact Calls.quiet_of_same (less_u _ _ _)))
                      go_wp2
                      · have ht : (!ltI (G k) (G a)) = true := by assumption
                        have e := E1.out.symm.trans (scanDown_go (fun x => !ltI x dk[a]!) dk i2 k hk (by omega) (by simp only [← G1.out]; simpa using ht))
                        have e' := Lib.hid e
                        clear e
                        go_roundw
                        case rel => exact ⟨k - 1, by congr 1; omega, by omega, by omega, e'.out.symm, S1.out.drewN _⟩
                        case measure => simp [intOf]; omega
                      · have ht : (!ltI (G k) (G a)) = false := by assumption
                        have e := E1.out.symm.trans (scanDown_end (fun x => !ltI x dk[a]!) dk i2 k (.inr (by simp only [← G1.out]; simpa using ht)))
                        have e' := Lib.hid e
                        clear e
                        go_meet
                        case rel => exact ⟨k, rfl, e'.out.symm, S1.out.drewN _⟩
                    · have hd : decide ((i2 : Int) ≤ (k : Int)) = false := by simp; omega
                      go_wp2_with fail
                      go_big_quiet (fail)
                      have e' := Lib.hid (E1.out.symm.trans (scanDown_end (fun x => !ltI x dk[a]!) dk i2 k (.inl (by omega))))
                      go_wp2
                      go_meet
                      case rel => exact ⟨k, rfl, e'.out.symm, S1.out.drewN _⟩
                case rest =>
                  obtain ⟨j2, rfl, hj2, hS⟩ := hcut
                  have SX := Lib.hid hS
                  clear hS
                  have hj2a : j2 ≤ j := by rw [hj2]; exact (scanDown_spec (fun x => !ltI x dk[a]!) dk i2 j).1
                  have hj2b : i2 ≤ j2 + 1 := by rw [hj2]; exact (scanDown_spec (fun x => !ltI x dk[a]!) dk i2 j).2.1 hi2b
                  have hj2' := Lib.hid hj2
                  clear hj2
                  by_cases hgt : i2 > j2
                  · have hja : a ≤ j2 := by omega
                    have e3 := O1.out.symm.trans (part_break ltI a i j dk hi2'.out hj2'.out hgt)
                    have e4 := e.out
                    rw [e3] at e4
                    have e5 := Lib.hid e4
                    clear e3 e4
                    obtain ⟨G, hG, c, f⟩ := SX.out.fam
                    have hw := (SX.out.drewN 1).swap j2 a (by omega) (by omega)
                    rw [← hG, ← hG] at hw
                    have hw' := Lib.hid hw
                    clear hw hG SX
                    rcases Nat.eq_or_lt_of_le hja with he | hl
                    · subst he
                      go_wp2_with fail
                      go_region
                      go_wp2
                      go_ret2
                      exact ⟨_, _, rfl, by rw [e5.out], by rw [e5.out], by rw [e5.out]; exact hw'.out⟩
                    · have hne : ¬ j2 = a := by omega
                      go_wp2_with fail
                      go_region
                      go_wp2
                      go_ret2
                      exact ⟨_, _, rfl, by rw [e5.out], by rw [e5.out], by rw [e5.out]; exact hw'.out⟩
                  · have hlt := part_scans_lt ltI a i j dk (by omega) hi2'.out hj2'.out (by omega)
                    have e3 := Lib.hid (O1.out.symm.trans (part_go ltI a i j dk hi2'.out hj2'.out hgt))
                    have wj : IntKind.i64.wrap ((j2 : Int) - 1) = (j2 : Int) - 1 := IntWalk.i64_in _ (by omega)
                    go_wp2_with fail
                    go_cut [] from 99 to 152 (fun wx => Srt w wx g o n cap (swp dk i2 j2))
                    case first =>
                      obtain ⟨G, hG, c, f⟩ := SX.out.fam
                      have hw := (SX.out.drewN 1).swap i2 j2 (by omega) (by omega)
                      rw [← hG, ← hG] at hw
                      have hw' := Lib.hid hw
                      clear hw hG SX
                      go_region
                      go_wp2
                      go_meet
                      case rel => exact hw'.out
                    case rest =>
                      have SX := Lib.hid hcut
                      clear hcut
                      go_wp2_with fail
                      go_roundw
                      case rel => exact ⟨i2 + 1, j2 - 1, swp dk i2 j2, by go_num, by congr 1; omega, by omega, by omega, by omega, SX.out, e3.out.symm⟩
                      case measure => simp [intOf]; omega
end Go.Proofs.YtkolkimmhlmlgaaDoor
