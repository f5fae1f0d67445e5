/-
  Strings as lists of bytes; rows of strings; concordref10.Lines by contract.
  concordref10.Words by contract.
  strings.FieldsFunc at blanks is the document's words; lines, one cut off ahead; the forms' words. Of no program.
  Lines as the program reads them, plainly: a line's words as a statement, form by form; blocks of lines, one within the other, are the document's stack of what is open. Of no program.
-/
import Derived.Test.YtcdlchcmidfhiaaGreatDoorTpNum
import Derived.Test.YtcdlchcmidfhiaaGreatDoorRkArg
import Derived.LoopTactic
import Derived.WalkKit
import Derived.BigGuard
import Derived.BigCall
import Derived.CellFam
import Derived.Deep.Draws
import Derived.Deep.QuietTactic
import Derived.BigQuiet
import Derived.Lib.Hide
import Derived.Lib.Strings
import Derived.Laws.DeepStrings4
import Derived.Lib.FieldsP
import Derived.Lib.Fields
import Derived.Lib.FieldsU
import Derived.Lib.Join
import Derived.Lib.IndexLaws

namespace Go.Proofs.YtcdlchcmidfhiaaGreatDoor
open Go.RowKit Go.Maps Go.Extern.Stop Go.Stop Go.Extern

/-- A string of bytes. -/
def mkB (l : Str) : ByteArray := ⟨l.toArray⟩
theorem mkB_size (l : Str) : (mkB l).size = l.length := by simp [mkB, ByteArray.size]
theorem mkB_list (l : Str) : (mkB l).toList = l := ByteArray.toList_mk l
theorem mkB_of (s : ByteArray) : mkB s.toList = s := by rw [ByteArray.toList_eq]; rfl
theorem mkB_extract (l : Str) (a b : Nat) : (mkB l).extract a b = mkB ((l.drop a).take (b - a)) := by
  rw [Lib.extract_eq]
  rfl
def strK : RK Str where
  T := 36
  e := 9
  size := 1
  bytes := 16
  z := .string ⟨#[]⟩
  cs := fun l => l.map fun x => .string (mkB x)
  app := fun l m => by simp
  len := fun l => by simp
  one := fun l u hu => by obtain ⟨b, _, rfl⟩ := List.mem_map.1 hu; rfl
  hu := Tryz.underlying36
  info := by kernel_rfl
  zs := rfl
  pos := by decide
  few := by decide
theorem str_at (l : Str) (i : Nat) (x : UInt8) (h : l[i]? = some x) (w : World) : (Instr.index 9 (.string (mkB l)) (.int .i64 (i : Int))).run Tryz.prog w = .ok (.int .u8 (x.toNat : Nat)) w := by
  obtain ⟨hi, rfl⟩ := List.getElem?_eq_some_iff.1 h
  rw [run_index_string w 9 (mkB l) .i64 (i : Int) Tryz.underlying9, dif_pos ⟨by omega, by rw [mkB_size]; omega⟩]
  rfl
theorem str_cut (l : Str) (a b : Nat) (h1 : a ≤ b) (h2 : b ≤ l.length) (w : World) : (Instr.slice 9 (.string (mkB l)) (some (.int .i64 (a : Int))) (some (.int .i64 (b : Int))) none).run Tryz.prog w = .ok (.string (mkB ((l.drop a).take (b - a)))) w := by
  rw [run_slice_string (P := Tryz.prog) w 9 (mkB l) .i64 .i64 (a : Int) (b : Int) Tryz.underlying9 (by omega) (by omega) (by rw [mkB_size]; omega)]
  simp only [Int.toNat_natCast]
  rw [mkB_extract]
theorem str_from (l : Str) (a : Nat) (h2 : a ≤ l.length) (w : World) : (Instr.slice 9 (.string (mkB l)) (some (.int .i64 (a : Int))) none none).run Tryz.prog w = .ok (.string (mkB (l.drop a))) w := by
  rw [run_slice_string_l (P := Tryz.prog) w 9 (mkB l) Tryz.underlying9 .i64 (a : Int) (by omega) (by rw [mkB_size]; omega)]
  simp only [Int.toNat_natCast]
  rw [mkB_extract, mkB_size, List.take_of_length_le (by simp)]
/-- One string that was laid. -/
theorem str_lit {w : World} {b : Nat} {x : Str} (h : Whole w b 9 #[.string (mkB x)]) : ∀ j u, (strK.cs [x])[j]? = some u → w.cell? ((⟨b, 0, none⟩ : Addr).add j) = some u := one_cell_new h

theorem row_lit1 {w : World} {g : Nat} {x : Str} (h : Whole w g 9 #[.string (mkB x)]) : strK.Row w (.slice (some ⟨g, 0, none⟩) 1 1) [x] :=
  ⟨rfl, .inr ⟨g, 1, _, rfl, Nat.zero_le _, h, Nat.le_refl _, (by decide : 1 ≤ maxLen), rfl, rfl⟩⟩

/-! ### lines -/
theorem split_stop {S cur : Str} {i : Nat} (h : S[i]? = some 10) : splitAll 10 cur (S.drop i) = cur :: splitAll 10 [] (S.drop (i + 1)) := by
  obtain ⟨hi, e⟩ := List.getElem?_eq_some_iff.1 h
  rw [List.drop_eq_getElem_cons hi, e]
  simp [splitAll]
theorem split_go {S cur : Str} {i : Nat} {x : UInt8} (h : S[i]? = some x) (hx : x ≠ 10) : splitAll 10 cur (S.drop i) = splitAll 10 (cur ++ [x]) (S.drop (i + 1)) := by
  obtain ⟨hi, e⟩ := List.getElem?_eq_some_iff.1 h
  rw [List.drop_eq_getElem_cons hi, e]
  simp [splitAll, hx]
theorem take_next {S : Str} {a i : Nat} {x : UInt8} (h : S[i]? = some x) (ha : a ≤ i) : (S.drop a).take (i + 1 - a) = (S.drop a).take (i - a) ++ [x] := by
  rw [show i + 1 - a = i - a + 1 by omega, List.take_add_one, List.getElem?_drop, show a + (i - a) = i by omega, h]
  rfl
theorem u8_eq (x : UInt8) (n : Nat) (h : n < 256) : ((x.toNat : Int) == (n : Int)) = decide (x = UInt8.ofNat n) := by
  by_cases e : x = UInt8.ofNat n
  · subst e
    simp [UInt8.toNat_ofNat']
    omega
  · have : ¬ x.toNat = n := fun hc => e (UInt8.toNat_inj.1 (by rw [hc, UInt8.toNat_ofNat']; omega))
    simp [e]
    omega

set_option maxRecDepth 100000 in
set_option maxHeartbeats 1000000 in
theorem rlines_any {w : World} (S : Str) (few : S.length ≤ 90000) :
    Calls Tryz.prog 15 #[.string (mkB S)] w fun e w' => ∃ u, e = .returned u ∧ Mine strK w w' u (linesT S) ∧ Keeps (fun _ => False) w w' := by
  have hz := mkB_size S
  obtain ⟨n, hn⟩ : ∃ n, S.length = n := ⟨_, rfl⟩
  rw [hn] at hz few
  have hn' := Lib.hid hn
  have n5 : (n : Int) ≤ 90000 := by omega
  have CU := Lib.hid (str_cut S)
  have CF := Lib.hid (str_from S)
  have CA := Lib.hid (str_at S)
  have SS : Hid (splitAll 10 [] S = ([] : List Str) ++ splitAll 10 ((S.drop 0).take (0 - 0)) (S.drop 0)) := Lib.hid rfl
  clear hn
  go_enter Tryz.func15, Tryz.ntmps15
  go_wp2_with fail
  go_loopw [3, 4, 5] (fun ov fv iv wr => ∃ (i a k c : Nat) (lo : Option Addr) (out : List Str), ov = .slice lo k c ∧ fv = .int .i64 (a : Int) ∧ iv = .int .i64 (i : Int) ∧ a ≤ i ∧ i ≤ n ∧ out.length = k ∧ k ≤ i ∧ splitAll 10 [] S = out ++ splitAll 10 ((S.drop a).take (i - a)) (S.drop i) ∧ Mine strK w wr (.slice lo k c) out ∧ Keeps (fun _ => False) w wr) (fun _ _ iv _ => n - (intOf iv).toNat)
  case atStart => exact ⟨0, 0, 0, 0, none, [], rfl, rfl, rfl, Nat.le_refl _, Nat.zero_le _, rfl, Nat.le_refl _, SS.out, ⟨World.ownsRow_nil .., fun g hg => by simp [Value.ownBlock] at hg⟩, Keeps.refl _ _⟩
  case round =>
    obtain ⟨i, a, k, c, lo, out, rfl, rfl, rfl, ha, hi, hk, hki, hS, hM, hK⟩ := hrel
    have S1 := Lib.hid hS
    have M1 := Lib.hid hM
    have K1 := Lib.hid hK
    have HK := Lib.hid hk
    clear hS hM hK hk
    by_cases hlt : i < n
    · have b1 : (i : Int) < (n : Int) := by omega
      obtain ⟨x, hx⟩ : ∃ x, S[i]? = some x := ⟨_, List.getElem?_eq_getElem (by rw [hn'.out]; exact hlt)⟩
      have at1 := CA.out i x hx
      have X1 := Lib.hid hx
      have ue := u8_eq x 10 (by omega)
      clear hx
      by_cases h10 : x = 10
      · have b2 : ((x.toNat : Int) == 10) = true := by rw [show (10 : Int) = ((10 : Nat) : Int) from rfl, ue]; exact decide_eq_true h10
        have cu := CU.out a i ha (by rw [hn'.out]; omega)
        have S2 : Hid (splitAll 10 [] S = (out ++ [(S.drop a).take (i - a)]) ++ splitAll 10 ((S.drop (i + 1)).take (i + 1 - (i + 1))) (S.drop (i + 1))) := Lib.hid (by
          have hx := X1.out
          rw [h10] at hx
          rw [S1.out, split_stop hx, Nat.sub_self, List.take_zero, List.append_assoc]
          rfl)
        generalize x.toNat = xn at *
        generalize (S.drop a).take (i - a) = cur at *
        clear X1 ue h10
        go_wp2_with (at_builtin; refine wpList_append_row strK rfl _ _ rfl w _ out [cur] rfl (M1.out.same ((Keeps.refl _ _).alloc _)) (K1.out.alloc _) _ rfl (row_lit1 (Whole.made wr 9 #[.string (mkB cur)])) (k + 1) (by rw [HK.out]; rfl) (by omega) ?_; intro ao cap w2 hM hK hK3; have M2 := Lib.hid hM; have K2 := Lib.hid hK; clear hM hK hK3)
        go_roundw
        case rel => exact ⟨i + 1, i + 1, k + 1, cap, ao, out ++ [cur], rfl, by go_num, by go_num, Nat.le_refl _, by omega, by rw [List.length_append, HK.out]; rfl, by omega, S2.out, M2.out, K2.out⟩
        case measure => simp [intOf]; omega
      · have b2 : ((x.toNat : Int) == 10) = false := by rw [show (10 : Int) = ((10 : Nat) : Int) from rfl, ue]; exact decide_eq_false h10
        have S2 : Hid (splitAll 10 [] S = out ++ splitAll 10 ((S.drop a).take (i + 1 - a)) (S.drop (i + 1))) := Lib.hid (by
          rw [S1.out, split_go X1.out h10, take_next X1.out ha])
        generalize x.toNat = xn at *
        clear X1 ue h10
        go_wp2_with fail
        go_roundw
        case rel => exact ⟨i + 1, a, k, c, lo, out, rfl, rfl, by go_num, by omega, by omega, HK.out, by omega, S2.out, M1.out, K1.out⟩
        case measure => simp [intOf]; omega
    · obtain rfl : i = n := by omega
      have b1 : ¬ (i : Int) < (i : Int) := by omega
      have e0 : S.drop i = [] := List.drop_of_length_le (by rw [hn'.out]; exact Nat.le_refl _)
      have e1 : (S.drop a).take (i - a) = S.drop a := List.take_of_length_le (by rw [List.length_drop, hn'.out]; exact Nat.le_refl _)
      have S2 : Hid (linesT S = dropLast0 (out ++ [S.drop a])) := Lib.hid (by unfold linesT; rw [S1.out, e0, e1]; rfl)
      clear e0 e1
      by_cases hai : a < i
      · have b3 : (a : Int) < (i : Int) := by omega
        have cf := CF.out a (by rw [hn'.out]; omega)
        have S3 : Hid (linesT S = out ++ [S.drop a]) := Lib.hid (by
          rw [S2.out]
          have hne : S.drop a ≠ [] := fun hc => by have := congrArg List.length hc; rw [List.length_drop, hn'.out] at this; simp at this; omega
          simp [dropLast0, hne])
        generalize S.drop a = cur at *
        go_wp2_with (at_builtin; refine wpList_append_row strK rfl _ _ rfl w _ out [cur] rfl (M1.out.same ((Keeps.refl _ _).alloc _)) (K1.out.alloc _) _ rfl (row_lit1 (Whole.made wr 9 #[.string (mkB cur)])) (k + 1) (by rw [HK.out]; rfl) (by omega) ?_; intro ao cap w2 hM hK hK3; have M2 := Lib.hid hM; have K2 := Lib.hid hK; clear hM hK hK3)
        go_ret
        exact ⟨_, rfl, by rw [S3.out]; exact M2.out, K2.out⟩
      · obtain rfl : a = i := by omega
        have S3 : Hid (linesT S = out) := Lib.hid (by
          rw [S2.out, List.drop_of_length_le (by rw [hn'.out]; exact Nat.le_refl _)]
          simp [dropLast0])
        go_wp2_with fail
        go_ret
        exact ⟨_, rfl, by rw [S3.out]; exact M1.out, K1.out⟩
end Go.Proofs.YtcdlchcmidfhiaaGreatDoor

namespace Go.Proofs.YtcdlchcmidfhiaaGreatDoor
open Go.RowKit Go.Maps Go.Extern.Stop Go.Stop Go.Extern

theorem mkB_app (a b : Str) : mkB a ++ mkB b = mkB (a ++ b) := by
  have h : (mkB a ++ mkB b).toList = a ++ b := by
    rw [ByteArray.toList_eq]
    simp [mkB]
  rw [← mkB_of (mkB a ++ mkB b), h]
theorem str_add (a b : Str) (h : a.length + b.length ≤ 200000) (w : World) : (binOp .add 9 (.string (mkB a)) (.string (mkB b))).run Tryz.prog w = .ok (.string (mkB (a ++ b))) w := by
  have h2 : ((mkB a).size : Int) + ((mkB b).size : Int) ≤ 9223372036854775807 := by rw [mkB_size, mkB_size]; omega
  rw [binOp_string_add]
  simp [Op.stringOp, mkB_app, h2]
theorem str_none (a : Str) : (mkB a).toList.isEmpty = a.isEmpty := by rw [mkB_list]

theorem split_stopb {S cur : Str} {i : Nat} {b : UInt8} (h : S[i]? = some b) : splitAll b cur (S.drop i) = cur :: splitAll b [] (S.drop (i + 1)) := by
  obtain ⟨hi, e⟩ := List.getElem?_eq_some_iff.1 h
  rw [List.drop_eq_getElem_cons hi, e]
  simp [splitAll]
theorem split_gob {S cur : Str} {i : Nat} {x b : UInt8} (h : S[i]? = some x) (hx : x ≠ b) : splitAll b cur (S.drop i) = splitAll b (cur ++ [x]) (S.drop (i + 1)) := by
  obtain ⟨hi, e⟩ := List.getElem?_eq_some_iff.1 h
  rw [List.drop_eq_getElem_cons hi, e]
  simp [splitAll, hx]
theorem take_one_at {S : Str} {i : Nat} {x : UInt8} (h : S[i]? = some x) : (S.drop i).take (i + 1 - i) = [x] := by
  have := take_next (a := i) h (Nat.le_refl _)
  rw [this, Nat.sub_self]
  rfl
abbrev nz (L : List Str) : List Str := L.filter fun w => !w.isEmpty

set_option maxRecDepth 100000 in
set_option maxHeartbeats 1000000 in
theorem rwords_any {w : World} (S : Str) (few : S.length ≤ 90000) :
    Calls Tryz.prog 16 #[.string (mkB S)] w fun e w' => ∃ u, e = .returned u ∧ Mine strK w w' u (wordsT S) ∧ Keeps (fun _ => False) w w' := by
  have hz := mkB_size S
  obtain ⟨n, hn⟩ : ∃ n, S.length = n := ⟨_, rfl⟩
  rw [hn] at hz few
  have hn' := Lib.hid hn
  have n5 : (n : Int) ≤ 90000 := by omega
  have CU := Lib.hid (str_cut S)
  have CA := Lib.hid (str_at S)
  have SA := Lib.hid str_add
  have SN := Lib.hid str_none
  have e0 : (.string ⟨#[]⟩ : Value) = .string (mkB []) := rfl
  have E0 := Lib.hid e0
  clear hn e0
  go_enter Tryz.func16, Tryz.ntmps16
  go_wp2_with fail
  go_loopw [3, 4, 5] (fun ov wv iv wr => ∃ (i k c : Nat) (lo : Option Addr) (out : List Str) (cur : Str), ov = .slice lo k c ∧ wv = .string (mkB cur) ∧ iv = .int .i64 (i : Int) ∧ i ≤ n + 1 ∧ out.length = k ∧ k ≤ i ∧ (i ≤ n → wordsT S = out ++ nz (splitAll 32 cur (S.drop i))) ∧ (i = n + 1 → wordsT S = out) ∧ cur.length ≤ i ∧ Mine strK w wr (.slice lo k c) out ∧ Keeps (fun _ => False) w wr) (fun _ _ iv _ => n + 1 - (intOf iv).toNat)
  case atStart => exact ⟨0, 0, 0, none, [], [], rfl, rfl, rfl, Nat.zero_le _, rfl, Nat.le_refl _, fun _ => rfl, (fun h => by omega), Nat.le_refl _, ⟨World.ownsRow_nil .., fun g hg => by simp [Value.ownBlock] at hg⟩, Keeps.refl _ _⟩
  case round =>
    obtain ⟨i, k, c, lo, out, cur, rfl, rfl, rfl, hi, hk, hki, hS, hS2, hcl, hM, hK⟩ := hrel
    have S1 := Lib.hid hS
    have S2 := Lib.hid hS2
    have M1 := Lib.hid hM
    have K1 := Lib.hid hK
    have HK := Lib.hid hk
    clear hS hS2 hM hK hk
    by_cases hle : i ≤ n
    · have b0 : (i : Int) ≤ (n : Int) := by omega
      have sn := SN.out cur
      by_cases hlt : i < n
      · have b1 : (i : Int) < (n : Int) := by omega
        obtain ⟨x, hx⟩ : ∃ x, S[i]? = some x := ⟨_, List.getElem?_eq_getElem (by rw [hn'.out]; exact hlt)⟩
        have at1 := CA.out i x hx
        have X1 := Lib.hid hx
        have ue := u8_eq x 32 (by omega)
        clear hx
        by_cases h32 : x = 32
        · have b2 : ((x.toNat : Int) != 32) = false := by
            have : ((x.toNat : Int) == 32) = true := by rw [show (32 : Int) = ((32 : Nat) : Int) from rfl, ue]; exact decide_eq_true h32
            simp only [bne, this, Bool.not_true]
          have S3 : Hid (wordsT S = out ++ nz (cur :: splitAll 32 [] (S.drop (i + 1)))) := Lib.hid (by
            have hx := X1.out
            rw [h32] at hx
            rw [S1.out hle, split_stopb hx])
          generalize x.toNat = xn at *
          clear X1 ue h32
          by_cases hc : cur = []
          · have b3 : cur.isEmpty = true := by rw [hc]; rfl
            rw [b3] at sn
            have S4 : Hid (wordsT S = out ++ nz (splitAll 32 [] (S.drop (i + 1)))) := Lib.hid (by rw [S3.out, hc]; rfl)
            clear hc b3
            go_wp2_with fail
            go_roundw
            case rel => exact ⟨i + 1, k, c, lo, out, [], rfl, rfl, by go_num, by omega, HK.out, by omega, fun _ => S4.out, (fun h => by omega), Nat.zero_le _, M1.out, K1.out⟩
            case measure => first | (simp [intOf]; done) | (simp [intOf]; omega)
          · have b3 : cur.isEmpty = false := by cases h : cur with | nil => exact absurd h hc | cons y t => rfl
            rw [b3] at sn
            have S4 : Hid (wordsT S = (out ++ [cur]) ++ nz (splitAll 32 [] (S.drop (i + 1)))) := Lib.hid (by rw [S3.out]; simp [nz, b3])
            clear hc b3
            go_wp2_with (at_builtin; refine wpList_append_row strK rfl _ _ rfl w _ out [cur] rfl (M1.out.same ((Keeps.refl _ _).alloc _)) (K1.out.alloc _) _ rfl (row_lit1 (Whole.made wr 9 #[.string (mkB cur)])) (k + 1) (by rw [HK.out]; rfl) (by omega) ?_; intro ao cap w2 hM hK hK3; have M2 := Lib.hid hM; have K2 := Lib.hid hK; clear hM hK hK3)
            go_roundw
            case rel => exact ⟨i + 1, k + 1, cap, ao, out ++ [cur], [], rfl, rfl, by go_num, by omega, by rw [List.length_append, HK.out]; rfl, by omega, fun _ => S4.out, (fun h => by omega), Nat.zero_le _, M2.out, K2.out⟩
            case measure => first | (simp [intOf]; done) | (simp [intOf]; omega)
        · have b2 : ((x.toNat : Int) != 32) = true := by
            have : ((x.toNat : Int) == 32) = false := by rw [show (32 : Int) = ((32 : Nat) : Int) from rfl, ue]; exact decide_eq_false h32
            simp only [bne, this, Bool.not_false]
          have ex : (mkB S).extract i (i + 1) = mkB [x] := by rw [mkB_extract, take_one_at X1.out]
          have ap : mkB cur ++ mkB [x] = mkB (cur ++ [x]) := mkB_app _ _
          have zx : (mkB [x]).size = 1 := rfl
          have zc := mkB_size cur
          have hcl2 : (cur.length : Int) ≤ 90001 := by omega
          have S4 : Hid (wordsT S = out ++ nz (splitAll 32 (cur ++ [x]) (S.drop (i + 1)))) := Lib.hid (by rw [S1.out hle, split_gob X1.out h32])
          have ei : IntKind.i64.wrap ((i : Int) + 1) = ((i + 1 : Nat) : Int) := by rw [show (i : Int) + 1 = ((i + 1 : Nat) : Int) by omega]; exact IntWalk.i64_in _ (by omega)
          generalize x.toNat = xn at *
          clear X1 ue h32
          go_wp2_with fail
          go_roundw
          case rel => exact ⟨i + 1, k, c, lo, out, cur ++ [x], rfl, rfl, by go_num, by omega, HK.out, by omega, fun _ => S4.out, (fun h => by omega), (by simp; omega), M1.out, K1.out⟩
          case measure => first | (simp [intOf]; done) | (simp [intOf]; omega)
      · obtain rfl : i = n := by omega
        have b1 : ¬ (i : Int) < (i : Int) := by omega
        have S3 : Hid (wordsT S = out ++ nz [cur]) := Lib.hid (by rw [S1.out hle, List.drop_of_length_le (by rw [hn'.out]; exact Nat.le_refl _)]; rfl)
        by_cases hc : cur = []
        · have b3 : cur.isEmpty = true := by rw [hc]; rfl
          rw [b3] at sn
          have S4 : Hid (wordsT S = out) := Lib.hid (by rw [S3.out, hc]; simp [nz])
          clear hc b3
          go_wp2_with fail
          go_roundw
          case rel => exact ⟨i + 1, k, c, lo, out, [], rfl, rfl, by go_num, by omega, HK.out, by omega, (fun h => by omega), fun _ => S4.out, Nat.zero_le _, M1.out, K1.out⟩
          case measure => first | (simp [intOf]; done) | (simp [intOf]; omega)
        · have b3 : cur.isEmpty = false := by cases h : cur with | nil => exact absurd h hc | cons y t => rfl
          rw [b3] at sn
          have S4 : Hid (wordsT S = out ++ [cur]) := Lib.hid (by rw [S3.out]; simp [nz, b3])
          clear hc b3
          go_wp2_with (at_builtin; refine wpList_append_row strK rfl _ _ rfl w _ out [cur] rfl (M1.out.same ((Keeps.refl _ _).alloc _)) (K1.out.alloc _) _ rfl (row_lit1 (Whole.made wr 9 #[.string (mkB cur)])) (k + 1) (by rw [HK.out]; rfl) (by omega) ?_; intro ao cap w2 hM hK hK3; have M2 := Lib.hid hM; have K2 := Lib.hid hK; clear hM hK hK3)
          go_roundw
          case rel => exact ⟨i + 1, k + 1, cap, ao, out ++ [cur], [], rfl, rfl, by go_num, by omega, by rw [List.length_append, HK.out]; rfl, by omega, (fun h => by omega), fun _ => S4.out, Nat.zero_le _, M2.out, K2.out⟩
          case measure => first | (simp [intOf]; done) | (simp [intOf]; omega)
    · obtain rfl : i = n + 1 := by omega
      have b0 : ¬ (((n + 1 : Nat) : Int)) ≤ (n : Int) := by omega
      have b01 : ¬ ((n : Int) + 1) ≤ (n : Int) := by omega
      go_wp2_with fail
      go_ret
      exact ⟨_, rfl, by rw [S2.out (by simp)]; exact M1.out, K1.out⟩
end Go.Proofs.YtcdlchcmidfhiaaGreatDoor

namespace Go.Proofs.YtcdlchcmidfhiaaGreatDoor
open Go.RowKit

/-! ### runes -/
theorem dec_blank (n b0 b1 b2 b3 : Nat) : ((Lib.decodeN n b0 b1 b2 b3).1 = 32 → b0 = 32 ∧ (Lib.decodeN n b0 b1 b2 b3).2 = 1) ∧ ((Lib.decodeN n b0 b1 b2 b3).1 ≠ 32 → b0 ≠ 32) := by
  unfold Lib.decodeN
  repeat' split
  all_goals first
    | exact ⟨fun h => ⟨h, rfl⟩, fun h => h⟩
    | exact ⟨fun h => absurd h (by simp only; omega), fun _ => by omega⟩
theorem dec_conts (n b0 b1 b2 b3 : Nat) :
    (2 ≤ (Lib.decodeN n b0 b1 b2 b3).2 → b1 ≠ 32 ∧ 1 < n) ∧ (3 ≤ (Lib.decodeN n b0 b1 b2 b3).2 → b2 ≠ 32 ∧ 2 < n) ∧ (4 ≤ (Lib.decodeN n b0 b1 b2 b3).2 → b3 ≠ 32 ∧ 3 < n) ∧ (Lib.decodeN n b0 b1 b2 b3).2 ≤ 4 ∧ 1 ≤ (Lib.decodeN n b0 b1 b2 b3).2 := by
  unfold Lib.decodeN
  repeat' split
  all_goals (simp only; omega)
theorem get_at (S : Str) (i : Nat) (x : UInt8) (h : S[i]? = some x) : (mkB S).get! i = x := by
  obtain ⟨hi, rfl⟩ := List.getElem?_eq_some_iff.1 h
  show (S.toArray)[i]! = _
  simp [hi]
/-- A rune at a place: it is a blank, of one byte, or none of its bytes is one. -/
theorem rune_at (S : Str) (p : Nat) (hp : p < S.length) : ((Utf8.decode (mkB S) p).1 = 32 → S[p]? = some 32 ∧ (Utf8.decode (mkB S) p).2 = 1) ∧
    ((Utf8.decode (mkB S) p).1 ≠ 32 → 1 ≤ (Utf8.decode (mkB S) p).2 ∧ p + (Utf8.decode (mkB S) p).2 ≤ S.length ∧ (32 : UInt8) ∉ (S.drop p).take (Utf8.decode (mkB S) p).2) := by
  have hz := mkB_size S
  rw [Lib.decode_at, hz]
  have B := dec_blank (S.length - p) ((mkB S).get! p).toNat ((mkB S).get! (p + 1)).toNat ((mkB S).get! (p + 2)).toNat ((mkB S).get! (p + 3)).toNat
  have C := dec_conts (S.length - p) ((mkB S).get! p).toNat ((mkB S).get! (p + 1)).toNat ((mkB S).get! (p + 2)).toNat ((mkB S).get! (p + 3)).toNat
  generalize Lib.decodeN (S.length - p) ((mkB S).get! p).toNat ((mkB S).get! (p + 1)).toNat ((mkB S).get! (p + 2)).toNat ((mkB S).get! (p + 3)).toNat = d at B C
  obtain ⟨r, k⟩ := d
  simp only at B C ⊢
  have h0 : S[p]? = some S[p] := List.getElem?_eq_getElem hp
  have g0 := get_at S p _ h0
  obtain ⟨b1, b2⟩ := B
  obtain ⟨c1, c2, c3, c4, c5⟩ := C
  refine ⟨fun e => ?_, fun e => ?_⟩
  · obtain ⟨e1, e2⟩ := b1 e
    rw [g0] at e1
    exact ⟨by rw [h0]; exact congrArg some (UInt8.toNat_inj.1 (by rw [e1]; rfl)), e2⟩
  · have hk : p + k ≤ S.length := by
      rcases Nat.lt_or_ge k 2 with q | q
      · omega
      · have := (c1 q).2
        rcases Nat.lt_or_ge k 3 with q | q
        · omega
        · have := (c2 q).2
          rcases Nat.lt_or_ge k 4 with q | q
          · omega
          · have := (c3 q).2
            omega
    refine ⟨c5, hk, fun hm => ?_⟩
    obtain ⟨j, hj⟩ := List.getElem?_of_mem hm
    have hjk : j < k := by
      have := (List.getElem?_eq_some_iff.1 hj).1
      rw [List.length_take] at this
      omega
    rw [List.getElem?_take, if_pos hjk, List.getElem?_drop] at hj
    have gj := get_at S (p + j) 32 hj
    have hj4 : j = 0 ∨ j = 1 ∨ j = 2 ∨ j = 3 := by omega
    rcases hj4 with rfl | rfl | rfl | rfl
    · have := b2 e
      rw [show p + 0 = p from rfl] at gj
      rw [gj] at this
      exact this rfl
    · have := (c1 (by omega)).1
      rw [gj] at this
      exact this rfl
    · have := (c2 (by omega)).1
      rw [gj] at this
      exact this rfl
    · have := (c3 (by omega)).1
      rw [gj] at this
      exact this rfl

theorem split_over {b : UInt8} : ∀ (k : Nat) (l cur : Str), b ∉ l.take k → splitAll b cur l = splitAll b (cur ++ l.take k) (l.drop k)
  | 0, l, cur, _ => by simp
  | k + 1, [], cur, _ => by simp
  | k + 1, x :: t, cur, h => by
    rw [List.take_succ_cons] at h
    have h1 : x ≠ b := fun e => h (by simp [e])
    simp only [splitAll]
    rw [if_neg h1, split_over k t (cur ++ [x]) fun hc => h (List.mem_cons_of_mem _ hc)]
    simp
def isBl (r : Nat) : Bool := r == 32
/-- A piece, from one place to another. -/
def pc (S : Str) (x : Nat × Nat) : Str := (S.drop x.1).take (x.2 - x.1)
def nonE (L : List Str) : List Str := L.filter fun w => !w.isEmpty
theorem nonE_cons (w : Str) (L : List Str) : nonE (w :: L) = if w = [] then nonE L else w :: nonE L := by
  unfold nonE
  cases w <;> simp
theorem pc_ne {S : Str} {a p : Nat} (h : a < p) (hp : p ≤ S.length) : pc S (a, p) ≠ [] := by
  intro e
  have := congrArg List.length e
  simp [pc] at this
  omega
theorem pc_grow {S : Str} {a p k : Nat} (h : a ≤ p) : pc S (a, p) ++ (S.drop p).take k = pc S (a, p + k) := by
  unfold pc
  simp only
  rw [show p + k - a = (p - a) + k by omega, List.take_add, List.drop_drop, show a + (p - a) = p by omega]
/-- The pass over the runes. -/
theorem spans_words (S : Str) : ∀ (f p : Nat) (st : Option Nat) (acc : List (Nat × Nat)), S.length ≤ p + f → p ≤ S.length → (∀ a, st = some a → a < p) →
    acc.map (pc S) ++ nonE (splitAll 32 (match st with | some a => pc S (a, p) | none => []) (S.drop p)) = (Lib.closeSpans (mkB S) (Lib.spansFromP isBl (mkB S) f p st acc)).map (pc S)
  | f, p, st, acc, h, hp, hst => by
    have hz := mkB_size S
    by_cases hlt : p < S.length
    · obtain ⟨f, rfl⟩ : ∃ g, f = g + 1 := ⟨f - 1, by omega⟩
      obtain ⟨r1, r2⟩ := rune_at S p hlt
      simp only [Lib.spansFromP]
      rw [if_pos (by rw [hz]; exact hlt)]
      generalize hd : Utf8.decode (mkB S) p = d at r1 r2
      obtain ⟨r, k⟩ := d
      simp only at r1 r2 ⊢
      by_cases hr : r = 32
      · obtain ⟨e1, e2⟩ := r1 hr
        subst e2
        rw [if_pos (by simp [isBl, hr]), split_stopb e1, nonE_cons]
        cases st with
        | none =>
          simp only
          rw [if_pos trivial, ← spans_words S f (p + 1) none acc (by omega) (by omega) (fun a h => by cases h)]
        | some a =>
          have ha := hst a rfl
          simp only
          rw [if_neg (pc_ne ha hp), ← spans_words S f (p + 1) none (acc ++ [(a, p)]) (by omega) (by omega) (fun a h => by cases h)]
          simp
      · obtain ⟨e1, e2, e3⟩ := r2 hr
        rw [if_neg (by simp [isBl, hr]), split_over k _ _ e3, List.drop_drop]
        cases st with
        | none =>
          simp only
          rw [← spans_words S f (p + k) (some p) acc (by omega) e2 (fun a h => by cases h; omega)]
          simp only
          rw [show pc S (p, p + k) = [] ++ (S.drop p).take k by unfold pc; simp]
        | some a =>
          have ha := hst a rfl
          simp only
          rw [← spans_words S f (p + k) (some a) acc (by omega) e2 (fun b h => by cases h; omega), pc_grow (by omega)]
    · obtain rfl : p = S.length := by omega
      rw [Lib.spansFromP_end _ _ _ _ _ _ (by rw [hz]; exact hlt), List.drop_eq_nil_of_le (Nat.le_refl _)]
      cases st with
      | none => simp [splitAll, nonE, Lib.closeSpans]
      | some a =>
        have ha := hst a rfl
        have := pc_ne ha (Nat.le_refl _)
        simp [splitAll, nonE, Lib.closeSpans, this, hz]
termination_by f => f

/-- strings.FieldsFunc at blanks: the words. -/
theorem fields_words (S : Str) : Lib.goFieldsP isBl (mkB S) = (wordsT S).map mkB := by
  have h := spans_words S S.length 0 none [] (by omega) (Nat.zero_le _) (fun a h => by cases h)
  simp only [List.map_nil, List.nil_append, List.drop_zero] at h
  unfold Lib.goFieldsP Lib.spansOfP wordsT
  unfold nonE at h
  rw [h, mkB_size, List.map_map]
  refine List.map_congr_left fun x _ => ?_
  rw [mkB_extract]
  rfl

/-! ### lines -/
theorem lines_nil : linesT [] = [] := rfl
theorem lines_cons {x : UInt8} {t : Str} (h : (10 : UInt8) ∉ x :: t) : linesT (x :: t) = [x :: t] := by
  unfold linesT dropLast0
  rw [split_no _ _ h]
  simp
theorem lines_cut {l t : Str} (h : (10 : UInt8) ∉ l) : linesT (l ++ 10 :: t) = l :: linesT t := by
  unfold linesT dropLast0
  rw [split_at l [] t h, List.nil_append]
  have hne := split_ne (b := 10) t []
  cases hs : splitAll 10 [] t with
  | nil => exact absurd hs hne
  | cons y z =>
    rw [List.getLast?_cons_cons]
    split
    · rw [List.dropLast_cons_cons]
    · rfl

/-! ### forms -/
def fw : Fm → Str
  | .c => [67]
  | .a => [65]
  | .b => [66]
  | .r => [82]
  | .n => [78]
  | .o => [123]
/-- The words of a kind's form. -/
def fmW (k : Nat) : List Str := kindT.getD k [] :: (formT.getD k []).map fw
theorem forms_fields : ∀ k, k < 17 → 0 < k → Lib.fields (joinT (fmW k)) = fmW k := by decide
theorem join_lib : ∀ L : List Str, Lib.join L [32] = joinT L
  | [] => rfl
  | [w] => by simp [Lib.join, joinT]
  | w :: x :: t => by
    have ih := join_lib (x :: t)
    unfold Lib.join at ih ⊢
    simp only [joinT, ← ih]
    simp [List.intercalate]
end Go.Proofs.YtcdlchcmidfhiaaGreatDoor

namespace Go.Proofs.YtcdlchcmidfhiaaGreatDoor

/-! ### a word for a word of a form -/
def cnt (w : Str) : Bool := (rdR w == 0) && decide (0 ≤ rdN w)
def tkS (f w : Str) (s : St7) : St7 :=
  if f = [67] then { s with c := rdN w } else if f = [82] then { s with r := rdR w } else if f = [78] then { s with ar := rdR w, an := rdN w } else if f = [65] then { s with ar := rdR w, an := rdN w } else if f = [66] then { s with br := rdR w, bn := rdN w } else s
def tkB (f w : Str) : Bool :=
  if f = [67] then rdOk w && cnt w else if f = [82] then rdOk w && decide (0 < rdR w) && (rdN w == 0) else if f = [78] then rdOk w && cnt w else if f = [65] then rdOk w else if f = [66] then rdOk w else w == f

theorem plain_arg {w : Str} {m : Nat} (h : plainT w = some m) : argR w = some (0, (m : Int)) := by
  obtain ⟨h1, h2, h3, h4, h5⟩ := plain_canon h
  cases w with
  | nil => exact absurd rfl h2
  | cons c t =>
    have hc := of_decide_eq_true (h3 c (by simp))
    unfold argR
    split
    · rename_i heq; injection heq with heq; subst heq; simp at hc
    · rename_i heq; injection heq with heq; subst heq; simp at hc
    · rw [h]
theorem arg_plain {w : Str} {n : Int} (h : argR w = some (0, n)) (hn : 0 ≤ n) : ∃ m : Nat, n = m ∧ plainT w = some m := by
  unfold argR at h
  split at h
  · rename_i b t
    split at h
    · cases h
    · rename_i hr
      have go : ∀ k : Int, some ((regR [114, b] : Int), k) = some (0, n) → False := fun k e => by injection e with e; injection e with e _; omega
      split at h
      · exact (go _ h).elim
      · split at h
        · cases h
        · split at h
          · cases h
          · exact (go _ h).elim
  · split at h
    · cases h
    · rename_i m hm
      split at h
      · injection h with h; injection h with _ h; omega
      · cases h
  · split at h
    · cases h
    · rename_i m hm
      injection h with h
      injection h with _ h
      exact ⟨m, h.symm, hm⟩
theorem cnt_yes {w : Str} (h : (rdOk w && cnt w) = true) : ∃ m : Nat, plainT w = some m ∧ rdN w = m ∧ rdR w = 0 := by
  rw [Bool.and_eq_true] at h
  obtain ⟨h1, h2⟩ := h
  unfold cnt at h2
  rw [Bool.and_eq_true, beq_iff_eq] at h2
  obtain ⟨h3, h4⟩ := h2
  have ha := wr_len h1
  rw [h3] at ha
  obtain ⟨m, e1, e2⟩ := arg_plain (by simpa using ha) (of_decide_eq_true h4)
  exact ⟨m, e2, e1, h3⟩
theorem cnt_no {w : Str} (h : (rdOk w && cnt w) = false) : plainT w = none := by
  cases hp : plainT w with
  | none => rfl
  | some m =>
    obtain ⟨h1, h2, h3⟩ := rd_some (plain_arg hp)
    rw [h1] at h
    have : cnt w = true := by unfold cnt; simp only [Bool.and_eq_true, beq_iff_eq, decide_eq_true_eq]; exact ⟨by omega, by omega⟩
    rw [this] at h
    cases h
theorem reg_arg {w : Str} {k : Nat} (h : regR w = k) (hk : k ≠ 0) : argR w = some ((k : Int), 0) := by
  match w, h with
  | [a, b], h =>
    have h' := h
    unfold regR at h'
    simp only at h'
    split at h'
    · rename_i hc
      obtain ⟨rfl, _⟩ := hc
      simp only [argR, h]
      rw [if_neg hk]
    · omega
  | [], h => simp [regR] at h; omega
  | [_], h => simp [regR] at h; omega
  | _ :: _ :: _ :: _, h => simp [regR] at h; omega
theorem arg_reg {w : Str} {r : Nat} (h : argR w = some ((r : Int), 0)) (hr : 0 < r) : regR w = r := by
  unfold argR at h
  split at h
  · rename_i b t
    split at h
    · cases h
    · rename_i hz
      cases t with
      | nil =>
        simp only at h
        injection h with h
        injection h with h _
        omega
      | cons x t =>
        simp only at h
        cases hp : plainT t with
        | none => rw [hp] at h; cases h
        | some n =>
          rw [hp] at h
          simp only at h
          split at h
          · cases h
          · rename_i hx
            injection h with h
            injection h with _ h
            have : ¬ n < 1 := fun q => hx (.inl q)
            split at h <;> omega
  · split at h
    · cases h
    · split at h
      · injection h with h; injection h with h _; omega
      · cases h
  · split at h
    · cases h
    · injection h with h; injection h with h _; omega

theorem tk_yes {f : Fm} {w : Str} {s : St7} (hs : f = .n → s.ar = 0) (h : tkB (fw f) w = true) : readF s f w = some (tkS (fw f) w s) := by
  cases f
  · simp only [tkB, fw, ↓reduceIte] at h
    obtain ⟨m, h1, h2, h3⟩ := cnt_yes h
    simp [readF, tkS, fw, h1, h2]
  · simp only [tkB, fw, ↓reduceIte, show ([65] : Str) ≠ [67] by decide, show ([65] : Str) ≠ [82] by decide, show ([65] : Str) ≠ [78] by decide] at h
    simp [readF, tkS, fw, wr_len h]
  · simp only [tkB, fw, ↓reduceIte, show ([66] : Str) ≠ [67] by decide, show ([66] : Str) ≠ [82] by decide, show ([66] : Str) ≠ [78] by decide, show ([66] : Str) ≠ [65] by decide] at h
    simp [readF, tkS, fw, wr_len h]
  · simp only [tkB, fw, ↓reduceIte, show ([82] : Str) ≠ [67] by decide, Bool.and_eq_true, beq_iff_eq] at h
    obtain ⟨⟨h1, h2⟩, h3⟩ := h
    have ha := wr_len h1
    rw [h3] at ha
    have e := arg_reg ha (of_decide_eq_true h2)
    have hz : rdR w ≠ 0 := by have := of_decide_eq_true h2; omega
    simp [readF, tkS, fw, e, hz]
  · simp only [tkB, fw, ↓reduceIte, show ([78] : Str) ≠ [67] by decide, show ([78] : Str) ≠ [82] by decide] at h
    obtain ⟨m, h1, h2, h3⟩ := cnt_yes h
    have := hs rfl
    simp [readF, tkS, fw, h1, h2, h3, this]
  · simp [tkB, fw] at h
    simp [readF, tkS, fw, h]
theorem tk_no {f : Fm} {w : Str} (s : St7) (h : tkB (fw f) w = false) : readF s f w = none := by
  cases f
  · simp only [tkB, fw, ↓reduceIte] at h
    simp [readF, cnt_no h]
  · simp only [tkB, fw, ↓reduceIte, show ([65] : Str) ≠ [67] by decide, show ([65] : Str) ≠ [82] by decide, show ([65] : Str) ≠ [78] by decide] at h
    cases ha : argR w with
    | none => simp [readF, ha]
    | some x => obtain ⟨r, n⟩ := x; rw [(rd_some ha).1] at h; cases h
  · simp only [tkB, fw, ↓reduceIte, show ([66] : Str) ≠ [67] by decide, show ([66] : Str) ≠ [82] by decide, show ([66] : Str) ≠ [78] by decide, show ([66] : Str) ≠ [65] by decide] at h
    cases ha : argR w with
    | none => simp [readF, ha]
    | some x => obtain ⟨r, n⟩ := x; rw [(rd_some ha).1] at h; cases h
  · simp only [tkB, fw, ↓reduceIte, show ([82] : Str) ≠ [67] by decide] at h
    by_cases hr : regR w = 0
    · simp [readF, hr]
    · obtain ⟨h1, h2, h3⟩ := rd_some (reg_arg (w := w) rfl hr)
      rw [h1, h3] at h
      have : 0 < rdR w := by omega
      simp [this] at h
  · simp only [tkB, fw, ↓reduceIte, show ([78] : Str) ≠ [67] by decide, show ([78] : Str) ≠ [82] by decide] at h
    simp [readF, cnt_no h]
  · simp [tkB, fw] at h
    simp [readF, h]

/-! ### a line's words as a statement -/
def frm : List Str → List Str → St7 → Option St7
  | f :: fs, w :: ws, s => if tkB f w then frm fs ws (tkS f w s) else none
  | _, _, s => some s
def stK0 (k : Nat) : St7 := { st0 with k := (k : Int) }
/-- What words of a kind's form say. -/
def fmd (k : Nat) (ws : List Str) : Option St7 := if ws.length = (fmW k).length then frm (fmW k) ws (stK0 k) else none

theorem frm_read : ∀ (fs : List Fm) (ws : List Str) (s : St7), ws.length = fs.length → (∀ f ∈ fs, f = .n → s.ar = 0 ∧ ∀ g ∈ fs, g ≠ .a) → frm (fs.map fw) ws s = readFs s fs ws
  | [], [], s, _, _ => rfl
  | [], w :: ws, s, h, _ => by simp at h
  | f :: fs, [], s, h, _ => by simp at h
  | f :: fs, w :: ws, s, h, hn => by
    simp only [List.map_cons, frm, readFs]
    cases hb : tkB (fw f) w with
    | false => rw [tk_no s hb]; simp
    | true =>
      rw [tk_yes (fun e => (hn f (by simp) e).1) hb, if_pos rfl]
      simp only [Option.bind_some]
      refine frm_read fs ws _ (by simpa using h) fun g hg e => ?_
      obtain ⟨h1, h2⟩ := hn g (List.mem_cons_of_mem _ hg) e
      refine ⟨?_, fun q hq => h2 q (List.mem_cons_of_mem _ hq)⟩
      have hfa := h2 f (by simp)
      cases f <;> simp [tkS, fw, h1] at hfa ⊢
      simp only [tkB, fw, ↓reduceIte, show ([78] : Str) ≠ [67] by decide, show ([78] : Str) ≠ [82] by decide] at hb
      obtain ⟨m, q1, q2, q3⟩ := cnt_yes hb
      omega
theorem reads_len : ∀ (fs : List Fm) (ws : List Str) (s : St7), ws.length ≠ fs.length → readFs s fs ws = none
  | [], [], s, h => absurd rfl h
  | [], w :: ws, s, _ => rfl
  | f :: fs, [], s, _ => rfl
  | f :: fs, w :: ws, s, h => by
    simp only [readFs]
    cases readF s f w with
    | none => rfl
    | some s' => exact reads_len fs ws s' (by simpa using h)
theorem kind_lit : ∀ k, k < 17 → (kindT.getD k [] ≠ [67] ∧ kindT.getD k [] ≠ [82] ∧ kindT.getD k [] ≠ [78] ∧ kindT.getD k [] ≠ [65] ∧ kindT.getD k [] ≠ [66]) := by decide
theorem form_n : ∀ k, k < 17 → ∀ f ∈ formT.getD k [], f = .n → ∀ g ∈ formT.getD k [], g ≠ .a := by decide
theorem fmd_eq {k : Nat} (hk : k < 17) (ws : List Str) : fmd k ws = match ws with
    | [] => none
    | w :: t => if w = kindT.getD k [] then readFs (stK0 k) (formT.getD k []) t else none := by
  obtain ⟨h1, h2, h3, h4, h5⟩ := kind_lit k hk
  unfold fmd fmW
  cases ws with
  | nil => simp
  | cons w t =>
    simp only [List.length_cons, List.length_map, Nat.add_right_cancel_iff]
    by_cases hl : t.length = (formT.getD k []).length
    · rw [if_pos hl]
      simp only [frm]
      have hb : tkB (kindT.getD k []) w = (w == kindT.getD k []) := by
        unfold tkB
        rw [if_neg h1, if_neg h2, if_neg h3, if_neg h4, if_neg h5]
      have hs : tkS (kindT.getD k []) w (stK0 k) = stK0 k := by
        unfold tkS
        rw [if_neg h1, if_neg h2, if_neg h3, if_neg h4, if_neg h5]
      rw [hb, hs]
      by_cases hw : w = kindT.getD k []
      · rw [if_pos hw, if_pos (by simpa using hw)]
        exact frm_read _ t _ hl fun f hf e => ⟨rfl, form_n k hk f hf e⟩
      · rw [if_neg hw, if_neg (by simpa using hw)]
    · rw [if_neg hl]
      split
      · exact (reads_len _ t _ hl).symm
      · rfl
theorem kinds_of : ∀ k, k < 17 → 0 < k → kindOf (kindT.getD k []) = k := by decide
theorem kind_back {w : Str} (h : kindOf w ≠ 0) : kindOf w < 17 ∧ w = kindT.getD (kindOf w) [] := by
  unfold kindOf at h ⊢
  split at h
  · exact absurd rfl h
  · rename_i hw
    rw [if_neg hw]
    cases hf : (List.range 17).filter fun k => kindT.getD k [] = w with
    | nil => rw [hf] at h; exact absurd rfl h
    | cons a t =>
      have hm : a ∈ (List.range 17).filter fun k => kindT.getD k [] = w := by rw [hf]; simp
      rw [List.mem_filter] at hm
      simp only [List.headD_cons]
      exact ⟨by simpa using hm.1, (of_decide_eq_true hm.2).symm⟩
/-- The first kind whose form fits. -/
theorem stmt_hit {k : Nat} {ws : List Str} {s : St7} (hk : k < 17) (h0 : 0 < k) (h : fmd k ws = some s) : stmtT ws = some s := by
  rw [fmd_eq hk] at h
  cases ws with
  | nil => cases h
  | cons w t =>
    simp only at h
    split at h
    · rename_i hw
      simp only [stmtT]
      rw [hw, kinds_of k hk h0, if_neg (by omega)]
      exact h
    · cases h
theorem stmt_miss {ws : List Str} (h : ∀ k, k < 17 → 0 < k → fmd k ws = none) : stmtT ws = none := by
  cases ws with
  | nil => rfl
  | cons w t =>
    simp only [stmtT]
    split
    · rfl
    · rename_i hk
      obtain ⟨h1, h2⟩ := kind_back hk
      have := h (kindOf w) h1 (by omega)
      rw [fmd_eq h1] at this
      simp only at this
      rw [if_pos h2] at this
      exact this
/-- What is read lies within bounds. -/
theorem frm_k : ∀ (fs ws : List Str) (s s' : St7), frm fs ws s = some s' → s'.k = s.k
  | [], ws, s, s', h => by simp only [frm] at h; injection h with h; rw [h]
  | f :: fs, [], s, s', h => by simp only [frm] at h; injection h with h; rw [h]
  | f :: fs, w :: ws, s, s', h => by
    simp only [frm] at h
    split at h
    · rw [frm_k fs ws _ s' h]
      unfold tkS
      repeat' split
      all_goals rfl
    · cases h

/-! ### words that are told apart by their line -/
def Wo (ws : List Str) : Prop := ∀ w ∈ ws, w ≠ [] ∧ (32 : UInt8) ∉ w
theorem split_memb {b : UInt8} : ∀ (s cur : Str), b ∉ cur → ∀ w ∈ splitAll b cur s, b ∉ w
  | [], cur, h, w, hw => by simp [splitAll] at hw; subst hw; exact h
  | x :: t, cur, h, w, hw => by
    simp only [splitAll] at hw
    split at hw
    · rcases List.mem_cons.1 hw with rfl | hw
      · exact h
      · exact split_memb t [] (by simp) w hw
    · rename_i hx
      exact split_memb t (cur ++ [x]) (by simp only [List.mem_append, List.mem_singleton, not_or]; exact ⟨h, fun e => hx e.symm⟩) w hw
theorem wo_words (s : Str) : Wo (wordsT s) := by
  intro w hw
  unfold wordsT at hw
  rw [List.mem_filter] at hw
  exact ⟨by have := hw.2; intro e; subst e; simp at this, split_memb s [] (by simp) w hw.1⟩
theorem words_back : ∀ {ws : List Str}, Wo ws → (splitAll 32 [] (joinT ws)).filter (fun w => !w.isEmpty) = ws
  | [], _ => rfl
  | [w], h => by
    obtain ⟨h1, h2⟩ := h w (by simp)
    simp only [joinT]
    rw [split_no w [] h2]
    simp [h1]
  | w :: x :: t, h => by
    obtain ⟨h1, h2⟩ := h w (by simp)
    simp only [joinT]
    rw [split_at w [] _ h2, List.filter_cons, words_back (ws := x :: t) fun y hy => h y (List.mem_cons_of_mem _ hy)]
    simp [h1]
theorem join_eq {ws vs : List Str} (h : Wo ws) (h' : Wo vs) : joinT ws = joinT vs ↔ ws = vs :=
  ⟨fun e => by rw [← words_back h, e, words_back h'], fun e => by rw [e]⟩
def elseW : List Str := [[125], [101, 108, 115, 101], [123]]
def endW : List Str := [[125]]
/-- Which end of a block a line's words are. -/
def endN (ws : List Str) : Nat := if ws = [] then 1 else if ws = elseW then 2 else if ws = endW then 3 else 0

/-! ### lines, one by one -/
def LW (S : Str) : List (List Str) := (linesT S).map wordsT
def Fails (L : List (List Str)) (i : Nat) (st : PS) (j : Nat) : Prop := runT L i st = .inr j ∨ ∃ st', runT L i st = .inl st' ∧ st'.op ≠ [] ∧ j = i + L.length + 1
/-- The next line that has words: those words, what is left, its number. -/
def NextTo (S : Str) (i : Nat) (ws : List Str) (S' : Str) (j : Nat) : Prop :=
  (ws = [] ∧ S' = [] ∧ j = i + (LW S).length + 1 ∧ ∀ st, runT (LW S) i st = .inl st) ∨
  (ws ≠ [] ∧ Wo ws ∧ S'.length < S.length ∧ 0 < j ∧ j + (LW S').length = i + (LW S).length ∧ ∀ st, runT (LW S) i st = runT (ws :: LW S') (j - 1) st)
theorem LW_nil : LW [] = [] := rfl
theorem next_end (i : Nat) : NextTo [] i [] [] (i + 1) := .inl ⟨rfl, rfl, rfl, fun _ => rfl⟩
/-- A line that is cut off. -/
theorem next_cut {S l S' : Str} {i : Nat} (h : linesT S = l :: linesT S') (hl : S'.length < S.length) :
    (wordsT l ≠ [] → NextTo S i (wordsT l) S' (i + 1)) ∧ (wordsT l = [] → ∀ ws T j, NextTo S' (i + 1) ws T j → NextTo S i ws T j) := by
  have e : LW S = wordsT l :: LW S' := by unfold LW; rw [h]; rfl
  refine ⟨fun hw => .inr ⟨hw, wo_words l, hl, by omega, ?_, fun st => ?_⟩, fun hw ws T j hn => ?_⟩
  · rw [e, List.length_cons]; omega
  · rw [e]; rfl
  · have hr : ∀ st, runT (LW S) i st = runT (LW S') (i + 1) st := fun st => by rw [e, hw]; rfl
    rcases hn with ⟨h1, h2, h3, h4⟩ | ⟨h1, h2, h3, h4, h5, h6⟩
    · exact .inl ⟨h1, h2, by rw [e, List.length_cons]; omega, fun st => by rw [hr, h4]⟩
    · exact .inr ⟨h1, h2, by omega, h4, by rw [e, List.length_cons]; omega, fun st => by rw [hr, h6]⟩
theorem cut_miss {S : Str} (h0 : S ≠ []) (h : (10 : UInt8) ∉ S) : linesT S = S :: linesT [] := by
  cases S with
  | nil => exact absurd rfl h0
  | cons x t => exact lines_cons h
theorem cut_hit {S : Str} {n : Nat} (h1 : S[n]? = some 10) (h2 : ∀ k, k < n → S[k]? ≠ some 10) : linesT S = S.take n :: linesT (S.drop (n + 1)) := by
  obtain ⟨hn, e⟩ := List.getElem?_eq_some_iff.1 h1
  have hs : S = S.take n ++ 10 :: S.drop (n + 1) := by
    rw [← e, ← List.drop_eq_getElem_cons hn, List.take_append_drop]
  have hm : (10 : UInt8) ∉ S.take n := by
    intro hm
    obtain ⟨j, hj⟩ := List.getElem?_of_mem hm
    rw [List.getElem?_take] at hj
    split at hj
    · exact h2 j (by omega) hj
    · cases hj
  exact (congrArg linesT hs).trans (lines_cut hm)

/-! ### blocks -/
/-- What a block of lines is, from a place on: its statements, how it ends (1: at the text's end; 2: at an else; 3: closed; 0: it can't be), what is left, the last line's number. -/
def BlkTo (S : Str) (i : Nat) (F : Fo) (k : Nat) (S' : Str) (j : Nat) : Prop :=
  (k = 1 ∧ S' = [] ∧ j = i + (LW S).length + 1 ∧ ∀ st, runT (LW S) i st = .inl (putT F st)) ∨
  (k = 2 ∧ S'.length < S.length ∧ 0 < j ∧ j + (LW S').length = i + (LW S).length ∧ ∀ st, runT (LW S) i st = runT (elseW :: LW S') (j - 1) (putT F st)) ∨
  (k = 3 ∧ S'.length < S.length ∧ 0 < j ∧ j + (LW S').length = i + (LW S).length ∧ ∀ st, runT (LW S) i st = runT (endW :: LW S') (j - 1) (putT F st)) ∨
  (k = 0 ∧ ∀ st, Fails (LW S) i st j)
/-- Behind some statements of it. -/
def Behind (S : Str) (i : Nat) (F : Fo) (S' : Str) (j : Nat) : Prop := S'.length ≤ S.length ∧ j + (LW S').length = i + (LW S).length ∧ ∀ st, runT (LW S) i st = runT (LW S') j (putT F st)
theorem Behind.start (S : Str) (i : Nat) : Behind S i .nil S i := ⟨Nat.le_refl _, rfl, fun st => by rw [put_nil]⟩
theorem Behind.fails {S S' : Str} {i j n : Nat} {F : Fo} (h : Behind S i F S' j) (hf : ∀ st, Fails (LW S') j st n) : ∀ st, Fails (LW S) i st n := by
  obtain ⟨_, h2, h3⟩ := h
  intro st
  rcases hf (putT F st) with hc | ⟨st', e1, e2, e3⟩
  · exact .inl (by rw [h3, hc])
  · exact .inr ⟨st', by rw [h3, e1], e2, by omega⟩
theorem step_blk {ws : List Str} {s : St7} (h : stmtT ws = some s) (st : PS) : stepT st ws = some (if isBlk s.k then ⟨⟨s, .nil, .nil, false⟩ :: st.op, st.p⟩ else putT (one1 s .nil .nil) st) := by
  cases ws with
  | nil => cases h
  | cons w t =>
    have hw : w ≠ [125] := by
      rintro rfl
      simp only [stmtT] at h
      rw [if_pos (by decide)] at h
      cases h
    simp only [stepT]
    rw [if_neg (fun hc => hw hc.1), if_neg (fun hc => hw hc.1), h]
    simp only
    split <;> rfl
theorem step_none {ws : List Str} (h : stmtT ws = none) (h1 : endN ws = 0) (st : PS) : stepT st ws = none := by
  unfold endN at h1
  cases ws with
  | nil => simp at h1
  | cons w t =>
    rw [if_neg (by simp)] at h1
    split at h1
    · cases h1
    · rename_i h2
      split at h1
      · cases h1
      · rename_i h3
        simp only [stepT]
        rw [if_neg (fun hc => h3 (by rw [hc.1, hc.2]; rfl)), if_neg (fun hc => h2 (by rw [hc.1, hc.2]; rfl)), h]
theorem Behind.stmt {S S1 S2 : Str} {i i1 j : Nat} {F : Fo} {ws : List Str} {s : St7} (h : Behind S i F S1 i1) (hn : NextTo S1 i1 ws S2 j) (hne : ws ≠ []) (hs : stmtT ws = some s) (hb : isBlk s.k = false) : Behind S i (F.app (one1 s .nil .nil)) S2 j := by
  obtain ⟨h1, h2, h3⟩ := h
  rcases hn with ⟨q, _⟩ | ⟨_, _, q1, q2, q3, q4⟩
  · exact absurd q hne
  · refine ⟨by omega, by omega, fun st => ?_⟩
    rw [h3, q4]
    simp only [runT, step_blk hs]
    rw [if_neg (by rw [hb]; simp), show j - 1 + 1 = j by omega, put_put]
theorem Behind.bad {S S1 S2 : Str} {i i1 j : Nat} {F : Fo} {ws : List Str} (h : Behind S i F S1 i1) (hn : NextTo S1 i1 ws S2 j) (h0 : endN ws = 0) (hs : stmtT ws = none) : BlkTo S i .nil 0 S2 j := by
  refine .inr (.inr (.inr ⟨rfl, h.fails fun st => .inl ?_⟩))
  rcases hn with ⟨q, _⟩ | ⟨_, _, q1, q2, q3, q4⟩
  · subst q; simp [endN] at h0
  · rw [q4]
    simp only [runT, step_none hs h0]
    rw [show j - 1 + 1 = j by omega]
theorem Behind.ends {S S1 S2 : Str} {i i1 j k : Nat} {F : Fo} {ws : List Str} (h : Behind S i F S1 i1) (hn : NextTo S1 i1 ws S2 j) (hk : endN ws = k) (h0 : k ≠ 0) : BlkTo S i F k S2 j := by
  obtain ⟨h1, h2, h3⟩ := h
  unfold endN at hk
  rcases hn with ⟨q, q1, q2, q3⟩ | ⟨q0, _, q1, q2, q3, q4⟩
  · rw [if_pos q] at hk
    exact .inl ⟨hk.symm, q1, by omega, fun st => by rw [h3, q3]⟩
  · rw [if_neg q0] at hk
    split at hk
    · rename_i e
      exact .inr (.inl ⟨hk.symm, by omega, q2, by omega, fun st => by rw [h3, q4, e]⟩)
    · split at hk
      · rename_i e
        exact .inr (.inr (.inl ⟨hk.symm, by omega, q2, by omega, fun st => by rw [h3, q4, e]⟩))
      · exact absurd hk.symm h0

/-! ### within -/
def Opened (s : St7) (B E : Fo) (el : Bool) (st : PS) : PS := ⟨⟨s, B, E, el⟩ :: st.op, st.p⟩
/-- What lies in a statement, from the line behind its own on. -/
def WithTo (S : Str) (i : Nat) (s : St7) (b : Bool) (B E : Fo) (S' : Str) (j : Nat) : Prop :=
  (b = true ∧ S'.length < S.length ∧ j + (LW S').length = i + (LW S).length ∧ ∀ st, runT (LW S) i (Opened s .nil .nil false st) = runT (LW S') j (putT (one1 s B E) st)) ∨
  (b = false ∧ ∀ st, Fails (LW S) i (Opened s .nil .nil false st) j)
theorem put_body (s : St7) (B : Fo) (st : PS) : putT B (Opened s .nil .nil false st) = Opened s B .nil false st := by simp [putT, Opened, Fo.app]
theorem put_else (s : St7) (B E : Fo) (st : PS) : putT E (Opened s B .nil true st) = Opened s B E true st := by simp [putT, Opened, Fo.app]
theorem run_endw (s : St7) (B E : Fo) (el : Bool) (st : PS) (L : List (List Str)) (j : Nat) : runT (endW :: L) j (Opened s B E el st) = runT L (j + 1) (putT (one1 s B E) st) := by
  simp [runT, stepT, endW, Opened]
theorem run_else (s : St7) (B : Fo) (st : PS) (L : List (List Str)) (j : Nat) (h : s.k = 11 ∨ s.k = 14) : runT (elseW :: L) j (Opened s B .nil false st) = runT L (j + 1) (Opened s B .nil true st) := by
  simp only [runT, stepT, elseW, Opened]
  rw [if_neg (by simp), if_pos (by simp), if_neg (by simp; omega)]
theorem run_else_no (s : St7) (B E : Fo) (el : Bool) (st : PS) (L : List (List Str)) (j : Nat) (h : el = true ∨ (s.k ≠ 11 ∧ s.k ≠ 14)) : runT (elseW :: L) j (Opened s B E el st) = .inr (j + 1) := by
  simp only [runT, stepT, elseW, Opened]
  rw [if_neg (by simp), if_pos (by simp), if_pos h]
theorem fails_open {L : List (List Str)} {i j : Nat} {s : St7} {B E : Fo} {el : Bool} {st : PS} (h : runT L i (Opened s .nil .nil false st) = .inl (Opened s B E el st)) (hj : j = i + L.length + 1) : Fails L i (Opened s .nil .nil false st) j := .inr ⟨_, h, by simp [Opened], hj⟩
/-- The Body alone. -/
theorem with_body {S S1 : Str} {i j k : Nat} {s : St7} {B : Fo} (h : BlkTo S i B k S1 j) (hk : k ≠ 2 ∨ (s.k ≠ 11 ∧ s.k ≠ 14)) : WithTo S i s (k == 3) B .nil S1 j := by
  rcases h with ⟨rfl, h1, h2, h3⟩ | ⟨rfl, h1, h2, h3, h4⟩ | ⟨rfl, h1, h2, h3, h4⟩ | ⟨rfl, h1⟩
  · exact .inr ⟨rfl, fun st => fails_open (by rw [h3, put_body]) h2⟩
  · refine .inr ⟨rfl, fun st => .inl ?_⟩
    rw [h4, put_body, run_else_no _ _ _ _ _ _ _ (.inr (hk.resolve_left fun q => q rfl)), show j - 1 + 1 = j by omega]
  · refine .inl ⟨rfl, h1, h3, fun st => ?_⟩
    rw [h4, put_body, run_endw, show j - 1 + 1 = j by omega]
  · exact .inr ⟨rfl, fun st => h1 _⟩
/-- The Body and the Else. -/
theorem with_else {S S1 S2 : Str} {i j j2 k : Nat} {s : St7} {B E : Fo} (h : BlkTo S i B 2 S1 j) (hs : s.k = 11 ∨ s.k = 14) (h' : BlkTo S1 j E k S2 j2) : WithTo S i s (k == 3) B E S2 j2 := by
  rcases h with ⟨q, _⟩ | ⟨_, h1, h2, h3, h4⟩ | ⟨q, _⟩ | ⟨q, _⟩
  · cases q
  · have e : ∀ st, runT (LW S) i (Opened s .nil .nil false st) = runT (LW S1) j (Opened s B .nil true st) := fun st => by
      rw [h4, put_body, run_else _ _ _ _ _ hs, show j - 1 + 1 = j by omega]
    rcases h' with ⟨rfl, g1, g2, g3⟩ | ⟨rfl, g1, g2, g3, g4⟩ | ⟨rfl, g1, g2, g3, g4⟩ | ⟨rfl, g1⟩
    · exact .inr ⟨rfl, fun st => fails_open (B := B) (E := E) (el := true) (by rw [e, g3, put_else]) (by omega)⟩
    · refine .inr ⟨rfl, fun st => .inl ?_⟩
      rw [e, g4, put_else, run_else_no _ _ _ _ _ _ _ (.inl rfl), show j2 - 1 + 1 = j2 by omega]
    · refine .inl ⟨rfl, by omega, by omega, fun st => ?_⟩
      rw [e, g4, put_else, run_endw, show j2 - 1 + 1 = j2 by omega]
    · refine .inr ⟨rfl, fun st => ?_⟩
      rcases g1 (Opened s B .nil true st) with hc | ⟨st', e1, e2, e3⟩
      · exact .inl (by rw [e, hc])
      · exact .inr ⟨st', by rw [e, e1], e2, by omega⟩
  · cases q
  · cases q
/-- A statement with lines in it: behind it. -/
theorem Behind.with {S S1 S2 S3 : Str} {i i1 j j2 : Nat} {F B E : Fo} {ws : List Str} {s : St7} (h : Behind S i F S1 i1) (hn : NextTo S1 i1 ws S2 j) (hne : ws ≠ []) (hs : stmtT ws = some s) (hb : isBlk s.k = true) (hw : WithTo S2 j s true B E S3 j2) : Behind S i (F.app (one1 s B E)) S3 j2 := by
  obtain ⟨h1, h2, h3⟩ := h
  rcases hn with ⟨q, _⟩ | ⟨_, _, q1, q2, q3, q4⟩
  · exact absurd q hne
  · rcases hw with ⟨_, g1, g2, g3⟩ | ⟨g, _⟩
    · refine ⟨by omega, by omega, fun st => ?_⟩
      rw [h3, q4]
      simp only [runT, step_blk hs]
      rw [if_pos hb, show j - 1 + 1 = j by omega]
      have := g3 (putT F st)
      unfold Opened at this
      rw [this, put_put]
    · cases g
theorem Behind.with_no {S S1 S2 S3 : Str} {i i1 j j2 : Nat} {F B E : Fo} {ws : List Str} {s : St7} (h : Behind S i F S1 i1) (hn : NextTo S1 i1 ws S2 j) (hne : ws ≠ []) (hs : stmtT ws = some s) (hb : isBlk s.k = true) (hw : WithTo S2 j s false B E S3 j2) : BlkTo S i .nil 0 S3 j2 := by
  refine .inr (.inr (.inr ⟨rfl, h.fails fun st => ?_⟩))
  rcases hn with ⟨q, _⟩ | ⟨_, _, q1, q2, q3, q4⟩
  · exact absurd q hne
  · rcases hw with ⟨g, _⟩ | ⟨_, g⟩
    · cases g
    · have e : runT (LW S1) i1 st = runT (LW S2) j (Opened s .nil .nil false st) := by
        rw [q4]
        simp only [runT, step_blk hs]
        rw [if_pos hb, show j - 1 + 1 = j by omega]
        rfl
      rcases g st with hc | ⟨st', e1, e2, e3⟩
      · exact .inl (by rw [e, hc])
      · exact .inr ⟨st', by rw [e, e1], e2, by omega⟩

/-! ### the whole text -/
theorem parse_ok {S S' : Str} {F : Fo} {j : Nat} (hl : S.length ≤ 20000) (h : BlkTo S 0 F 1 S' j) : parseT S = .inl F := by
  rcases h with ⟨_, h1, h2, h3⟩ | ⟨q, _⟩ | ⟨q, _⟩ | ⟨q, _⟩
  · unfold parseT
    have := h3 ⟨[], .nil⟩
    unfold LW at this
    rw [if_neg (by omega), this]
    simp [putT, Fo.app]
  · cases q
  · cases q
  · cases q
theorem parse_no {S S' : Str} {F : Fo} {j k : Nat} (hl : S.length ≤ 20000) (hk : k ≠ 1) (h : BlkTo S 0 F k S' j) : parseT S = .inr (9, j) := by
  have fin : ∀ st, runT (LW S) 0 ⟨[], .nil⟩ = st → (st = .inr j ∨ ∃ st', st = .inl st' ∧ st'.op ≠ [] ∧ j = (linesT S).length + 1) → parseT S = .inr (9, j) := fun st e q => by
    unfold LW at e
    unfold parseT
    rw [if_neg (by omega), e]
    rcases q with rfl | ⟨st', rfl, q1, q2⟩
    · rfl
    · simp only
      rw [if_neg q1, q2]
  have hput : putT F ⟨[], .nil⟩ = ⟨[], F⟩ := by simp [putT, Fo.app]
  rcases h with ⟨q, _⟩ | ⟨_, h1, h2, h3, h4⟩ | ⟨_, h1, h2, h3, h4⟩ | ⟨_, h1⟩
  · exact absurd q hk
  · refine fin _ rfl (.inl ?_)
    rw [h4, hput]
    simp [runT, stepT, elseW]
    omega
  · refine fin _ rfl (.inl ?_)
    rw [h4, hput]
    simp [runT, stepT, endW]
    omega
  · refine fin _ rfl ?_
    rcases h1 ⟨[], .nil⟩ with hc | ⟨st', e1, e2, e3⟩
    · exact .inl hc
    · exact .inr ⟨st', e1, e2, by rw [e3]; simp [LW]⟩
end Go.Proofs.YtcdlchcmidfhiaaGreatDoor
