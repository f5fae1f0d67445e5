/-
  concordref10.Dec and arg by contract, of numbers below 1000.
-/
import Derived.Test.YtcdlchcmidfhiaaGreatDoorTpStmt
import Derived.Laws.IdiomStrings
namespace Go.Proofs.YtcdlchcmidfhiaaGreatDoor
open Go.RowKit Go.Maps Go.Extern.Stop Go.Stop Go.Extern

/-- How long a string is. -/
def slen : Value → Nat
  | .string s => s.size
  | _ => 0
/-- A byte that was laid, as a string. -/
theorem byte_str (w : World) (x : UInt8) : (convert 50 9 (.slice (some ⟨w.heap.size, 0, none⟩) 1 1)).run Tryz.prog (w.alloc (.cells #[.int .u8 (x.toNat : Nat)] 5)) = .ok (.string (mkB [x])) (w.alloc (.cells #[.int .u8 (x.toNat : Nat)] 5)) := by
  refine run_convert_bytes_back (P := Tryz.prog) _ 50 9 5 ⟨w.heap.size, 0, none⟩ 1 [x] Tryz.underlying50 Tryz.underlying5 Tryz.underlying9 fun j hj => ?_
  have h0 : j = 0 := by simp at hj; omega
  subst h0
  exact (Whole.made w 5 #[.int .u8 (x.toNat : Nat)]).at_ 0

/-- How far a number is told. -/
def DecSt (n q : Nat) (s : Str) : Prop := (s = [] ∧ q = n) ∨ (s = [dg (n % 10)] ∧ q = n / 10) ∨ (10 ≤ n ∧ s = [dg (n / 10 % 10), dg (n % 10)] ∧ q = n / 100) ∨ (100 ≤ n ∧ s = [dg (n / 100), dg (n / 10 % 10), dg (n % 10)] ∧ q = 0)
theorem dec_go {n q : Nat} {s : Str} (hn : n < 1000) (h : DecSt n q s) (hc : 0 < q ∨ s = []) : DecSt n (q / 10) (dg (q % 10) :: s) ∧ s.length < 3 := by
  rcases h with ⟨rfl, rfl⟩ | ⟨rfl, rfl⟩ | ⟨h, rfl, rfl⟩ | ⟨h, rfl, rfl⟩
  · exact ⟨.inr (.inl ⟨rfl, rfl⟩), by simp⟩
  · have h0 : 0 < n / 10 := hc.resolve_right (by simp)
    exact ⟨.inr (.inr (.inl ⟨by omega, rfl, by omega⟩)), by simp⟩
  · have h0 : 0 < n / 100 := hc.resolve_right (by simp)
    exact ⟨.inr (.inr (.inr ⟨by omega, by rw [Nat.mod_eq_of_lt (by omega)], by omega⟩)), by simp⟩
  · exact absurd (hc.resolve_right (by simp)) (by omega)
theorem dec_end {n q : Nat} {s : Str} (hn : n < 1000) (h : DecSt n q s) (h0 : q = 0) (hs : s ≠ []) : s = decN n := by
  rcases h with ⟨rfl, rfl⟩ | ⟨rfl, rfl⟩ | ⟨h, rfl, rfl⟩ | ⟨h, rfl, rfl⟩
  · exact absurd rfl hs
  · unfold decN; rw [if_pos (by omega), Nat.mod_eq_of_lt (by omega)]
  · unfold decN; rw [if_neg (by omega), if_pos (by omega), Nat.mod_eq_of_lt (show n / 10 < 10 by omega)]
  · unfold decN; rw [if_neg (by omega), if_neg (by omega)]
theorem dec_len {n q : Nat} {s : Str} (h : DecSt n q s) : s.length ≤ 3 ∧ q ≤ n := by
  rcases h with ⟨rfl, rfl⟩ | ⟨rfl, rfl⟩ | ⟨h, rfl, rfl⟩ | ⟨h, rfl, rfl⟩ <;> simp <;> omega

set_option maxRecDepth 100000 in
set_option maxHeartbeats 1000000 in
theorem rdec_pos {w : World} (n : Nat) (hn : n < 1000) :
    Calls Tryz.prog 42 #[.int .i64 (n : Int)] w fun e w' => e = .returned (.string (mkB (decN n))) ∧ Keeps (fun _ => False) w w' := by
  have b0 : ¬ (n : Int) < 0 := by omega
  have BS := Lib.hid byte_str
  have HN := Lib.hid hn
  have D0 : Hid (DecSt n n []) := Lib.hid (.inl ⟨rfl, rfl⟩)
  go_enter Tryz.func42, Tryz.ntmps42
  go_wp2_with fail
  go_loopw [0, 3] (fun nv sv wr => ∃ (q : Nat) (s : Str), nv = .int .i64 (q : Int) ∧ sv = .string (mkB s) ∧ DecSt n q s ∧ Keeps (fun _ => False) w wr) (fun _ sv _ => 3 - slen sv)
  case atStart => exact ⟨n, [], rfl, rfl, D0.out, Keeps.refl _ _⟩
  case round =>
    obtain ⟨q, s, rfl, rfl, hD, hK⟩ := hrel
    obtain ⟨l3, qn⟩ := dec_len hD
    have D1 := Lib.hid hD
    have K1 := Lib.hid hK
    have sn := str_none s
    have zs := mkB_size s
    clear hD hK
    have cont : (0 < q ∨ s = []) → Hid (DecSt n (q / 10) (dg (q % 10) :: s) ∧ s.length < 3) := fun hc => Lib.hid (dec_go HN.out D1.out hc)
    obtain ⟨r, hr⟩ : ∃ r, q % 10 = r := ⟨_, rfl⟩
    obtain ⟨q2, hq2⟩ : ∃ q2, q / 10 = q2 := ⟨_, rfl⟩
    have tm : (q : Int).tmod 10 = (r : Int) := by rw [Int.tmod_eq_emod_of_nonneg (by omega)]; omega
    have td : (q : Int).tdiv 10 = (q2 : Int) := by rw [Int.tdiv_eq_ediv_of_nonneg (by omega)]; omega
    have r10 : r < 10 := by omega
    have w1 : IntKind.i64.wrap (48 + (r : Int)) = 48 + (r : Int) := IntWalk.i64_in _ (by omega)
    have w2 : IntKind.u8.wrap (48 + (r : Int)) = 48 + (r : Int) := IntWalk.u8_in _ (by omega)
    have bs : (convert 50 9 (.slice (some ⟨wr.heap.size, 0, none⟩) 1 1)).run Tryz.prog (wr.alloc (.cells #[.int .u8 (48 + (r : Int))] 5)) = .ok (.string (mkB [dg r])) (wr.alloc (.cells #[.int .u8 (48 + (r : Int))] 5)) := by
      have := BS.out wr (dg r)
      rw [dg_nat r r10] at this
      exact this
    have ap : mkB [dg r] ++ mkB s = mkB (dg r :: s) := mkB_app [dg r] s
    have z1 : (mkB [dg r]).size = 1 := rfl
    have q29 : q2 ≤ 999 := by omega
    rw [hr, hq2] at cont
    have CO := Lib.hid cont
    clear cont hr hq2
    have l3I : (s.length : Int) ≤ 3 := by omega
    by_cases hq : 0 < q
    · have b1 : (0 : Int) < (q : Int) := by omega
      have C1 := (CO.out (.inl hq)).out
      have C2 := Lib.hid C1.1
      have l2 := C1.2
      clear C1
      go_wp2_with fail
      go_roundw
      case rel => exact ⟨q2, dg r :: s, by go_num, rfl, C2.out, K1.out.alloc _⟩
      case measure => simp [slen, mkB_size]; omega
    · have b1 : ¬ (0 : Int) < (q : Int) := by omega
      have b10 : ¬ 0 < q := hq
      by_cases hs : s = []
      · have b3 : s.isEmpty = true := by rw [hs]; rfl
        rw [b3] at sn
        have C1 := (CO.out (.inr hs)).out
        have C2 := Lib.hid C1.1
        have l2 := C1.2
        clear C1 hs b3
        go_wp2_with fail
        go_roundw
        case rel => exact ⟨q2, dg r :: s, by go_num, rfl, C2.out, K1.out.alloc _⟩
        case measure => simp [slen, mkB_size]; omega
      · have b3 : s.isEmpty = false := by cases h : s with | nil => exact absurd h hs | cons y t => rfl
        rw [b3] at sn
        have E1 := Lib.hid (dec_end HN.out D1.out (by omega) hs)
        clear hs b3
        go_wp2_with fail
        go_ret
        exact ⟨by rw [← E1.out]; rfl, K1.out⟩

set_option maxRecDepth 100000 in
theorem rdec_any {w : World} (n : Int) (hn : -1000 < n ∧ n < 1000) :
    Calls Tryz.prog 42 #[.int .i64 n] w fun e w' => e = .returned (.string (mkB (decZ n))) ∧ Keeps (fun _ => False) w w' := by
  unfold decZ
  by_cases h : n < 0
  · rw [if_pos h]
    obtain ⟨m, hm⟩ : ∃ m : Nat, (-n).toNat = m := ⟨_, rfl⟩
    have CP := Lib.hid (fun V => rdec_pos (w := V) m (by omega))
    have e1 : -n = (m : Int) := by omega
    have wn : IntKind.i64.wrap (-n) = (m : Int) := by rw [e1]; exact IntWalk.i64_in _ (by omega)
    rw [hm]
    have ap : (⟨#[45]⟩ : ByteArray) ++ mkB (decN m) = mkB (45 :: decN m) := mkB_app [45] _
    have z1 : (⟨#[45]⟩ : ByteArray).size = 1 := rfl
    have dl : (decN m).length ≤ 3 := by unfold decN; split <;> (try split) <;> simp
    have zd := mkB_size (decN m)
    have dlI : ((decN m).length : Int) ≤ 3 := by omega
    generalize decN m = D at *
    clear e1 hm
    go_enter Tryz.func42, Tryz.ntmps42
    go_wp2_with fail
    refine (CP.out _).mono ?_
    rintro e w2 ⟨rfl, hK⟩
    have K2 := Lib.hid hK
    clear hK
    go_wp2_with fail
    go_ret
    exact ⟨rfl, K2.out⟩
  · rw [if_neg h]
    obtain ⟨m, rfl⟩ : ∃ m : Nat, n = (m : Int) := ⟨n.toNat, by omega⟩
    rw [Int.toNat_natCast]
    exact rdec_pos m (by omega)

theorem decN_len (n : Nat) : (decN n).length ≤ 3 := by unfold decN; split <;> (try split) <;> simp
theorem decZ_len (n : Int) : (decZ n).length ≤ 4 := by
  unfold decZ
  split
  · have := decN_len (-n).toNat; simp; omega
  · have := decN_len n.toNat; omega
theorem decZ_nn {n : Int} (h : 0 ≤ n) : decZ n = decN n.toNat := by unfold decZ; rw [if_neg (by omega)]

set_option maxRecDepth 100000 in
set_option maxHeartbeats 1000000 in
theorem rarg10_any {w : World} (r n : Int) (hr : 0 ≤ r ∧ r ≤ 8) (hn : -1000 < n ∧ n < 1000) :
    Calls Tryz.prog 43 #[.agg #[.int .i64 r, .int .i64 n]] w fun e w' => e = .returned (.string (mkB (argT r n))) ∧ Keeps (fun _ => False) w w' := by
  have k1 : Hid (Keeps (fun _ => False) w (w.alloc (.cells #[.int .i64 r, .int .i64 n] 43))) := Lib.hid ((Keeps.refl _ w).alloc _)
  have S1 : Hid (Whole (w.alloc (.cells #[.int .i64 r, .int .i64 n] 43)) w.heap.size 43 #[.int .i64 r, .int .i64 n]) := Lib.hid (Whole.made _ _ _)
  have CN := Lib.hid (fun V => rdec_any (w := V) n hn)
  have CR := Lib.hid (fun V => rdec_any (w := V) r (by omega))
  have zn := mkB_size (decZ n)
  have zr := mkB_size (decZ r)
  have dn := decZ_len n
  have dr := decZ_len r
  have dnI : ((decZ n).length : Int) ≤ 4 := by omega
  have drI : ((decZ r).length : Int) ≤ 4 := by omega
  by_cases h0 : r = 0
  · have b0 : (r == 0) = true := by simpa using h0
    have e1 : argT r n = decZ n := by unfold argT; rw [if_pos h0]
    rw [e1]
    generalize decZ n = D at *
    generalize decZ r = D2 at *
    clear e1 h0 CR
    go_enter Tryz.func43, Tryz.ntmps43
    go_wp2_with fail
    refine (CN.out _).mono ?_
    rintro e w2 ⟨rfl, hK⟩
    have K2 := Lib.hid (k1.out.trans hK fun _ _ => id)
    clear hK
    go_wp2_with fail
    go_ret
    exact ⟨rfl, K2.out⟩
  · have b0 : (r == 0) = false := by simpa using h0
    have e0 : regT r = 114 :: decZ r := by unfold regT; rw [decZ_nn hr.1]
    have a1 : (⟨#[114]⟩ : ByteArray) ++ mkB (decZ r) = mkB (114 :: decZ r) := mkB_app [114] _
    have z1 : (⟨#[114]⟩ : ByteArray).size = 1 := rfl
    have z2 : (mkB (114 :: decZ r)).size = (decZ r).length + 1 := by rw [mkB_size]; simp
    by_cases hp : 0 < n
    · have e1 : argT r n = 114 :: (decZ r ++ 43 :: decZ n) := by unfold argT; rw [if_neg h0, if_pos hp, e0, decZ_nn (n := n) (by omega)]; rfl
      rw [e1]
      have a2 : mkB (114 :: decZ r) ++ (⟨#[43]⟩ : ByteArray) = mkB (114 :: (decZ r ++ [43])) := mkB_app (114 :: decZ r) [43]
      have a3 : mkB (114 :: (decZ r ++ [43])) ++ mkB (decZ n) = mkB (114 :: (decZ r ++ 43 :: decZ n)) := by rw [mkB_app]; simp
      have z3 : (⟨#[43]⟩ : ByteArray).size = 1 := rfl
      have z4 : (mkB (114 :: (decZ r ++ [43]))).size = (decZ r).length + 2 := by rw [mkB_size]; simp
      generalize decZ n = D at *
      generalize decZ r = D2 at *
      clear e1 e0 h0
      go_enter Tryz.func43, Tryz.ntmps43
      go_wp2_with fail
      refine (CR.out _).mono ?_
      rintro e w2 ⟨rfl, hK⟩
      have K2 := Lib.hid (k1.out.trans hK fun _ _ => id)
      have S2 := Lib.hid (S1.out.keeps hK id)
      have c0 : w2.cell? ⟨w.heap.size, 0, none⟩ = some (.int .i64 r) := S2.out.at_ 0
      have c1 : w2.cell? ⟨w.heap.size, 1, none⟩ = some (.int .i64 n) := S2.out.at_ 1
      clear hK CR
      go_wp2_with fail
      refine (CN.out _).mono ?_
      rintro e w3 ⟨rfl, hK⟩
      have K3 := Lib.hid (K2.out.trans hK fun _ _ => id)
      have c3 : w3.cell? ⟨w.heap.size, 1, none⟩ = some (.int .i64 n) := (S2.out.keeps hK id).at_ 1
      have hm0 : ¬ n < 0 := by omega
      clear hK
      go_wp2_with fail
      go_ret
      exact ⟨rfl, K3.out⟩
    · by_cases hm : n < 0
      · have e1 : argT r n = 114 :: (decZ r ++ decZ n) := by unfold argT; rw [if_neg h0, if_neg hp, if_pos hm, e0]; rfl
        rw [e1]
        have a3 : mkB (114 :: decZ r) ++ mkB (decZ n) = mkB (114 :: (decZ r ++ decZ n)) := mkB_app _ _
        generalize decZ n = D at *
        generalize decZ r = D2 at *
        clear e1 e0 h0
        go_enter Tryz.func43, Tryz.ntmps43
        go_wp2_with fail
        refine (CR.out _).mono ?_
        rintro e w2 ⟨rfl, hK⟩
        have K2 := Lib.hid (k1.out.trans hK fun _ _ => id)
        have S2 := Lib.hid (S1.out.keeps hK id)
        have c0 : w2.cell? ⟨w.heap.size, 0, none⟩ = some (.int .i64 r) := S2.out.at_ 0
        have c1 : w2.cell? ⟨w.heap.size, 1, none⟩ = some (.int .i64 n) := S2.out.at_ 1
        clear hK CR
        go_wp2_with fail
        refine (CN.out _).mono ?_
        rintro e w3 ⟨rfl, hK⟩
        have K3 := Lib.hid (K2.out.trans hK fun _ _ => id)
        clear hK
        go_wp2_with fail
        go_ret
        exact ⟨rfl, K3.out⟩
      · have e1 : argT r n = 114 :: decZ r := by unfold argT; rw [if_neg h0, if_neg hp, if_neg hm, e0]; simp
        rw [e1]
        generalize decZ n = D at *
        generalize decZ r = D2 at *
        clear e1 e0 h0
        go_enter Tryz.func43, Tryz.ntmps43
        go_wp2_with fail
        refine (CR.out _).mono ?_
        rintro e w2 ⟨rfl, hK⟩
        have K2 := Lib.hid (k1.out.trans hK fun _ _ => id)
        have S2 := Lib.hid (S1.out.keeps hK id)
        have c0 : w2.cell? ⟨w.heap.size, 0, none⟩ = some (.int .i64 r) := S2.out.at_ 0
        have c1 : w2.cell? ⟨w.heap.size, 1, none⟩ = some (.int .i64 n) := S2.out.at_ 1
        clear hK CR
        go_wp2_with fail
        go_ret
        exact ⟨rfl, K2.out⟩
end Go.Proofs.YtcdlchcmidfhiaaGreatDoor
