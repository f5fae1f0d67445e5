/-
  slices.Sort at uint64, and slices.Sorted over the keys of a map, by contract: a new slice of the keys, rising.
-/
import Derived.Test.YtkolkimmhlmlgaaDoorStPdq
import Derived.Test.YtkolkimmhlmlgaaDoorStKeys
namespace Go.Proofs.YtkolkimmhlmlgaaDoor
open Go.Proofs Go.RowKit Go.Maps

theorem ins_none (p : Option Addr) (cap : Nat) (w : World) :
    Calls Tryd.prog 55 #[.slice p 0 cap, .int .i64 0, .int .i64 0] w fun e w' => e = .returned (.tuple #[]) ∧ w' = w := by
  go_enter Tryd.func55, Tryd.ntmps55
  go_wp2_with fail
  go_loopw [6] (fun iv wr => iv = .int .i64 1 ∧ wr = w) (fun _ _ => 0)
  case atStart => exact ⟨rfl, rfl⟩
  case round =>
    obtain ⟨rfl, rfl⟩ := hrel
    go_wp2_with fail
    go_end0
    exact ⟨rfl, rfl⟩

theorem pdq_none (p : Option Addr) (cap lim : Nat) (w : World) :
    Calls Tryd.prog 51 #[.slice p 0 cap, .int .i64 0, .int .i64 0, .int .i64 lim] w fun e w' => e = .returned (.tuple #[]) ∧ w' = w := by
  go_enter Tryd.func51, Tryd.ntmps51
  go_wp2_with fail
  go_loopw [1, 2, 3, 8, 9] (fun a b c d e wr => a = .int .i64 0 ∧ b = .int .i64 0 ∧ c = .int .i64 lim ∧ d = .bool true ∧ e = .bool true ∧ wr = w) (fun _ _ _ _ _ _ => 0)
  case atStart => exact ⟨rfl, rfl, rfl, rfl, rfl, rfl⟩
  case round =>
    obtain ⟨rfl, rfl, rfl, rfl, rfl, rfl⟩ := hrel
    go_wp2_with (first | (go_at_call 55; refine (ins_none _ _ _).mono ?_; rintro e w2 ⟨rfl, rfl⟩))
    (try simp only [Exit.inBlock, Exit.then])
    refine bodyPost_ret (results_none rfl _ _ _) rfl ?_
    exact ⟨rfl, rfl⟩

theorem sort_none (p : Option Addr) (cap : Nat) (w : World) :
    Calls Tryd.prog 41 #[.slice p 0 cap] w fun e w' => e = .returned (.tuple #[]) ∧ w' = w := by
  have cl := Lib.hid (len_u 0 (by omega) (by omega) w)
  go_enter Tryd.func41, Tryd.ntmps41
  go_wp2_with (first
    | (go_at_call 52; refine cl.out.mono ?_; rintro e w' ⟨rfl, rfl⟩)
    | (go_at_call 51; refine (pdq_none _ _ _ _).mono ?_; rintro e w2 ⟨rfl, rfl⟩))
  go_end0
  exact ⟨rfl, rfl⟩

theorem sort_u {w : World} {g o n cap : Nat} {d : Array Int} (h : URow w g o n cap d) (hn : n < 4611686018427387904) :
    Calls Tryd.prog 41 #[.slice (some ⟨g, o, none⟩) n cap] w fun e w' => e = .returned (.tuple #[]) ∧ Sortd w g o n cap 0 n d w' := by
  have hl : Lib.bitLen n < 4611686018427387904 := Nat.lt_of_le_of_lt (Lib.bitLen_le n 62 (by omega) (by omega)) (by omega)
  have cl := Lib.hid (len_u (n : Int) (by omega) (by omega) w)
  rw [Int.toNat_natCast] at cl
  obtain ⟨k, hk⟩ : ∃ k, Lib.bitLen n = k := ⟨_, rfl⟩
  rw [hk] at cl hl
  clear hk
  have cp := Lib.hid (pdq_u g o n cap hn (n + 1) 0 n k d w (by omega) h (Nat.zero_le _) (Nat.le_refl _) hl (.inl rfl))
  have wn : IntKind.u64.wrap (n : Int) = (n : Int) := IntWalk.u64_in _ (by omega)
  clear h
  go_enter Tryd.func41, Tryd.ntmps41
  go_wp2_with (first
    | (go_at_call 52; refine cl.out.mono ?_; rintro e w' ⟨rfl, rfl⟩)
    | (go_at_call 51; refine cp.out.mono ?_; rintro e w2 ⟨rfl, hS⟩; have S2 := Lib.hid hS; clear hS))
  go_end0
  exact ⟨rfl, S2.out⟩

/-- Rising, none twice. -/
abbrev Up (l : List Int) : Prop := l.Pairwise (· < ·)

theorem Up.nodup {l : List Int} (h : Up l) : l.Nodup := h.imp fun h => by omega

theorem up_of {n : Nat} {d d' : Array Int} (hd : d.size = n) (hn : d.toList.Nodup) (hp : Go.Sort.PermIn 0 n d d') (hs : Go.Sort.SortedIn ltI 0 n d') : Up d'.toList ∧ d'.toList.Perm d.toList := by
  obtain ⟨h1, _, h3⟩ := hp
  have h4 : d'.toList.Perm d.toList := by
    have e1 : (d'.extract 0 n).toList = d'.toList := by rw [← hd, ← h1]; simp
    have e2 : (d.extract 0 n).toList = d.toList := by rw [← hd]; simp
    rw [e1, e2] at h3
    exact h3
  refine ⟨?_, h4⟩
  have hn' : d'.toList.Nodup := h4.nodup_iff.2 hn
  refine List.pairwise_iff_getElem.2 fun i j hi hj hij => ?_
  have hi' : i < d'.size := by simpa using hi
  have hj' : j < d'.size := by simpa using hj
  have := hs i j (Nat.zero_le _) hij (by omega)
  rw [getElem!_pos d' i hi', getElem!_pos d' j hj'] at this
  have ne : d'.toList[i] ≠ d'.toList[j] := List.pairwise_iff_getElem.1 hn' i j hi hj hij
  simp only [Array.getElem_toList] at ne ⊢
  have : ¬ d'[j] < d'[i] := by simpa [ltI, Go.Sort.ltInt] using this
  omega

theorem Up.unique : ∀ {l m : List Int}, Up l → Up m → l.Perm m → l = m := fun {l m} hl hm hp =>
  List.Perm.eq_of_pairwise (le := fun a b : Int => a < b) (fun a b _ _ h1 h2 => by omega) hl hm hp

theorem Keys.perm {V : Type} {f : Int → Option V} {l m : List Int} (h : Keys f l) (k : Keys f m) : l.Perm m :=
  (List.perm_ext_iff_of_nodup h.1 k.1).2 fun x => by rw [h.2 x, k.2 x]

/-- The keys of a map, rising, in a new slice. -/
theorem sorted_any {w : World} {Bs b : Nat} {f : Int → Option Int} {L : List Int} (hL : Keys f L) (hU : Up L) (few : L.length ≤ 100000) (hm : w.cell? ⟨Bs, 0, none⟩ = some (.map (some b))) (hH : HoldsM Tryd.prog 23 uE w b f) :
    Calls Tryd.prog 32 #[kseqV Bs] w fun e w' => ∃ u, e = .returned u ∧ w'.ownsRow w.heap.size 23 1 u L.length (L.map encU) ∧ Keeps (fun _ => False) w w' := by
  have c1 := Lib.hid (collectU_any Bs b f L hL few w hm hH)
  clear hm hH
  go_enter Tryd.func32, Tryd.ntmps32
  go_wp2_with fail
  refine c1.out.mono ?_
  rintro e w2 ⟨u, ss, rfl, hss, hO, hb⟩
  have hlen := hss.len hL
  have K2 := Lib.hid (show Keeps (fun _ => False) w w2 from ⟨hb.os, hb.tape, hb.output, hb.size, fun k hk _ => hb.block k hk⟩)
  have hp := hss.perm hL
  rcases hO.2 with ⟨rfl, hz⟩ | ⟨g, cap, cur, rfl, hbase, hgb, rest⟩
  · have e0 : L = [] := List.eq_nil_of_length_eq_zero (by omega)
    subst e0
    clear hb hO
    go_wp2_with (first | (go_at_call 41; refine (sort_none _ _ _).mono ?_; rintro e w' ⟨rfl, rfl⟩))
    go_ret
    exact ⟨_, rfl, World.ownsRow_nil .., K2.out⟩
  · have hrow : URow w2 g 0 ss.length cap ss.toArray := ⟨rfl, by simp, by
      have := hO
      refine ⟨by simp, .inr ⟨g, cap, cur, rfl, Nat.zero_le _, hgb, rest.1, rest.2.1, rest.2.2.1, ?_⟩⟩
      simpa using rest.2.2.2⟩
    have cs := Lib.hid (sort_u hrow (by omega))
    have hss' := Lib.hid hss
    have hp' := Lib.hid hp
    have hlen' := Lib.hid hlen
    clear hb hO hgb rest hrow hp hlen hss
    go_wp2_with (first | (go_at_call 41; refine cs.out.mono ?_; rintro e w3 ⟨rfl, d', hS, hP, hSo⟩; have S3 := Lib.hid hS; have P3 := Lib.hid hP; have O3 := Lib.hid hSo; clear hS hP hSo))
    go_ret
    obtain ⟨q1, q2⟩ := up_of (d := ss.toArray) (by simp) (by simpa using hss'.out.1) P3.out O3.out
    have e : d'.toList = L := Up.unique q1 hU (q2.trans (by simpa using hp'.out))
    have hr := S3.out.row.2.2
    rw [e] at hr
    refine ⟨.slice (some ⟨g, 0, none⟩) ss.length cap, rfl, ?_, K2.out.trans S3.out.keeps fun x hx e => by omega⟩
    rw [← hlen'.out]
    refine ⟨by simp [hlen'.out], .inr ?_⟩
    rcases hr.2 with ⟨h, _⟩ | ⟨g', cap', cur', hv, _, hg', r1, r2, r3, r4⟩
    · cases h
    · injection hv with hv _ hc
      injection hv with hv
      injection hv with hv
      subst hv
      exact ⟨g, cap', cur', by rw [hc], hbase, hg', r1, r2, r3, r4⟩
end Go.Proofs.YtkolkimmhlmlgaaDoor
