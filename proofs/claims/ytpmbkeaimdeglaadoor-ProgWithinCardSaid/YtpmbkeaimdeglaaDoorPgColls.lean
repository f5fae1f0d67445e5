/-
  concordref09.Colls by contract: the collections that a transaction names, rising, each once.
-/
import Derived.Test.YtpmbkeaimdeglaaDoorPgRef
import Derived.Test.YtpmbkeaimdeglaaDoorRkArg
import Derived.Deep.RegionHeld3
import Derived.Deep.DeepCutAuto
import Derived.Deep.CutBlock
import Derived.Deep.CutRange
namespace Go.Proofs.YtpmbkeaimdeglaaDoor
open Go.RowKit Go.Extern.Stop Go.Stop Go.Extern

/-! ### plainly -/
theorem named_snoc (L : List Ln) (l : Ln) (x : Int) : Named (L ++ [l]) x ↔ Named L x ∨ (names l.s = true ∧ l.s.c = x) := by
  unfold Named
  constructor
  · rintro ⟨m, hm, h⟩
    rcases List.mem_append.1 hm with hm | hm
    · exact .inl ⟨m, hm, h⟩
    · rw [List.mem_singleton] at hm
      subst hm
      exact .inr h
  · rintro (⟨m, hm, h⟩ | h)
    · exact ⟨m, List.mem_append_left _ hm, h⟩
    · exact ⟨l, by simp, h⟩
/-- A number put in its place. -/
theorem ins_up {out : List Int} {c : Int} {k : Nat} (h : Up out) (hlt : ∀ (j : Nat) (x : Int), j < k → out[j]? = some x → x < c) (hge : ∀ x, out[k]? = some x → c ≤ x) (hn : c ∉ out) : Up (out.take k ++ [c] ++ out.drop k) := by
  have h1 : ∀ x ∈ out.take k, x < c := fun x hx => by
    obtain ⟨j, hj⟩ := List.getElem?_of_mem hx
    rw [List.getElem?_take] at hj
    split at hj
    · rename_i hjk; exact hlt j x hjk hj
    · cases hj
  have h2 : ∀ x ∈ out.drop k, c < x := fun x hx => by
    obtain ⟨j, hj⟩ := List.getElem?_of_mem hx
    rw [List.getElem?_drop] at hj
    have hk : k < out.length := by have := (List.getElem?_eq_some_iff.1 hj).1; omega
    have h3 := hge out[k] (List.getElem?_eq_getElem hk)
    have h4 : out[k] ≤ x := by
      rcases Nat.eq_zero_or_pos j with h0 | h0
      · subst h0
        rw [Nat.add_zero, List.getElem?_eq_getElem hk] at hj
        injection hj with hj
        omega
      · obtain ⟨hj1, rfl⟩ := List.getElem?_eq_some_iff.1 hj
        have := List.pairwise_iff_getElem.1 h k (k + j) hk hj1 (by omega)
        omega
    have h5 : c ≠ x := fun e => hn (by rw [e]; exact List.mem_of_mem_drop hx)
    omega
  refine List.pairwise_append.2 ⟨List.pairwise_append.2 ⟨h.sublist (List.take_sublist _ _), List.pairwise_singleton _ _, fun a ha b hb => ?_⟩, h.sublist (List.drop_sublist _ _), fun a ha b hb => ?_⟩
  · rw [List.mem_singleton] at hb; subst hb; exact h1 a ha
  · have := h2 b hb
    rcases List.mem_append.1 ha with ha | ha
    · have := h1 a ha; omega
    · rw [List.mem_singleton] at ha; subst ha; exact this
theorem ins_mem {out : List Int} {c : Int} {k : Nat} (x : Int) : x ∈ out.take k ++ [c] ++ out.drop k ↔ x ∈ out ∨ x = c := by
  have e : x ∈ out ↔ x ∈ out.take k ∨ x ∈ out.drop k := by
    conv => lhs; rw [← List.take_append_drop k out]
    exact List.mem_append
  rw [List.mem_append, List.mem_append, List.mem_singleton, e]
  constructor
  · rintro ((h | h) | h)
    · exact .inl (.inl h)
    · exact .inr h
    · exact .inl (.inr h)
  · rintro ((h | h) | h)
    · exact .inl (.inl h)
    · exact .inr h
    · exact .inl (.inr h)
theorem inL_mem {n : Int} {l : List Int} : inL n l = true ↔ n ∈ l := by
  unfold inL
  rw [List.any_eq_true]
  constructor
  · rintro ⟨x, hx, h⟩
    have : x = n := by simpa using h
    rw [← this]; exact hx
  · intro h; exact ⟨n, h, by simp⟩

/-- The parts of a row of ints, as arguments. -/
theorem part_cells {V : World} {lo : Option Addr} {kk lc : Nat} {out : List Int} (h : IRow V (.slice lo kk lc) out) (hn : out.length = kk) : ∀ g, lo = some ⟨g, 0, none⟩ → ∀ (j : Nat) (x : Int), out[j]? = some x → V.cell? ⟨g, j, none⟩ = some (.int .i64 x) := fun g hg j x hx => by
  obtain ⟨o, c, e, ho⟩ := irow_cells h hn
  injection e with e1 e2 e3
  subst e1
  have hj := (List.getElem?_eq_some_iff.1 hx).1
  obtain ⟨g', hg', hc⟩ := ho (by omega)
  rw [hg] at hg'
  injection hg' with hg'
  injection hg' with hg'
  subst hg'
  exact hc j x hx

theorem ints_at {l : List Int} {j : Nat} {u : Value} (h : (intK.cs l)[j]? = some u) : ∃ x, l[j]? = some x ∧ .int .i64 x = u := by
  have h' : (l.map fun x => Value.int .i64 x)[j]? = some u := h
  rw [List.getElem?_map] at h'
  exact Option.map_eq_some_iff.1 h'
theorem made_nx (w : World) (o : Obj) (t : TypeId) (cs : Array Value) : Whole ((w.alloc o).alloc (.cells cs t)) (w.heap.size + 1) t cs := by
  have := Whole.made (w.alloc o) t cs
  rwa [World.size_alloc] at this

set_option maxRecDepth 100000 in
set_option maxHeartbeats 4000000 in
theorem rcolls_any {w : World} {v : Value} {F : Fo} (h : SlOf w v F) (few : F.size ≤ 1000) (hd : F.deep ≤ 900) :
    Calls Tryd.prog 20 #[v] w fun e w' => ∃ u C, e = .returned u ∧ IRow w' u C ∧ Up C ∧ (∀ x, x ∈ C ↔ Named (lin F 1) x) ∧ C.length ≤ 1000 ∧ Keeps (fun _ => False) w w' := by
  have cl := Lib.hid (lines_new h few hd)
  have wf := Lib.hid (h.wf (d := 1))
  have hll := lin_len F 1
  obtain ⟨L, hL⟩ : ∃ L, lin F 1 = L := ⟨_, rfl⟩
  rw [hL] at cl wf hll ⊢
  clear h hL
  go_enter Tryd.func20, Tryd.ntmps20
  go_wp2_with fail
  refine cl.out.mono ?_
  rintro e w2 ⟨u, new, rfl, hM, hA, hK2⟩
  obtain ⟨o, c, rfl, _⟩ := row_shape hM.1
  have M2 := Lib.hid hM
  have A2 := Lib.hid hA
  have K2 := Lib.hid hK2
  obtain ⟨n, hn⟩ : ∃ n, new.length = n := ⟨_, rfl⟩
  have hLn : L.length = n := by rw [← hA.len, hn]
  have hLn' := Lib.hid hLn
  have n1000 : (n : Int) ≤ 1000 := by omega
  rw [hn] at M2 ⊢
  clear hM hA hK2 hn hLn hll few
  go_wp2_with fail
  go_loopw [3, 5] (fun ov iv wr => ∃ (i : Nat) (lo : Option Addr) (kk lc : Nat) (out : List Int), ov = .slice lo kk lc ∧ iv = .int .i64 i ∧ i ≤ n ∧ out.length = kk ∧ kk ≤ i ∧ Up out ∧ (∀ x, x ∈ out ↔ Named (L.take i) x) ∧ Mine intK w2 wr (.slice lo kk lc) out ∧ Keeps (fun _ => False) w2 wr) (fun _ iv _ => n - (intOf iv).toNat)
  case atStart => exact ⟨0, none, 0, 0, [], rfl, rfl, Nat.zero_le _, rfl, Nat.le_refl _, List.Pairwise.nil, (fun x => by constructor; (intro h; cases h); (rintro ⟨l, hl, _⟩; simp at hl)), ⟨World.ownsRow_nil .., fun g hg => by simp [Value.ownBlock] at hg⟩, Keeps.refl _ _⟩
  case round =>
    obtain ⟨i, lo, kk, lc, out, rfl, rfl, hi, hkk, hki, hU, hN, hM, hK⟩ := hrel
    have M1 := Lib.hid hM
    have K1 := Lib.hid hK
    have U1 := Lib.hid hU
    have N1 := Lib.hid hN
    have hkk' := Lib.hid hkk
    by_cases hlt : i < n
    · have b1 : (i : Int) < (n : Int) := by omega
      obtain ⟨l, hl⟩ : ∃ l, L[i]? = some l := ⟨_, List.getElem?_eq_getElem (by rw [hLn'.out]; exact hlt)⟩
      have NS : Hid (∀ x, Named (L.take (i + 1)) x ↔ Named (L.take i) x ∨ (names l.s = true ∧ l.s.c = x)) := Lib.hid fun x => by rw [List.take_add_one, hl]; exact named_snoc _ _ x
      obtain ⟨g, c', b, e, hv, hat, -, -, -, -⟩ := line_cells M2.out A2.out (wf.out l (List.mem_of_getElem? hl)) hl
      rw [hLn'.out] at hv
      injection hv with hv _ hc
      subst hv
      subst hc
      have at1 := hat.same K1.out
      have f0 := at1.st.k
      have f1 := at1.st.c
      obtain ⟨s, B, E, d⟩ := l
      obtain ⟨k, cv, r1, ar, an, br, bn⟩ := s
      simp only at f0 f1 NS
      have ci := Lib.hid (in_any M1.out.1 (by have := hkk'.out; omega) cv)
      clear hl hat at1 hU hN hM hK hkk
      by_cases k1 : k < 1
      · have nn : names ⟨k, cv, r1, ar, an, br, bn⟩ = false := by simp [names]; omega
        have N2 := Lib.hid nn
        clear nn
        go_wp2_with fail
        go_roundw
        case rel => exact ⟨i + 1, lo, kk, lc, out, rfl, by go_num, by omega, hkk'.out, by omega, U1.out, (fun x => by rw [NS.out x, N1.out x, N2.out]; simp), M1.out, K1.out⟩
        case measure => simp [intOf]; omega
      · by_cases k8 : 8 < k
        · have nn : names ⟨k, cv, r1, ar, an, br, bn⟩ = false := by simp [names]; omega
          have N2 := Lib.hid nn
          clear nn
          go_wp2_with fail
          go_roundw
          case rel => exact ⟨i + 1, lo, kk, lc, out, rfl, by go_num, by omega, hkk'.out, by omega, U1.out, (fun x => by rw [NS.out x, N1.out x, N2.out]; simp), M1.out, K1.out⟩
          case measure => simp [intOf]; omega
        · have nn : names ⟨k, cv, r1, ar, an, br, bn⟩ = true := by simp [names]; omega
          have N2 := Lib.hid nn
          clear nn
          by_cases hin : cv ∈ out
          · rw [inL_mem.2 hin] at ci
            have hin' := Lib.hid hin
            clear hin
            go_wp2_with (go_at_call 39; refine ci.out.mono ?_; rintro e w' ⟨rfl, rfl⟩)
            go_roundw
            case rel => exact ⟨i + 1, lo, kk, lc, out, rfl, by go_num, by omega, hkk'.out, by omega, U1.out, (fun x => by
              rw [NS.out x, N1.out x]
              constructor
              · exact .inl
              · rintro (h | ⟨_, rfl⟩)
                · exact h
                · exact (N1.out _).1 hin'.out), M1.out, K1.out⟩
            case measure => simp [intOf]; omega
          · have hf : inL cv out = false := by cases hq : inL cv out with | false => rfl | true => exact absurd (inL_mem.1 hq) hin
            rw [hf] at ci
            have hin' := Lib.hid hin
            clear hf hin
            have HC := Lib.hid (fun V (kV : Keeps (fun _ => False) wr V) => part_cells (ownsRow_keeps M1.out.1 kV fun _ _ => id) hkk'.out)
            have shp : Hid ((lo = none ∧ kk = 0 ∧ lc = 0) ∨ ∃ g, lo = some ⟨g, 0, none⟩ ∧ kk ≤ lc) := Lib.hid (by
              rcases M1.out.1.2 with ⟨e, h0⟩ | ⟨g, cap, cur, e, _, _, hnc, _⟩
              · injection e with e1 e2 e3
                exact .inl ⟨e1, e2, e3⟩
              · injection e with e1 e2 e3
                exact .inr ⟨g, e1, by rw [e3]; have := hkk'.out; omega⟩)
            have kk1000 : (kk : Int) ≤ 1000 := by omega
            go_upto_region 8 with (go_at_call 39; refine ci.out.mono ?_; rintro e w' ⟨rfl, rfl⟩)
            go_upto_block 2 with fail
            go_cut [7] from 43 to 56 (fun kv wx => ∃ p : Nat, kv = .int .i64 p ∧ p ≤ kk ∧ (∀ (j : Nat) (x : Int), j < p → out[j]? = some x → x < cv) ∧ (∀ x, out[p]? = some x → cv ≤ x) ∧ wx = wr)
            case first =>
              go_wp2_with fail
              go_loop [7] (fun kv => ∃ p : Nat, kv = .int .i64 p ∧ p ≤ kk ∧ ∀ (j : Nat) (x : Int), j < p → out[j]? = some x → x < cv) (fun kv => kk - (intOf kv).toNat)
              case atStart => exact ⟨0, rfl, Nat.zero_le _, fun j x h => absurd h (Nat.not_lt_zero _)⟩
              case round =>
                obtain ⟨p, rfl, hp, hlow⟩ := hrel
                have LW := Lib.hid hlow
                clear hlow
                by_cases hpk : p < kk
                · have b2 : (p : Int) < (kk : Int) := by omega
                  obtain ⟨g', rfl⟩ : ∃ g', lo = some ⟨g', 0, none⟩ := by
                    rcases shp.out with ⟨_, h0, _⟩ | ⟨g', h, _⟩
                    · omega
                    · exact ⟨g', h⟩
                  obtain ⟨y, hy⟩ : ∃ y, out[p]? = some y := ⟨_, List.getElem?_eq_getElem (by rw [hkk'.out]; exact hpk)⟩
                  have q0 := HC.out wr (Keeps.refl _ _) g' rfl p y hy
                  have hy' := Lib.hid hy
                  clear hy
                  by_cases hyc : y < cv
                  · go_wp2_with fail
                    go_round
                    case rel =>
                      refine ⟨p + 1, by go_num, by omega, fun j x hj hx => ?_⟩
                      rcases Nat.lt_or_ge j p with h | h
                      · exact LW.out j x h hx
                      · obtain rfl : j = p := by omega
                        rw [hy'.out] at hx
                        injection hx with hx
                        omega
                    case measure => simp [intOf]; omega
                  · have hyc' := Lib.hid hyc
                    go_wp2_with fail
                    go_meet
                    case rel => exact ⟨p, rfl, hp, LW.out, (fun x hx => by rw [hy'.out] at hx; injection hx with hx; have := hyc'.out; omega), rfl⟩
                · obtain rfl : p = kk := by omega
                  have b2 : ¬ (p : Int) < (p : Int) := by omega
                  go_wp2_with fail
                  go_meet
                  case rel => exact ⟨p, rfl, hp, LW.out, (fun x hx => by have := (List.getElem?_eq_some_iff.1 hx).1; have := hkk'.out; omega), rfl⟩
            case rest =>
              obtain ⟨p, rfl, hp, hlow, hhigh, rfl⟩ := hcut
              have IU := Lib.hid (ins_up U1.out hlow hhigh hin'.out)
              have htk : Hid ((out.take p).length = p) := Lib.hid (by rw [List.length_take, hkk'.out]; omega)
              have hdr : Hid ((out.drop p).length = kk - p) := Lib.hid (by rw [List.length_drop, hkk'.out])
              clear hlow hhigh f0 f1 ci
              rcases shp.out with ⟨rfl, rfl, rfl⟩ | ⟨g9, rfl, hcap⟩
              · obtain rfl : p = 0 := by omega
                have TK : Hid (∀ V, Keeps (fun _ => False) wc V → ∀ ad, (none : Option Addr) = some ad → ∀ j u, (intK.cs (out.take 0))[j]? = some u → V.cell? (ad.add j) = some u) := Lib.hid fun V kV ad ha => by cases ha
                have DK : Hid (∀ V, Keeps (fun _ => False) wc V → ∀ ad, (none : Option Addr) = some ad → ∀ j u, (intK.cs (out.drop 0))[j]? = some u → V.cell? (ad.add j) = some u) := Lib.hid fun V kV ad ha => by cases ha
                have wsub0 : IntKind.i64.wrap 0 = 0 := by decide
                have hd0 : Hid ((out.drop 0).length = 0) := Lib.hid (by rw [hdr.out])
                have oA : Hid (Mine intK wc ((wc.alloc (.cells #[] 3)).drew) (.slice (some ⟨wc.heap.size, 0, none⟩) 0 0) []) := Lib.hid ⟨row_none intK (Whole.made wc _ _).drew rfl, fun g hg => by simp [Value.ownBlock] at hg; omega⟩
                have oB : Hid (Mine intK wc (((wc.alloc (.cells #[] 3)).alloc (.cells #[.int .i64 cv] 3)).drew) (.slice (some ⟨wc.heap.size, 0, none⟩) 0 0) []) := Lib.hid ⟨row_none intK ((Whole.made wc _ _).alloc _).drew rfl, fun g hg => by simp [Value.ownBlock] at hg; omega⟩
                have oC : Hid (Mine intK wc (((wc.alloc (.cells #[.int .i64 cv] 3)).alloc (.cells #[] 3)).drew) (.slice (some ⟨wc.heap.size + 1, 0, none⟩) 0 0) []) := Lib.hid ⟨row_none intK (made_nx wc _ _ _).drew rfl, fun g hg => by simp [Value.ownBlock] at hg; omega⟩
                have kA : Hid (Keeps (fun _ => False) wc ((wc.alloc (.cells #[] 3)).drew)) := Lib.hid ((Keeps.refl _ wc).alloc _).drew
                have kB : Hid (Keeps (fun _ => False) wc (((wc.alloc (.cells #[] 3)).alloc (.cells #[.int .i64 cv] 3)).drew)) := Lib.hid (((Keeps.refl _ wc).alloc _).alloc _).drew
                have kC : Hid (Keeps (fun _ => False) wc (((wc.alloc (.cells #[.int .i64 cv] 3)).alloc (.cells #[] 3)).drew)) := Lib.hid (((Keeps.refl _ wc).alloc _).alloc _).drew
                have lB : Hid (∀ V, Keeps (fun x => (Value.slice (some ⟨wc.heap.size, 0, none⟩) 0 0).ownBlock = some x) (((wc.alloc (.cells #[] 3)).alloc (.cells #[.int .i64 cv] 3)).drew) V → IRow V (.slice (some ⟨wc.heap.size + 1, 0, none⟩) 1 1) [cv]) := Lib.hid fun V kV => ownsRow_keeps (row_of intK (l := [cv]) (made_nx wc _ _ _).drew rfl (by omega)) kV fun g hg e => by simp [Value.ownBlock] at hg e; omega
                have lC : Hid (∀ V, Keeps (fun x => (Value.slice (some ⟨wc.heap.size + 1, 0, none⟩) 0 0).ownBlock = some x) (((wc.alloc (.cells #[.int .i64 cv] 3)).alloc (.cells #[] 3)).drew) V → IRow V (.slice (some ⟨wc.heap.size, 0, none⟩) 1 1) [cv]) := Lib.hid fun V kV => ownsRow_keeps (row_of intK (l := [cv]) ((Whole.made wc _ _).alloc _).drew rfl (by omega)) kV fun g hg e => by simp [Value.ownBlock] at hg e; omega
                clear M1 HC
                go_wp2_with fail
                go_region_held3 (fun _ => True) (trivial)
                  (first
                    | (refine step_append_arg intK rfl _ _ rfl wc (.slice (some ⟨_, 0, none⟩) 0 0) [] (out.take 0) rfl (by first | exact oA.out | exact oB.out | exact oC.out) (by first | exact kA.out | exact kB.out | exact kC.out) _ _ _ rfl htk.out (TK.out _ (by first | exact kA.out | exact kB.out | exact kC.out)) (fun _ => rfl) (0) (by simp) (by omega) ?_
                       intro ao ac w3 hM hK hK3
                       have M3 := Lib.hid hM
                       have K3 := Lib.hid hK
                       have M3x : Hid (Mine intK wc (w3.alloc (.cells #[.int .i64 cv] 3)) (.slice ao (0) ac) ([] ++ out.take 0)) := Lib.hid (M3.out.same ((Keeps.refl _ _).alloc _))
                       have LR : Hid (IRow (w3.alloc (.cells #[.int .i64 cv] 3)) (.slice (some ⟨w3.heap.size, 0, none⟩) 1 1) [cv]) := Lib.hid (row_of intK (l := [cv]) (Whole.made w3 _ _) rfl (by omega))
                       (try have LL := Lib.hid (lB.out w3 hK3))
                       (try have LL := Lib.hid (lC.out w3 hK3))
                       clear hM hK hK3)
                    | (refine step_append_arg intK rfl _ _ rfl wc _ ([] ++ out.take 0 ++ [cv]) (out.drop 0) rfl M4.out K4.out _ _ _ rfl hd0.out (DK.out _ K4.out) (fun _ => rfl) (1) (by have h1 := htk.out; have h2 := hd0.out; first | (simp; done) | (simp at h2 ⊢; omega) | (simp at h1 h2 ⊢; omega)) (by omega) ?_
                       intro ao3 ac3 w5 hM hK hK3
                       have M5 := Lib.hid hM
                       have K5 := Lib.hid hK
                       clear hM hK hK3)
                    | (refine step_append_f intK rfl _ _ rfl wc _ ([] ++ out.take 0) [cv] rfl (by first | exact M3.out | exact M3x.out) (by first | exact K3.out | exact K3.out.alloc _) _ rfl (by first | exact LR.out | exact LL.out) (1) (by first | (simp; done) | simp [htk.out]) (by omega) ?_
                       intro ao2 ac2 w4 hM hK hK3
                       have M4 := Lib.hid hM
                       have K4 := Lib.hid hK
                       clear hM hK hK3))
                all_goals
                  go_wp2_with fail
                  go_roundw
                  case rel => exact ⟨i + 1, ao3, 1, ac3, [] ++ out.take 0 ++ [cv] ++ out.drop 0, rfl, by go_num, by omega, (by have h1 := htk.out; have h2 := hd0.out; first | (simp; done) | (simp at h2 ⊢; omega) | (simp at h1 h2 ⊢; omega)), by omega, IU.out, (fun x => by rw [NS.out x, List.nil_append, ins_mem, N1.out x, N2.out]; simp [eq_comm]), ⟨M5.out.1, fun g hg => Nat.le_trans K1.out.size (M5.out.2 g hg)⟩, K1.out.trans K5.out fun _ _ => id⟩
                  case measure => simp [intOf]; omega
              · by_cases hpl : p < lc
                · skip
                  have wsub : IntKind.i64.wrap ((kk : Int) - (p : Int)) = ((kk - p : Nat) : Int) := by rw [show (kk : Int) - (p : Int) = ((kk - p : Nat) : Int) by omega]; exact IntWalk.i64_in _ (by omega)
                  have TK : Hid (∀ V, Keeps (fun _ => False) wc V → ∀ ad, (some ⟨g9, 0, none⟩ : Option Addr) = some ad → ∀ j u, (intK.cs (out.take p))[j]? = some u → V.cell? (ad.add j) = some u) := Lib.hid fun V kV ad ha j u hu => by
                    injection ha with ha
                    subst ha
                    obtain ⟨x, hx, rfl⟩ := ints_at hu
                    rw [List.getElem?_take] at hx
                    split at hx
                    · rw [add_plain _ rfl, Nat.zero_add]; exact HC.out V kV g9 rfl j x hx
                    · cases hx
                  have DK : Hid (∀ V, Keeps (fun _ => False) wc V → ∀ ad, (some ⟨g9, p, none⟩ : Option Addr) = some ad → ∀ j u, (intK.cs (out.drop p))[j]? = some u → V.cell? (ad.add j) = some u) := Lib.hid fun V kV ad ha j u hu => by
                    injection ha with ha
                    subst ha
                    obtain ⟨x, hx, rfl⟩ := ints_at hu
                    rw [List.getElem?_drop] at hx
                    rw [add_plain _ rfl]; exact HC.out V kV g9 rfl (p + j) x hx
                  have oA : Hid (Mine intK wc ((wc.alloc (.cells #[] 3)).drew) (.slice (some ⟨wc.heap.size, 0, none⟩) 0 0) []) := Lib.hid ⟨row_none intK (Whole.made wc _ _).drew rfl, fun g hg => by simp [Value.ownBlock] at hg; omega⟩
                  have oB : Hid (Mine intK wc (((wc.alloc (.cells #[] 3)).alloc (.cells #[.int .i64 cv] 3)).drew) (.slice (some ⟨wc.heap.size, 0, none⟩) 0 0) []) := Lib.hid ⟨row_none intK ((Whole.made wc _ _).alloc _).drew rfl, fun g hg => by simp [Value.ownBlock] at hg; omega⟩
                  have oC : Hid (Mine intK wc (((wc.alloc (.cells #[.int .i64 cv] 3)).alloc (.cells #[] 3)).drew) (.slice (some ⟨wc.heap.size + 1, 0, none⟩) 0 0) []) := Lib.hid ⟨row_none intK (made_nx wc _ _ _).drew rfl, fun g hg => by simp [Value.ownBlock] at hg; omega⟩
                  have kA : Hid (Keeps (fun _ => False) wc ((wc.alloc (.cells #[] 3)).drew)) := Lib.hid ((Keeps.refl _ wc).alloc _).drew
                  have kB : Hid (Keeps (fun _ => False) wc (((wc.alloc (.cells #[] 3)).alloc (.cells #[.int .i64 cv] 3)).drew)) := Lib.hid (((Keeps.refl _ wc).alloc _).alloc _).drew
                  have kC : Hid (Keeps (fun _ => False) wc (((wc.alloc (.cells #[.int .i64 cv] 3)).alloc (.cells #[] 3)).drew)) := Lib.hid (((Keeps.refl _ wc).alloc _).alloc _).drew
                  have lB : Hid (∀ V, Keeps (fun x => (Value.slice (some ⟨wc.heap.size, 0, none⟩) 0 0).ownBlock = some x) (((wc.alloc (.cells #[] 3)).alloc (.cells #[.int .i64 cv] 3)).drew) V → IRow V (.slice (some ⟨wc.heap.size + 1, 0, none⟩) 1 1) [cv]) := Lib.hid fun V kV => ownsRow_keeps (row_of intK (l := [cv]) (made_nx wc _ _ _).drew rfl (by omega)) kV fun g hg e => by simp [Value.ownBlock] at hg e; omega
                  have lC : Hid (∀ V, Keeps (fun x => (Value.slice (some ⟨wc.heap.size + 1, 0, none⟩) 0 0).ownBlock = some x) (((wc.alloc (.cells #[.int .i64 cv] 3)).alloc (.cells #[] 3)).drew) V → IRow V (.slice (some ⟨wc.heap.size, 0, none⟩) 1 1) [cv]) := Lib.hid fun V kV => ownsRow_keeps (row_of intK (l := [cv]) ((Whole.made wc _ _).alloc _).drew rfl (by omega)) kV fun g hg e => by simp [Value.ownBlock] at hg e; omega
                  have hp1 : (p : Int) ≤ (kk : Int) := by omega
                  have hp2 : (kk : Int) ≤ (lc : Int) := by omega
                  have hp3 : (p : Int) < (lc : Int) := by omega
                  have hp4 : (p : Int) ≤ (lc : Int) := by omega
                  have hp0 : (0 : Int) ≤ (p : Int) := by omega
                  have hp5 : ¬ (lc = p) := by omega
                  clear M1 HC shp
                  go_wp2_with fail
                  go_region_held3 (fun _ => True) (trivial)
                    (first
                      | (refine step_append_arg intK rfl _ _ rfl wc (.slice (some ⟨_, 0, none⟩) 0 0) [] (out.take p) rfl (by first | exact oA.out | exact oB.out | exact oC.out) (by first | exact kA.out | exact kB.out | exact kC.out) _ _ _ rfl htk.out (TK.out _ (by first | exact kA.out | exact kB.out | exact kC.out)) (fun e => by cases e) (p) (by simp) (by omega) ?_
                         intro ao ac w3 hM hK hK3
                         have M3 := Lib.hid hM
                         have K3 := Lib.hid hK
                         have M3x : Hid (Mine intK wc (w3.alloc (.cells #[.int .i64 cv] 3)) (.slice ao (p) ac) ([] ++ out.take p)) := Lib.hid (M3.out.same ((Keeps.refl _ _).alloc _))
                         have LR : Hid (IRow (w3.alloc (.cells #[.int .i64 cv] 3)) (.slice (some ⟨w3.heap.size, 0, none⟩) 1 1) [cv]) := Lib.hid (row_of intK (l := [cv]) (Whole.made w3 _ _) rfl (by omega))
                         (try have LL := Lib.hid (lB.out w3 hK3))
                         (try have LL := Lib.hid (lC.out w3 hK3))
                         clear hM hK hK3)
                      | (refine step_append_arg intK rfl _ _ rfl wc _ ([] ++ out.take p ++ [cv]) (out.drop p) rfl M4.out K4.out _ _ _ rfl hdr.out (DK.out _ K4.out) (fun e => by cases e) (kk + 1) (by have h1 := htk.out; have h2 := hdr.out; first | (simp; done) | (simp at h2 ⊢; omega) | (simp at h1 h2 ⊢; omega)) (by omega) ?_
                         intro ao3 ac3 w5 hM hK hK3
                         have M5 := Lib.hid hM
                         have K5 := Lib.hid hK
                         clear hM hK hK3)
                      | (refine step_append_f intK rfl _ _ rfl wc _ ([] ++ out.take p) [cv] rfl (by first | exact M3.out | exact M3x.out) (by first | exact K3.out | exact K3.out.alloc _) _ rfl (by first | exact LR.out | exact LL.out) (p + 1) (by first | (simp; done) | simp [htk.out]) (by omega) ?_
                         intro ao2 ac2 w4 hM hK hK3
                         have M4 := Lib.hid hM
                         have K4 := Lib.hid hK
                         clear hM hK hK3))
                  all_goals
                    go_wp2_with fail
                    go_roundw
                    case rel => exact ⟨i + 1, ao3, kk + 1, ac3, [] ++ out.take p ++ [cv] ++ out.drop p, rfl, by go_num, by omega, (by have h1 := htk.out; have h2 := hdr.out; first | (simp; done) | (simp at h2 ⊢; omega) | (simp at h1 h2 ⊢; omega)), by omega, IU.out, (fun x => by rw [NS.out x, List.nil_append, ins_mem, N1.out x, N2.out]; simp [eq_comm]), ⟨M5.out.1, fun g hg => Nat.le_trans K1.out.size (M5.out.2 g hg)⟩, K1.out.trans K5.out fun _ _ => id⟩
                    case measure => simp [intOf]; omega
                · obtain rfl : kk = p := by omega
                  obtain rfl : lc = kk := by omega
                  have hcl := Lib.hid (show out.drop lc = [] from List.drop_of_length_le (by rw [hkk'.out]; exact Nat.le_refl _))
                  have TK : Hid (∀ V, Keeps (fun _ => False) wc V → ∀ ad, (some ⟨g9, 0, none⟩ : Option Addr) = some ad → ∀ j u, (intK.cs (out.take lc))[j]? = some u → V.cell? (ad.add j) = some u) := Lib.hid fun V kV ad ha j u hu => by
                    injection ha with ha
                    subst ha
                    obtain ⟨x, hx, rfl⟩ := ints_at hu
                    rw [List.getElem?_take] at hx
                    split at hx
                    · rw [add_plain _ rfl, Nat.zero_add]; exact HC.out V kV g9 rfl j x hx
                    · cases hx
                  have DK : Hid (∀ V, Keeps (fun _ => False) wc V → ∀ ad, (some ⟨g9, 0, none⟩ : Option Addr) = some ad → ∀ j u, (intK.cs (out.drop lc))[j]? = some u → V.cell? (ad.add j) = some u) := Lib.hid fun V kV ad ha j u hu => by
                    rw [hcl.out] at hu
                    cases j <;> cases hu
                  have wsub0 : IntKind.i64.wrap 0 = 0 := by decide
                  have hd0 : Hid ((out.drop lc).length = 0) := Lib.hid (by rw [hcl.out]; rfl)
                  have oA : Hid (Mine intK wc ((wc.alloc (.cells #[] 3)).drew) (.slice (some ⟨wc.heap.size, 0, none⟩) 0 0) []) := Lib.hid ⟨row_none intK (Whole.made wc _ _).drew rfl, fun g hg => by simp [Value.ownBlock] at hg; omega⟩
                  have oB : Hid (Mine intK wc (((wc.alloc (.cells #[] 3)).alloc (.cells #[.int .i64 cv] 3)).drew) (.slice (some ⟨wc.heap.size, 0, none⟩) 0 0) []) := Lib.hid ⟨row_none intK ((Whole.made wc _ _).alloc _).drew rfl, fun g hg => by simp [Value.ownBlock] at hg; omega⟩
                  have oC : Hid (Mine intK wc (((wc.alloc (.cells #[.int .i64 cv] 3)).alloc (.cells #[] 3)).drew) (.slice (some ⟨wc.heap.size + 1, 0, none⟩) 0 0) []) := Lib.hid ⟨row_none intK (made_nx wc _ _ _).drew rfl, fun g hg => by simp [Value.ownBlock] at hg; omega⟩
                  have kA : Hid (Keeps (fun _ => False) wc ((wc.alloc (.cells #[] 3)).drew)) := Lib.hid ((Keeps.refl _ wc).alloc _).drew
                  have kB : Hid (Keeps (fun _ => False) wc (((wc.alloc (.cells #[] 3)).alloc (.cells #[.int .i64 cv] 3)).drew)) := Lib.hid (((Keeps.refl _ wc).alloc _).alloc _).drew
                  have kC : Hid (Keeps (fun _ => False) wc (((wc.alloc (.cells #[.int .i64 cv] 3)).alloc (.cells #[] 3)).drew)) := Lib.hid (((Keeps.refl _ wc).alloc _).alloc _).drew
                  have lB : Hid (∀ V, Keeps (fun x => (Value.slice (some ⟨wc.heap.size, 0, none⟩) 0 0).ownBlock = some x) (((wc.alloc (.cells #[] 3)).alloc (.cells #[.int .i64 cv] 3)).drew) V → IRow V (.slice (some ⟨wc.heap.size + 1, 0, none⟩) 1 1) [cv]) := Lib.hid fun V kV => ownsRow_keeps (row_of intK (l := [cv]) (made_nx wc _ _ _).drew rfl (by omega)) kV fun g hg e => by simp [Value.ownBlock] at hg e; omega
                  have lC : Hid (∀ V, Keeps (fun x => (Value.slice (some ⟨wc.heap.size + 1, 0, none⟩) 0 0).ownBlock = some x) (((wc.alloc (.cells #[.int .i64 cv] 3)).alloc (.cells #[] 3)).drew) V → IRow V (.slice (some ⟨wc.heap.size, 0, none⟩) 1 1) [cv]) := Lib.hid fun V kV => ownsRow_keeps (row_of intK (l := [cv]) ((Whole.made wc _ _).alloc _).drew rfl (by omega)) kV fun g hg e => by simp [Value.ownBlock] at hg e; omega
                  have hp4 : (lc : Int) ≤ (lc : Int) := by omega
                  have hp0 : (0 : Int) ≤ (lc : Int) := by omega
                  clear M1 HC shp
                  go_wp2_with fail
                  go_region_held3 (fun _ => True) (trivial)
                    (first
                      | (refine step_append_arg intK rfl _ _ rfl wc (.slice (some ⟨_, 0, none⟩) 0 0) [] (out.take lc) rfl (by first | exact oA.out | exact oB.out | exact oC.out) (by first | exact kA.out | exact kB.out | exact kC.out) _ _ _ rfl htk.out (TK.out _ (by first | exact kA.out | exact kB.out | exact kC.out)) (fun e => by cases e) (lc) (by simp) (by omega) ?_
                         intro ao ac w3 hM hK hK3
                         have M3 := Lib.hid hM
                         have K3 := Lib.hid hK
                         have M3x : Hid (Mine intK wc (w3.alloc (.cells #[.int .i64 cv] 3)) (.slice ao (lc) ac) ([] ++ out.take lc)) := Lib.hid (M3.out.same ((Keeps.refl _ _).alloc _))
                         have LR : Hid (IRow (w3.alloc (.cells #[.int .i64 cv] 3)) (.slice (some ⟨w3.heap.size, 0, none⟩) 1 1) [cv]) := Lib.hid (row_of intK (l := [cv]) (Whole.made w3 _ _) rfl (by omega))
                         (try have LL := Lib.hid (lB.out w3 hK3))
                         (try have LL := Lib.hid (lC.out w3 hK3))
                         clear hM hK hK3)
                      | (refine step_append_arg intK rfl _ _ rfl wc _ ([] ++ out.take lc ++ [cv]) (out.drop lc) rfl M4.out K4.out _ _ _ rfl hd0.out (DK.out _ K4.out) (fun _ => rfl) (lc + 1) (by have h1 := htk.out; have h2 := hd0.out; first | (simp; done) | (simp at h2 ⊢; omega) | (simp at h1 h2 ⊢; omega)) (by omega) ?_
                         intro ao3 ac3 w5 hM hK hK3
                         have M5 := Lib.hid hM
                         have K5 := Lib.hid hK
                         clear hM hK hK3)
                      | (refine step_append_f intK rfl _ _ rfl wc _ ([] ++ out.take lc) [cv] rfl (by first | exact M3.out | exact M3x.out) (by first | exact K3.out | exact K3.out.alloc _) _ rfl (by first | exact LR.out | exact LL.out) (lc + 1) (by first | (simp; done) | simp [htk.out]) (by omega) ?_
                         intro ao2 ac2 w4 hM hK hK3
                         have M4 := Lib.hid hM
                         have K4 := Lib.hid hK
                         clear hM hK hK3))
                  all_goals
                    go_wp2_with fail
                    go_roundw
                    case rel => exact ⟨i + 1, ao3, lc + 1, ac3, [] ++ out.take lc ++ [cv] ++ out.drop lc, rfl, by go_num, by omega, (by have h1 := htk.out; have h2 := hd0.out; first | (simp; done) | (simp at h2 ⊢; omega) | (simp at h1 h2 ⊢; omega)), by omega, IU.out, (fun x => by rw [NS.out x, List.nil_append, ins_mem, N1.out x, N2.out]; simp [eq_comm]), ⟨M5.out.1, fun g hg => Nat.le_trans K1.out.size (M5.out.2 g hg)⟩, K1.out.trans K5.out fun _ _ => id⟩
                    case measure => simp [intOf]; omega
    · obtain rfl : i = n := by omega
      have b1 : ¬ (i : Int) < (i : Int) := by omega
      have NE := Lib.hid (show ∀ x, x ∈ out ↔ Named L x from fun x => by have := hN x; rwa [List.take_of_length_le (by rw [hLn'.out]; exact Nat.le_refl _)] at this)
      clear hU hN hM hK hkk
      go_wp2_with fail
      go_ret
      exact ⟨_, rfl, out, M1.out.1, U1.out, NE.out, by have := hkk'.out; omega, K2.out.trans K1.out fun _ _ => id⟩
end Go.Proofs.YtpmbkeaimdeglaaDoor

