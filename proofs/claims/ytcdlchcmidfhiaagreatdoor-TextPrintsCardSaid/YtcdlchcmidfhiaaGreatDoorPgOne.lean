/-
  Rows of statements and of lines; concordref09.Lines by contract.
  concordref09.in, arg by contract.
-/
import Derived.Test.YtcdlchcmidfhiaaGreatDoorPgWeight
import Derived.Test.YtcdlchcmidfhiaaGreatDoorRkArg
import Derived.OwnWalk
import Derived.Deep.RegionHeld3

namespace Go.Proofs.YtcdlchcmidfhiaaGreatDoor
open Go.RowKit Go.Extern.Stop Go.Stop Go.Extern

/-- A slice, as a plain value. -/
abbrev Sl := Option Addr × Nat × Nat
def slv (x : Sl) : Value := .slice x.1 x.2.1 x.2.2
/-- A statement, as it lies in memory. -/
abbrev StV := St7 × Sl × Sl
def stCells (x : StV) : List Value := [.int .i64 x.1.k, .int .i64 x.1.c, .int .i64 x.1.r, .int .i64 x.1.ar, .int .i64 x.1.an, .int .i64 x.1.br, .int .i64 x.1.bn, slv x.2.1, slv x.2.2]
/-- A line, as it lies in memory. -/
abbrev LnV := StV × Int
def lnCells (x : LnV) : List Value := stCells x.1 ++ [.int .i64 x.2]

theorem flat_len {α : Type} (f : α → List Value) (n : Nat) (hf : ∀ x, (f x).length = n) (l : List α) : (l.flatMap f).length = l.length * n := by
  induction l with
  | nil => simp
  | cons x t ih => rw [List.flatMap_cons, List.length_append, hf, ih, List.length_cons, Nat.succ_mul]; omega
theorem flat_get {α : Type} (f : α → List Value) (n : Nat) (hf : ∀ x, (f x).length = n) : ∀ (l : List α) (i j : Nat) (x : α), l[i]? = some x → j < n → (l.flatMap f)[i * n + j]? = (f x)[j]?
  | y :: t, 0, j, x, h, hj => by
    simp at h
    subst h
    rw [List.flatMap_cons, Nat.zero_mul, Nat.zero_add, List.getElem?_append_left (by rw [hf]; exact hj)]
  | y :: t, i + 1, j, x, h, hj => by
    have := flat_get f n hf t i j x (by simpa using h) hj
    rw [List.flatMap_cons, List.getElem?_append_right (by rw [hf, Nat.succ_mul]; omega), hf, ← this]
    congr 1
    rw [Nat.succ_mul]; omega
  | [], i, j, x, h, _ => by simp at h

def stK : RK StV where
  T := 22
  e := 45
  size := 9
  bytes := 104
  z := .agg #[.int .i64 0, .int .i64 0, .int .i64 0, .int .i64 0, .int .i64 0, .int .i64 0, .int .i64 0, .slice none 0 0, .slice none 0 0]
  cs := fun l => l.flatMap stCells
  app := fun l m => by simp
  len := fun l => flat_len stCells 9 (fun x => rfl) l
  one := fun l u hu => by
    obtain ⟨x, _, hx⟩ := List.mem_flatMap.1 hu
    simp [stCells, slv] at hx
    rcases hx with rfl | rfl | rfl | rfl | rfl | rfl | rfl | rfl | rfl <;> rfl
  hu := Tryz.underlying22
  info := by kernel_rfl
  zs := rfl
  pos := by decide
  few := by decide
def lineK : RK LnV where
  T := 83
  e := 86
  size := 10
  bytes := 112
  z := .agg #[.int .i64 0, .int .i64 0, .int .i64 0, .int .i64 0, .int .i64 0, .int .i64 0, .int .i64 0, .slice none 0 0, .slice none 0 0, .int .i64 0]
  cs := fun l => l.flatMap lnCells
  app := fun l m => by simp
  len := fun l => flat_len lnCells 10 (fun x => rfl) l
  one := fun l u hu => by
    obtain ⟨x, _, hx⟩ := List.mem_flatMap.1 hu
    simp [lnCells, stCells, slv] at hx
    rcases hx with rfl | rfl | rfl | rfl | rfl | rfl | rfl | rfl | rfl | rfl <;> rfl
  hu := Tryz.underlying83
  info := by kernel_rfl
  zs := rfl
  pos := by decide
  few := by decide

/-- Lines in memory, and what they are. -/
structure LinesAt (w : World) (vs : List LnV) (L : List Ln) : Prop where
  len : vs.length = L.length
  each : ∀ (i : Nat) (x : LnV) (l : Ln), vs[i]? = some x → L[i]? = some l → x.1.1 = l.s ∧ x.2 = (l.d : Int) ∧ SlOf w (slv x.1.2.1) l.B ∧ SlOf w (slv x.1.2.2) l.E
theorem LinesAt.nil_ (w : World) : LinesAt w [] [] := ⟨rfl, fun i x l h _ => by simp at h⟩
theorem LinesAt.app {w : World} {vs us : List LnV} {L M : List Ln} (h : LinesAt w vs L) (h' : LinesAt w us M) : LinesAt w (vs ++ us) (L ++ M) := by
  refine ⟨by simp [h.len, h'.len], fun i x l hx hl => ?_⟩
  rcases Nat.lt_or_ge i vs.length with hi | hi
  · rw [List.getElem?_append_left hi] at hx
    rw [List.getElem?_append_left (by rw [← h.len]; exact hi)] at hl
    exact h.each i x l hx hl
  · rw [List.getElem?_append_right hi] at hx
    rw [List.getElem?_append_right (by rw [← h.len]; exact hi), ← h.len] at hl
    exact h'.each _ x l hx hl
theorem LinesAt.one {w : World} {s : St7} {b e : Sl} {B E : Fo} {d : Nat} (hB : SlOf w (slv b) B) (hE : SlOf w (slv e) E) : LinesAt w [((s, b, e), (d : Int))] [⟨s, B, E, d⟩] := by
  refine ⟨rfl, fun i x l hx hl => ?_⟩
  match i, hx, hl with
  | 0, hx, hl =>
    simp at hx hl
    subst hx
    subst hl
    exact ⟨rfl, rfl, hB, hE⟩
  | i + 1, hx, _ => simp at hx
theorem LinesAt.same {w w' : World} {vs : List LnV} {L : List Ln} (h : LinesAt w vs L) (k : Keeps (fun _ => False) w w') : LinesAt w' vs L :=
  ⟨h.len, fun i x l hx hl => by
    obtain ⟨h1, h2, h3, h4⟩ := h.each i x l hx hl
    exact ⟨h1, h2, h3.same k, h4.same k⟩⟩

/-- A slice's value, plainly. -/
theorem SlOf.plain {w : World} {v : Value} {F : Fo} (h : SlOf w v F) : ∃ x : Sl, v = slv x ∧ x.2.1 = F.len := by
  obtain ⟨a, c, h1, _⟩ := h
  exact ⟨(a, F.len, c), h1, rfl⟩
/-- A line that was laid. -/
theorem line_lit {w : World} {g : Nat} {x : LnV} (h : Whole w g 86 (lnCells x).toArray) : lineK.Row w (.slice (some ⟨g, 0, none⟩) 1 1) [x] :=
  ⟨rfl, .inr ⟨g, 1, _, rfl, Nat.zero_le _, h, Nat.le_refl _, (by decide : 1 ≤ maxLen), rfl, by simp only [lineK, List.flatMap_cons, List.flatMap_nil, List.append_nil]; rfl⟩⟩

set_option maxRecDepth 100000 in
set_option maxHeartbeats 2000000 in
theorem lines_any : ∀ (N : Nat) (F : Fo), F.size ≤ N → ∀ (w0 w : World) (v u : Value) (old : List LnV) (d : Nat), SlOf w0 v F → Mine lineK w0 w u old → Keeps (fun _ => False) w0 w → old.length + F.size ≤ 5000 → d + F.deep ≤ 1000 →
    Calls Tryz.prog 38 #[u, v, .int .i64 (d : Nat)] w fun e w' => ∃ u' new, e = .returned u' ∧ Mine lineK w0 w' u' (old ++ new) ∧ LinesAt w0 new (lin F d) ∧ Keeps (fun _ => False) w0 w' := by
  intro N
  induction N using Nat.strongRecOn with
  | _ N ih =>
    intro F hN w0 w v u old d h hM hK0 few hd
    have it := Lib.hid (fun i (hi : i < F.len) => h.item hi)
    obtain ⟨a, c, rfl, hfit⟩ := h.fit
    obtain ⟨lo0, lc0, rfl, _⟩ := row_shape hM.1
    have IH := Lib.hid (fun G (hG : G.size < F.size) (hG2 : 1 + G.deep ≤ F.deep) (V : World) (q u : Value) (old' : List LnV) (hq : SlOf w0 q G) (hm : Mine lineK w0 V u old') (k : Keeps (fun _ => False) w0 V) (hl : old'.length + G.size ≤ 5000) => ih G.size (by omega) G (Nat.le_refl _) w0 V q u old' (d + 1) hq hm k hl (by omega))
    have hle := Fo.len_le_size F
    obtain ⟨n, hn⟩ : ∃ n, F.len = n := ⟨_, rfl⟩
    rw [hn] at hfit it hle
    have hn' := Lib.hid (show F.items.length = n from hn)
    have few' := Lib.hid few
    have wd : IntKind.i64.wrap ((d : Int) + 1) = ((d + 1 : Nat) : Int) := by rw [show (d : Int) + 1 = ((d + 1 : Nat) : Int) by omega]; exact IntWalk.i64_in _ (by omega)
    have M0 := Lib.hid hM
    have K0 := Lib.hid hK0
    have hn5 : (n : Int) ≤ 5000 := by omega
    clear ih h hn hM hK0 hfit few hle hN
    rw [show F.len = n from hn'.out]
    go_enter Tryz.func38, Tryz.ntmps38
    go_wp2_with fail
    go_loopw [0, 7] (fun lv iv wr => ∃ (i : Nat) (lo : Option Addr) (kk lc : Nat) (new : List LnV), lv = .slice lo kk lc ∧ iv = .int .i64 i ∧ i ≤ n ∧ (old ++ new).length = kk ∧ LinesAt w0 new (lin (F.upto i) d) ∧ Mine lineK w0 wr (.slice lo kk lc) (old ++ new) ∧ Keeps (fun _ => False) w0 wr) (fun _ iv _ => n - (intOf iv).toNat)
    case atStart => exact ⟨0, lo0, _, lc0, [], rfl, rfl, Nat.zero_le _, by simp, by rw [Fo.upto_zero]; exact LinesAt.nil_ w0, by rw [List.append_nil]; exact M0.out, K0.out⟩
    case round =>
      obtain ⟨i, lo, kk, lc, new, rfl, rfl, hi, hkk, hL, hM, hK⟩ := hrel
      have L1 := Lib.hid hL
      have M1 := Lib.hid hM
      have K1 := Lib.hid hK
      have hkk' := Lib.hid hkk
      by_cases hlt : i < n
      · have b1 : (i : Int) < (n : Int) := by omega
        obtain ⟨b, o, c', s, B, E, hv, hx, hat⟩ := it.out i hlt
        injection hv with hv _ hc
        subst hv
        subst hc
        obtain ⟨h7, ⟨vB, cB, oB⟩, ⟨vE, cE, oE⟩⟩ := hat
        have sz := Fo.item_size hx
        have dp := Fo.item_deep hx
        have su := Fo.size_upto (F := F) (i + 1)
        have lu := lin_upto hx d
        have lnew : new.length = (F.upto i).size := by rw [hL.len, lin_len]
        have lsz : (F.upto (i + 1)).size = (F.upto i).size + 1 + B.size + E.size := by rw [Fo.upto_add hx, Fo.size_app]; simp [Fo.size]; omega
        have hroom : kk + 1 + B.size + E.size ≤ 5000 := by have := few'.out; rw [← hkk, List.length_append]; omega
        obtain ⟨xB, rfl, -⟩ := oB.plain
        obtain ⟨xE, rfl, -⟩ := oE.plain
        have row : Hid (∀ V, Keeps (fun _ => False) w0 V → V.cell? ⟨b, o + i * 9 + 7, none⟩ = some (slv xB) ∧ V.cell? ⟨b, o + i * 9 + 8, none⟩ = some (slv xE)) := Lib.hid fun V k => ⟨(k.cell (cell_lt cB) id).trans cB, (k.cell (cell_lt cE) id).trans cE⟩
        obtain ⟨f7, f8⟩ := row.out wr hK
        have g7 := h7.keeps hK fun _ _ => id
        have f0 := g7.k
        have f1 := g7.c
        have f2 := g7.r
        have f3 := g7.ar
        have f4 := g7.an
        have f5 := g7.br
        have f6 := g7.bn
        have IB := Lib.hid (IH.out B (by omega) dp.1)
        have IE := Lib.hid (IH.out E (by omega) dp.2)
        have LL : Hid (∀ nB nE, LinesAt w0 nB (lin B (d + 1)) → LinesAt w0 nE (lin E (d + 1)) → LinesAt w0 (new ++ ((s, xB, xE), (d : Int)) :: (nB ++ nE)) (lin (F.upto (i + 1)) d)) := Lib.hid fun nB nE q1 q2 => by
          rw [lu]
          exact L1.out.app ((LinesAt.one oB oE).app (q1.app q2))
        have oB := Lib.hid oB
        have oE := Lib.hid oE
        clear hL hM hK hkk g7 h7 cB cE hx lu lnew lsz su sz dp
        unfold slv at f7 f8
        go_wp2_with (at_builtin; refine wpList_append_row lineK rfl _ _ rfl w0 _ (old ++ new) [((s, xB, xE), (d : Int))] rfl (M1.out.same ((Keeps.refl _ _).alloc _)) (K1.out.alloc _) _ rfl (line_lit (x := ((s, xB, xE), (d : Int))) (Whole.made wr 86 (lnCells ((s, xB, xE), (d : Int))).toArray)) (kk + 1) (by rw [hkk'.out]; rfl) (by omega) ?_; intro ao2 ac2 w2 hM hK hK3; have M2 := Lib.hid hM; have K2 := Lib.hid hK; have q := row.out w2 hK; unfold slv at q; obtain ⟨f9, f10⟩ := q; clear hM hK hK3)
        refine (IB.out w2 (slv xB) _ _ oB.out M2.out K2.out (by rw [List.length_append, hkk'.out]; simp; omega)).mono ?_
        rintro e w3 ⟨u3, nB, rfl, hM, hL, hK⟩
        have M3 := Lib.hid hM
        have K3 := Lib.hid hK
        have L3 := Lib.hid hL
        obtain ⟨lo3, lc3, rfl, _⟩ := row_shape hM.1
        have q := row.out w3 hK
        unfold slv at q
        obtain ⟨f11, f12⟩ := q
        have l3 := hL.len
        rw [lin_len] at l3
        obtain ⟨k3, hk3⟩ : ∃ k, (old ++ new ++ [((s, xB, xE), (d : Int))] ++ nB).length = k := ⟨_, rfl⟩
        rw [hk3] at M3
        have e3 : k3 = kk + 1 + B.size := by rw [← hk3, List.length_append, List.length_append, hkk'.out, l3]; rfl
        have hk3' := Lib.hid hk3
        have e3' := Lib.hid e3
        have l3' := Lib.hid l3
        rw [hk3]
        clear hM hL hK hk3 f9 f10 e3 l3
        go_wp2_with fail
        refine (IE.out w3 (slv xE) _ _ oE.out M3.out K3.out (by rw [hk3'.out, e3'.out]; omega)).mono ?_
        rintro e w4 ⟨u4, nE, rfl, hM, hL, hK⟩
        have M4 := Lib.hid hM
        have K4 := Lib.hid hK
        have L4 := Lib.hid hL
        obtain ⟨lo4, lc4, rfl, _⟩ := row_shape hM.1
        have ee : old ++ new ++ [((s, xB, xE), (d : Int))] ++ nB ++ nE = old ++ (new ++ ((s, xB, xE), (d : Int)) :: (nB ++ nE)) := by simp
        rw [ee] at M4 ⊢
        obtain ⟨k4, hk4⟩ : ∃ k, (old ++ (new ++ ((s, xB, xE), (d : Int)) :: (nB ++ nE))).length = k := ⟨_, rfl⟩
        rw [hk4] at M4 ⊢
        have hk4' := Lib.hid hk4
        have L5 := Lib.hid (LL.out nB nE L3.out L4.out)
        clear hM hL hK hk4 f11 f12 ee
        go_wp2_with fail
        go_roundw
        case rel => exact ⟨i + 1, lo4, k4, lc4, _, rfl, by go_num, by omega, hk4'.out, L5.out, M4.out, K4.out⟩
        case measure => simp [intOf]; omega
      · obtain rfl : i = n := by omega
        have b1 : ¬ (i : Int) < (i : Int) := by omega
        have ul : F.upto i = F := Fo.upto_all (by unfold Fo.len; rw [hn'.out]; exact Nat.le_refl _)
        rw [ul] at L1
        clear hL hM hK hkk ul
        go_wp2_with fail
        go_ret
        exact ⟨_, rfl, new, M1.out, L1.out, K1.out⟩
end Go.Proofs.YtcdlchcmidfhiaaGreatDoor

namespace Go.Proofs.YtcdlchcmidfhiaaGreatDoor
open Go.RowKit Go.Extern.Stop Go.Stop Go.Extern

theorem inL_true {n : Int} {l : List Int} {i : Nat} (h : l[i]? = some n) : inL n l = true := by
  unfold inL
  rw [List.any_eq_true]
  exact ⟨n, List.mem_of_getElem? h, by simp⟩
theorem inL_false {n : Int} {l : List Int} (h : ∀ (j : Nat) (x : Int), l[j]? = some x → x ≠ n) : inL n l = false := by
  unfold inL
  rw [List.any_eq_false]
  intro x hx
  obtain ⟨j, hj⟩ := List.getElem?_of_mem hx
  simpa using h j x hj

set_option maxRecDepth 100000 in
theorem in_any {w : World} {v : Value} {l : List Int} (h : IRow w v l) (few : l.length ≤ 100000) (n : Int) :
    Calls Tryz.prog 64 #[.int .i64 n, v] w fun e w' => e = .returned (.bool (inL n l)) ∧ w = w' := by
  obtain ⟨m, hm⟩ : ∃ m, l.length = m := ⟨_, rfl⟩
  obtain ⟨o, c, rfl, ho⟩ := irow_cells h hm
  have hm' := Lib.hid hm
  rw [hm] at few
  have few' : (m : Int) ≤ 100000 := by omega
  have HO := Lib.hid ho
  clear h hm few ho
  go_enter Tryz.func64, Tryz.ntmps64
  go_wp2_with fail
  go_loop [5] (fun iv => ∃ i : Nat, iv = .int .i64 i ∧ i ≤ m ∧ ∀ (j : Nat) (x : Int), j < i → l[j]? = some x → x ≠ n) (fun iv => m - (intOf iv).toNat)
  case atStart => exact ⟨0, rfl, Nat.zero_le _, fun j x h => absurd h (Nat.not_lt_zero _)⟩
  case round =>
    obtain ⟨i, rfl, hi, hk⟩ := hrel
    have K1 := Lib.hid hk
    clear hk
    by_cases hlt : i < m
    · have b1 : (i : Int) < (m : Int) := by omega
      obtain ⟨g, rfl, hc⟩ := HO.out (by omega)
      obtain ⟨d, hd⟩ : ∃ d, l[i]? = some d := ⟨_, List.getElem?_eq_getElem (by rw [hm'.out]; exact hlt)⟩
      have d0 := hc i _ hd
      have hd' := Lib.hid hd
      clear hc hd
      by_cases e : d = n
      · subst e
        have t1 := Lib.hid (inL_true hd'.out)
        go_wp2_with fail
        go_ret
        exact ⟨by rw [t1.out]; rfl, rfl⟩
      · have hb : (d == n) = false := by simpa using e
        go_wp2_with fail
        go_round
        case rel =>
          refine ⟨i + 1, by go_num, by omega, fun j x hj hx => ?_⟩
          rcases Nat.lt_or_ge j i with h | h
          · exact K1.out j x h hx
          · obtain rfl : j = i := by omega
            rw [hd'.out] at hx
            injection hx with hx
            omega
        case measure => simp [intOf]; omega
    · obtain rfl : i = m := by omega
      have b1 : ¬ (i : Int) < (i : Int) := by omega
      have t1 := Lib.hid (inL_false (l := l) (n := n) fun j x hx => K1.out j x (by have := (List.getElem?_eq_some_iff.1 hx).1; have := hm'.out; omega) hx)
      go_wp2_with fail
      go_ret
      exact ⟨by rw [t1.out]; rfl, rfl⟩

/-- Is a number one of some that were laid? -/
theorem in_lit {w : World} {g : Nat} {l : List Int} (n : Int) (m : Nat) (hm : l.length = m) (few : m ≤ 100000) (h : Whole w g 3 (intK.cs l).toArray) :
    Calls Tryz.prog 64 #[.int .i64 n, .slice (some ⟨g, 0, none⟩) m m] w fun e w' => e = .returned (.bool (inL n l)) ∧ w = w' :=
  in_any (row_of intK h hm few) (by omega) n

theorem arg_yes (r n : Int) (w : World) :
    Calls Tryz.prog 65 #[.agg #[.int .i64 r, .int .i64 n], .bool true] w fun e w' => e = .returned (.bool (argOk r n true)) ∧ Keeps (fun _ => False) w w' := by
  have k : Hid (Keeps (fun _ => False) w (w.alloc (.cells #[.int .i64 r, .int .i64 n] 43))) := Lib.hid ((Keeps.refl _ w).alloc _)
  obtain ⟨x, hx⟩ : ∃ x, argOk r n true = x := ⟨_, rfl⟩
  rw [hx]
  have e : x = decide (0 ≤ r ∧ r ≤ 8 ∧ -999 ≤ n ∧ n ≤ 999) := by rw [← hx]; rfl
  have e' := Lib.hid e
  clear hx e
  by_cases h1 : 0 ≤ r
  · by_cases h2 : r ≤ 8
    · by_cases h3 : -999 ≤ n
      · by_cases h4 : n ≤ 999
        · obtain rfl : x = true := by rw [e'.out]; exact decide_eq_true ⟨h1, h2, h3, h4⟩
          go_enter Tryz.func65, Tryz.ntmps65
          go_wp2
          go_ret
          exact ⟨rfl, k.out⟩
        · obtain rfl : x = false := by rw [e'.out]; exact decide_eq_false (by omega)
          go_enter Tryz.func65, Tryz.ntmps65
          go_wp2
          go_ret
          exact ⟨rfl, k.out⟩
      · obtain rfl : x = false := by rw [e'.out]; exact decide_eq_false (by omega)
        go_enter Tryz.func65, Tryz.ntmps65
        go_wp2
        go_ret
        exact ⟨rfl, k.out⟩
    · obtain rfl : x = false := by rw [e'.out]; exact decide_eq_false (by omega)
      go_enter Tryz.func65, Tryz.ntmps65
      go_wp2
      go_ret
      exact ⟨rfl, k.out⟩
  · obtain rfl : x = false := by rw [e'.out]; exact decide_eq_false (by omega)
    go_enter Tryz.func65, Tryz.ntmps65
    go_wp2
    go_ret
    exact ⟨rfl, k.out⟩
theorem arg_no (r n : Int) (w : World) :
    Calls Tryz.prog 65 #[.agg #[.int .i64 r, .int .i64 n], .bool false] w fun e w' => e = .returned (.bool (argOk r n false)) ∧ Keeps (fun _ => False) w w' := by
  have k : Hid (Keeps (fun _ => False) w (w.alloc (.cells #[.int .i64 r, .int .i64 n] 43))) := Lib.hid ((Keeps.refl _ w).alloc _)
  obtain ⟨x, hx⟩ : ∃ x, argOk r n false = x := ⟨_, rfl⟩
  rw [hx]
  have e : x = decide (r = 0 ∧ n = 0) := by rw [← hx]; rfl
  have e' := Lib.hid e
  clear hx e
  by_cases h1 : r = 0
  · by_cases h2 : n = 0
    · obtain rfl : x = true := by rw [e'.out]; exact decide_eq_true ⟨h1, h2⟩
      subst h1
      subst h2
      go_enter Tryz.func65, Tryz.ntmps65
      go_wp2
      go_ret
      exact ⟨rfl, k.out⟩
    · obtain rfl : x = false := by rw [e'.out]; exact decide_eq_false (by omega)
      subst h1
      have hb : (n == 0) = false := by simpa using h2
      go_enter Tryz.func65, Tryz.ntmps65
      go_wp2
      go_ret
      exact ⟨rfl, k.out⟩
  · obtain rfl : x = false := by rw [e'.out]; exact decide_eq_false (by omega)
    have hb : (r == 0) = false := by simpa using h1
    go_enter Tryz.func65, Tryz.ntmps65
    go_wp2
    go_ret
    exact ⟨rfl, k.out⟩
theorem arg_any (r n : Int) (b : Bool) (w : World) :
    Calls Tryz.prog 65 #[.agg #[.int .i64 r, .int .i64 n], .bool b] w fun e w' => e = .returned (.bool (argOk r n b)) ∧ Keeps (fun _ => False) w w' := by
  cases b
  · exact arg_no r n w
  · exact arg_yes r n w
end Go.Proofs.YtcdlchcmidfhiaaGreatDoor
