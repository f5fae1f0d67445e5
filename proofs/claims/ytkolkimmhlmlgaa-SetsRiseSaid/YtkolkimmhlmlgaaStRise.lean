/-
  The statement SetsRise: called with any calls, concordlaw07.SetsRise returns true and changes nothing. No conditions.
-/
import Derived.Test.YtkolkimmhlmlgaaStArgs
import Derived.Test.YtkolkimmhlmlgaaRows
import Derived.ProofKit
import Derived.OpenShut
import Derived.ShutString
import Derived.ChangeOld
import Derived.Deep.QuietTactic
import Derived.BigQuiet
namespace Go.Proofs.Ytkolkimmhlmlgaa
open Go.RowKit Go.Maps Go.Extern.Stop Go.Stop Go.Extern
open Go.ChangeShapes Go.WideShapes Go.ChangeAt

/-- What was written last of a cell. -/
def lastW (o : Option Int) (L : List Act7) (k : Int) : Option Int := L.foldl (fun o x => if k = x.c then some x.v else o) o

theorem lastW_snoc (o : Option Int) (L : List Act7) (x : Act7) (k : Int) : lastW o (L ++ [x]) k = if k = x.c then some x.v else lastW o L k := by simp [lastW]
theorem lastW_app (o : Option Int) (L M : List Act7) (k : Int) : lastW o (L ++ M) k = lastW (lastW o L k) M k := by simp [lastW]
theorem lastW_cons (o : Option Int) (x : Act7) (L : List Act7) : lastW o (x :: L) x.c = lastW (some x.v) L x.c := by simp [lastW]
theorem lastW_some {L : List Act7} {v k : Int} : ∃ u, lastW (some v) L k = some u := by
  induction L generalizing v with
  | nil => exact ⟨v, rfl⟩
  | cons x t ih =>
    show ∃ u, lastW (if k = x.c then some x.v else some v) t k = some u
    split
    · exact ih
    · exact ih
/-- What the whole run leaves of the i-th cell is what the rest from i on leaves. -/
theorem lastW_rest {L : List Act7} {i : Nat} {x : Act7} (h : L[i]? = some x) : lastW none L x.c = lastW (some x.v) (L.drop i) x.c := by
  have hi : i < L.length := (List.getElem?_eq_some_iff.1 h).1
  have e : L.drop i = x :: L.drop (i + 1) := by
    rw [← List.getElem_cons_drop hi]
    rw [List.getElem?_eq_getElem hi] at h
    injection h with h
    rw [h]
  have e2 : lastW none L x.c = lastW (lastW none (L.take i) x.c) (L.drop i) x.c := by rw [← lastW_app, List.take_append_drop]
  rw [e2, e, lastW_cons, lastW_cons]

/-- Behind i writes. -/
structure Rs (L : List Act7) (i : Nat) (A : AS) : Prop where
  look : ∀ k, look A.W k = lastW none (L.take i) k
  few : A.W.length ≤ i

theorem Rs.write {L : List Act7} {i : Nat} {A : AS} (h : Rs L i A) (hi : i < 500) (c v : Int) : aWrite A c v = ({ A with W := put A.W c v }, 0) := by
  unfold aWrite
  rw [if_neg (fun e => by have := h.few; have := e.2; omega)]
theorem Rs.next {L : List Act7} {i : Nat} {A : AS} {x : Act7} (h : Rs L i A) (ok : A.Ok) (hx : L[i]? = some x) : Rs L (i + 1) { A with W := put A.W x.c x.v } where
  look := fun k => by
    show Go.Proofs.Ytkolkimmhlmlgaa.look (put A.W x.c x.v) k = _
    rw [look_put, List.take_add_one, hx]
    show _ = lastW none (L.take i ++ [x]) k
    rw [lastW_snoc, h.look k]
  few := by
    show (put A.W x.c x.v).length ≤ i + 1
    have := h.few
    by_cases hc : Go.Proofs.Ytkolkimmhlmlgaa.look A.W x.c = none
    · rw [len_put_new ok.up hc]; omega
    · rw [len_put_there ok.up hc]; omega

theorem up_lt {W : Tl} (h : UpW W) {i j : Nat} {p q : Int × Int} (hp : W[i]? = some p) (hq : W[j]? = some q) (hij : i < j) : p.1 < q.1 := by
  have h' : W.Pairwise (fun a b => a.1 < b.1) := List.pairwise_map.1 h
  obtain ⟨hi, rfl⟩ := List.getElem?_eq_some_iff.1 hp
  obtain ⟨hj, rfl⟩ := List.getElem?_eq_some_iff.1 hq
  exact List.pairwise_iff_getElem.1 h' i j hi hj hij

set_option maxRecDepth 100000 in
set_option maxHeartbeats 2000000 in
theorem setsRise_walk (a : Option Addr) (len cap : Nat) (w : World) (w0 : Acts7 w a len cap) :
    Calls Try.prog 3 #[.slice a len cap] w fun e w' => e = .returned (.bool true) ∧ Below w.heap.size w w' := by
  obtain ⟨L, hL⟩ := w0.list
  have LL := Lib.hid hL
  have hfit := hL.fit.1
  have hcapm : (cap : Int) ≤ 9223372036854775807 := by have := hL.fit.2; unfold maxLen at this; omega
  clear hL w0
  by_cases hbig : 80 < len
  · have b0 : (80 : Int) < (len : Int) := by omega
    go_enter Try.func3, Try.ntmps3
    go_wp2_with fail
    refine (new_on _).mono ?_
    rintro e w1 ⟨s, rfl, h1⟩
    have K1 := Lib.hid h1.keeps
    clear h1
    go_wp2_with (first | (go_at_call 7; refine (alive_any _).mono ?_; rintro e w5 ⟨rfl, k5⟩; have K5 := Lib.hid k5; clear k5))
    go_ret
    exact ⟨rfl, (K1.out.trans_ K5.out).below (Nat.le_refl _) (fun _ _ h => h)⟩
  have b0 : ¬ (80 : Int) < (len : Int) := by omega
  have hn : len ≤ 80 := by omega
  clear hbig
  go_enter Try.func3, Try.ntmps3
  go_wp2_with fail
  refine (new_on _).mono ?_
  rintro e w1 ⟨s, rfl, h1⟩
  have O1 := Lib.hid h1
  clear h1
  go_wp2_with fail
  go_loopw [31] (fun iv wr => ∃ (i : Nat) (A : AS), iv = .int .i64 i ∧ i ≤ len ∧ Rs L i A ∧ On w wr s A) (fun iv _ => len - (intOf iv).toNat)
  case atStart => exact ⟨0, _, rfl, Nat.zero_le _, ⟨fun _ => rfl, Nat.le_refl _⟩, O1.out⟩
  case round =>
    obtain ⟨i, A, rfl, hi, hF, hO⟩ := hrel
    by_cases hlt : i < len
    · have b1 : (i : Int) < (len : Int) := by omega
      obtain ⟨b, o, rfl, hc⟩ := LL.out.at_ (by omega)
      obtain ⟨x, hx⟩ : ∃ x, L[i]? = some x := ⟨_, List.getElem?_eq_getElem (by rw [LL.out.len]; exact hlt)⟩
      obtain ⟨q0, q1, q2, q3⟩ := hc i x hx
      have K := hO.keeps
      have d0 := (K.cell (cell_lt q0) id).trans q0
      have d1 := (K.cell (cell_lt q1) id).trans q1
      have d2 := (K.cell (cell_lt q2) id).trans q2
      have d3 := (K.cell (cell_lt q3) id).trans q3
      have hwf := LL.out.wf x (List.mem_of_getElem? hx)
      have c1 := write_on (hO.same ((Keeps.refl (fun _ => False) wr).alloc (.cells #[.int .i64 x.k, .int .u64 x.c, .int .u64 x.v, .int .i64 x.n] 28))) x.c x.v hwf
      rw [hF.write (by omega)] at c1
      have F2 := Lib.hid (hF.next hO.ok hx)
      have C1 := Lib.hid c1
      clear c1 K q0 q1 q2 q3 hc hF hO hwf hx
      obtain ⟨xk, xc, xv, xn⟩ := x
      simp only at d0 d1 d2 d3
      go_wp2_with fail
      refine C1.out.mono ?_
      rintro e w2 ⟨ev, rfl, he, h2⟩
      obtain rfl := he.nil
      have O2 := Lib.hid h2
      clear h2 he
      go_wp2_with (first | (go_at_call 8; refine (no_nil _).mono ?_; rintro e w' ⟨rfl, rfl⟩))
      go_roundw
      case rel => exact ⟨i + 1, _, by go_num, by omega, F2.out, O2.out⟩
      case measure => simp [intOf]; omega
    · obtain rfl : i = len := by omega
      have b1 : ¬ (i : Int) < (i : Int) := by omega
      have hlook : ∀ k, look A.W k = lastW none L k := fun k => by
        have := hF.look k
        rwa [← LL.out.len, List.take_length] at this
      have hlook' := Lib.hid hlook
      have hW80 : A.W.length ≤ 80 := by have := hF.few; omega
      obtain ⟨m, hm⟩ : ∃ m, A.W.length = m := ⟨_, rfl⟩
      have hm' := Lib.hid hm
      rw [hm] at hW80
      have U := Lib.hid hO.ok.up
      have C1 := Lib.hid (writes_on hO)
      clear hF hO hlook hm
      go_wp2_with fail
      refine C1.out.mono ?_
      rintro e w2 ⟨u, rfl, hu, h2, _⟩
      obtain ⟨uo, uc, rfl, ho⟩ := row_shape hu
      rw [hm'.out] at ho
      have R2 := Lib.hid hu
      have O2 := Lib.hid h2
      rw [hm'.out]
      clear hu h2
      go_wp2_with fail
      go_loopw [48] (fun iv wr => ∃ (j : Nat), iv = .int .i64 j ∧ j ≤ m ∧ Keeps (fun _ => False) w2 wr) (fun iv _ => m - (intOf iv).toNat)
      case atStart => exact ⟨0, rfl, Nat.zero_le _, Keeps.refl _ _⟩
      case round =>
        obtain ⟨j, rfl, hj, hK⟩ := hrel
        have K2 := Lib.hid hK
        by_cases hlt : j < m
        · have b2 : (j : Int) < (m : Int) := by omega
          obtain ⟨g, rfl⟩ := ho (by omega)
          obtain ⟨c, v, hcv⟩ : ∃ c v, A.W[j]? = some (c, v) := ⟨_, _, List.getElem?_eq_getElem (by rw [hm'.out]; exact hlt)⟩
          have hl := look_nth U.out hcv
          simp only at hl
          have hwf : wfU c := by
            obtain ⟨X, hX, _⟩ := O2.out
            obtain ⟨pb, wb, vr, vm, lb, lg, hX⟩ := hX
            exact hX.writes.wf Try.underlying26 (by rw [hl]; rfl)
          have rw2 := R2.out
          unfold Row2 at rw2
          rw [hm'.out] at rw2
          have q0 := (rw2.cellAt (j * 2) (by omega)).trans (cells2_fst _ _ j _ hcv)
          have q1 := (rw2.cellAt (j * 2 + 1) (by omega)).trans (cells2_snd _ _ j _ hcv)
          have d0 := (hK.cell (cell_lt q0) id).trans q0
          have d1 := (hK.cell (cell_lt q1) id).trans q1
          have cg := get_on (O2.out.same hK) c hwf
          rw [hl] at cg
          have CG := Lib.hid cg
          simp only at d0 d1
          rcases Nat.eq_zero_or_pos j with h0 | h0
          · subst h0
            have hd : decide ((0 : Int) < ((0 : Nat) : Int)) = false := by decide
            have hv : (v != v) = false := by simp
            clear cg q0 q1 hK rw2 hcv hl
            go_wp2_with (first | (go_at_call 11; refine CG.out.mono ?_; rintro e w' ⟨rfl, rfl⟩))
            go_quiet (fail)
            go_wp2_with fail
            go_roundw
            case rel => exact ⟨0 + 1, by go_num, by omega, K2.out.drewN nq⟩
            case measure => simp [intOf]; omega
          · obtain ⟨c', v', hcv'⟩ : ∃ c v, A.W[j - 1]? = some (c, v) := ⟨_, _, List.getElem?_eq_getElem (by rw [hm'.out]; omega)⟩
            have hlt' := up_lt U.out hcv' hcv (by omega)
            simp only at hlt'
            have q2 := (rw2.cellAt ((j - 1) * 2) (by omega)).trans (cells2_fst _ _ (j - 1) _ hcv')
            have d2 := (hK.cell (cell_lt q2) id).trans q2
            obtain ⟨j', hj'⟩ : ∃ j', j - 1 = j' := ⟨_, rfl⟩
            rw [hj'] at d2
            have wj : IntKind.i64.wrap ((j : Int) - 1) = (j' : Int) := by rw [show (j : Int) - 1 = (j' : Int) by omega]; exact IntWalk.i64_in _ (by omega)
            have b3 : (j' : Int) < (m : Int) := by omega
            have hd : (0 : Int) < (j : Int) := by omega
            have hd2 : decide (c ≤ c') = false := decide_eq_false (by omega)
            have hv : (v != v) = false := by simp
            simp only at d2
            clear cg q0 q1 q2 hK rw2 hcv hcv' hl hlt'
            go_wp2_with (first | (go_at_call 11; refine CG.out.mono ?_; rintro e w' ⟨rfl, rfl⟩))
            go_quiet (fail)
            go_wp2_with fail
            go_roundw
            case rel => exact ⟨j + 1, by go_num, by omega, K2.out.drewN nq⟩
            case measure => simp [intOf]; omega
        · obtain rfl : j = m := by omega
          have b2 : ¬ (j : Int) < (j : Int) := by omega
          have O3 := Lib.hid (O2.out.same hK)
          clear hK K2 hW80 hj hlt ho
          go_wp2_with fail
          go_loopw [93] (fun iv wr => ∃ (k : Nat), iv = .int .i64 k ∧ k ≤ i ∧ On w wr s A) (fun iv _ => i - (intOf iv).toNat)
          case atStart => exact ⟨0, rfl, Nat.zero_le _, O3.out⟩
          case round =>
            obtain ⟨k, rfl, hk, hO⟩ := hrel
            have O4 := Lib.hid hO
            by_cases hlt : k < i
            · have b3 : (k : Int) < (i : Int) := by omega
              have b4 : (k : Int) ≤ (i : Int) := by omega
              have b5 : (i : Int) ≤ (cap : Int) := by omega
              obtain ⟨b, o, rfl, hc⟩ := LL.out.at_ (by omega)
              obtain ⟨x, hx⟩ : ∃ x, L[k]? = some x := ⟨_, List.getElem?_eq_getElem (by rw [LL.out.len]; exact hlt)⟩
              have hwf := LL.out.wf x (List.mem_of_getElem? hx)
              have HC := Lib.hid hc
              obtain ⟨q0, q1, q2, q3⟩ := hc k x hx
              have z1 := Lib.hid q1
              have K := hO.keeps
              have d2 := (K.cell (cell_lt q2) id).trans q2
              have d1 := (K.cell (cell_lt q1) id).trans q1
              obtain ⟨r, hr⟩ : ∃ r, i - k = r := ⟨_, rfl⟩
              have hrest := lastW_rest hx
              have hx' := Lib.hid hx
              have hrest' := Lib.hid hrest
              obtain ⟨lv, hlv⟩ := lastW_some (L := L.drop k) (v := x.v) (k := x.c)
              have hlv' := Lib.hid hlv
              clear hc q0 q1 q2 q3 K hx hO hrest hlv
              obtain ⟨xk, xc, xv, xn⟩ := x
              simp only at d1 d2
              go_wp2_with fail
              go_loopw [105, 11] (fun iv lv wx => ∃ (t : Nat) (u : Int), iv = .int .i64 t ∧ t ≤ r ∧ lv = .int .u64 u ∧ lastW (some xv) ((L.drop k).take t) xc = some u ∧ On w wx s A) (fun iv _ _ => r - (intOf iv).toNat)
              case atStart => exact ⟨0, xv, rfl, Nat.zero_le _, rfl, rfl, O4.out⟩
              case round =>
                obtain ⟨t, u, rfl, ht, rfl, hfold, hO⟩ := hrel
                by_cases hlt2 : t < r
                · have b6 : (t : Int) < (r : Int) := by omega
                  obtain ⟨y, hy⟩ : ∃ y, L[k + t]? = some y := ⟨_, List.getElem?_eq_getElem (by rw [LL.out.len]; omega)⟩
                  obtain ⟨y0, y1, y2, y3⟩ := HC.out (k + t) y hy
                  rw [show o + (k + t) * 4 = o + k * 4 + t * 4 by omega] at y0 y1 y2 y3
                  have K := hO.keeps
                  have x0 := (K.cell (cell_lt y0) id).trans y0
                  have x1 := (K.cell (cell_lt y1) id).trans y1
                  have x2 := (K.cell (cell_lt y2) id).trans y2
                  have x3 := (K.cell (cell_lt y3) id).trans y3
                  have c1 := (K.cell (cell_lt z1.out) id).trans z1.out
                  have hsnoc : (L.drop k).take (t + 1) = (L.drop k).take t ++ [y] := by
                    rw [List.take_add_one, List.getElem?_drop, hy]; rfl
                  have hnext : lastW (some xv) ((L.drop k).take (t + 1)) xc = if xc = y.c then some y.v else some u := by rw [hsnoc, lastW_snoc, hfold]
                  have H := Lib.hid hnext
                  have O5 := Lib.hid (hO.same ((Keeps.refl (fun _ => False) wr).alloc (.cells #[.int .i64 y.k, .int .u64 y.c, .int .u64 y.v, .int .i64 y.n] 28)))
                  have lb := cell_lt c1
                  clear y0 y1 y2 y3 K hO hfold hsnoc hnext hy
                  obtain ⟨yk, yc, yv, yn⟩ := y
                  simp only at x0 x1 x2 x3 c1 lb
                  by_cases he : yc = xc
                  · subst he
                    go_wp2_with fail
                    go_quiet (fail)
                    go_wp2_with fail
                    go_roundw
                    case rel => exact ⟨t + 1, yv, by go_num, by omega, rfl, by rw [H.out]; simp, O5.out.same ((Keeps.refl (fun _ => False) _).drewN nq)⟩
                    case measure => simp [intOf]; omega
                  · have hb : (yc == xc) = false := by simpa using he
                    go_wp2_with fail
                    go_quiet (fail)
                    go_wp2_with fail
                    go_roundw
                    case rel => exact ⟨t + 1, u, by go_num, by omega, rfl, by rw [H.out, if_neg (fun e => he e.symm)], O5.out.same ((Keeps.refl (fun _ => False) _).drewN nq)⟩
                    case measure => simp [intOf]; omega
                · obtain rfl : t = r := by omega
                  have b6 : ¬ (t : Int) < (t : Int) := by omega
                  have hall : (L.drop k).take t = L.drop k := List.take_of_length_le (by rw [List.length_drop, LL.out.len]; omega)
                  rw [hall, hlv'.out] at hfold
                  injection hfold with hfold
                  subst hfold
                  have hg : look A.W xc = some lv := by rw [hlook'.out, hrest'.out]; exact hlv'.out
                  have K := hO.keeps
                  have c1 := (K.cell (cell_lt z1.out) id).trans z1.out
                  have cg := get_on hO xc hwf
                  rw [hg] at cg
                  have CG := Lib.hid cg
                  have O5 := Lib.hid hO
                  have hv : (lv != lv) = false := by simp
                  clear K hO cg hg hall
                  go_wp2_with (first | (go_at_call 11; refine CG.out.mono ?_; rintro e w' ⟨rfl, rfl⟩))
                  go_roundw
                  case rel => exact ⟨k + 1, by go_num, by omega, O5.out⟩
                  case measure => simp [intOf]; omega
            · obtain rfl : k = i := by omega
              have b3 : ¬ (k : Int) < (k : Int) := by omega
              have K := Lib.hid hO.keeps
              clear hO
              go_wp2_with (first | (go_at_call 7; refine (alive_any _).mono ?_; rintro e w5 ⟨rfl, k5⟩; have K5 := Lib.hid k5; clear k5))
              go_ret
              exact ⟨rfl, (K.out.trans_ K5.out).below (Nat.le_refl _) (fun _ _ h => h)⟩

theorem setsRise_own : ownKnob Try.prog.godebug = none := by kernel_rfl
theorem setsRise_laidOut : laidOutB Try.prog = true := by kernel_rfl

set_option maxRecDepth 100000 in
theorem setsRise_lifted (os : Os) (started : os.Started) (H : Type) (enc : TypeId × Value → H) :
    ReturnsInHanded {} Try.checked os 3 .any (Rows.setsRiseSpec.pre6 enc Try.prog Try.f3 Rows.setsRiseRow.domain false) (Rows.setsRiseSpec.post enc Try.prog Try.f3 false true false false) := by
  refine returnsInHanded_of_change (C := Try.checked) setsRise_own started (by kernel_rfl) Try.func3
    (ChangeSpec.witness6 (enc := enc) (C := Try.checked) false ⟨#[], #[.slice none 0 0], []⟩ 8 (by kernel_rfl) (by kernel_rfl) (by kernel_rfl) (by kernel_rfl)) ?_
  intro W base args ds gs before hval0 hW hcnd _
  clear hcnd
  have hval : ∀ (j : Nat) t v, Try.f3.params[j]? = some t → args[j]? = some v → Value.okWide Try.prog W .any base t v := hval0
  have hW' := hW
  obtain ⟨p, q, hA0, hV, rfl, hfz, hnd⟩ := hW
  have hA : DataW.TrodAll enc Try.prog W 0 (fun _ => true) true Try.f3.params.toList args.toList ds p := hA0
  rw [Try.params3] at hA hval
  obtain ⟨v0, vs0, d0, ds0, p0, q0, hargs, rfl, rfl, h0, r0⟩ := trodAll_cons hA
  obtain ⟨rfl, rfl, rfl⟩ := trodAll_nil r0
  obtain rfl : args = #[v0] := by cases args; simp_all
  obtain ⟨rfl, rfl⟩ := trodVars_none hV
  have k0 := h0
  have lt0 : ∀ x ∈ p0, x.block < W.heap.size := by obtain ⟨m, hm⟩ := k0; exact DataW.trod_lt m _ _ _ hm
  obtain ⟨a0, len0, cap0, rfl⟩ := okWide_slice Try.underlying22 (hval 0 22 v0 rfl rfl)
  have w0 : Acts7 W a0 len0 cap0 := by
    obtain ⟨fuel, hf⟩ := h0
    rcases open_slice_fields Try.underlying22 Try.underlying28 (by kernel_rfl) (by kernel_rfl) hf with ⟨hcs, _⟩ | ⟨x, l, c, m, D, Pl, hcs, _, hl, hm, hmm, _, hi⟩
    · simp [Value.cells] at hcs
      obtain ⟨rfl, rfl, rfl⟩ := hcs
      exact .inl ⟨rfl, rfl, rfl⟩
    · simp [Value.cells] at hcs
      obtain ⟨rfl, rfl, rfl⟩ := hcs
      refine .inr ⟨_, rfl, hl, hm, fun i hlt => ?_⟩
      obtain ⟨ys, n, _, _, _, hf⟩ := hi i (by rw [hmm]; split <;> omega)
      obtain ⟨u0, y0, c0, _, t0⟩ := hf 0 _ rfl
      obtain ⟨z0, e0, _, _⟩ := DataW.trod_int (k := .i64) (by kernel_rfl) t0
      simp at e0
      subst e0
      obtain ⟨u1, y1, c1, _, t1⟩ := hf 1 _ rfl
      obtain ⟨z1, e1, _, g1⟩ := DataW.trod_int (k := .u64) (by kernel_rfl) t1
      simp at e1
      subst e1
      obtain ⟨u2, y2, c2, _, t2⟩ := hf 2 _ rfl
      obtain ⟨z2, e2, _, _⟩ := DataW.trod_int (k := .u64) (by kernel_rfl) t2
      simp at e2
      subst e2
      obtain ⟨u3, y3, c3, _, t3⟩ := hf 3 _ rfl
      obtain ⟨z3, e3, _, _⟩ := DataW.trod_int (k := .i64) (by kernel_rfl) t3
      simp at e3
      subst e3
      exact ⟨z0, z1, z2, z3, c0, c1, c2, c3, g1⟩
  clear hA0 hval0
  refine (setsRise_walk a0 len0 cap0 W w0).mono fun e W' ⟨he, bel⟩ => ?_
  subst he
  exact ⟨_, rfl, _, _, _, [], _, [], hW', trodAll_mk1 (shut_bool Try.underlying4 _), (trodAll_cons_mk (Below.trod setsRise_laidOut (by kernel_rfl) (of_decide_eq_true (by kernel_rfl)) k0 bel lt0) trodAll_mk0), rfl, bel.frame _, fun h => by cases h⟩

/-- The statement SetsRise. -/
theorem setsRise_holds : Rows.SetsRiseSaid :=
  OpenClaim.holds_of_wide 3 Try.f3 rfl rfl rfl rfl rfl rfl rfl ⟨rfl, rfl, rfl, rfl, rfl⟩ rfl rfl rfl rfl rfl (by kernel_rfl) Try.func3 (by kernel_rfl)
    (of_decide_eq_true (by kernel_rfl)) (by unfold Func.isWrapper; first | (rw [if_pos (by decide +kernel)]; kernel_rfl) | (rw [if_neg (by decide +kernel)]; exact ⟨rfl, rfl⟩))
    (fun os started H enc _ => setsRise_lifted os started H enc)
#print axioms setsRise_holds
end Go.Proofs.Ytkolkimmhlmlgaa
