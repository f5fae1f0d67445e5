/-
  concordref10.lines, Print by contract.
-/
import Derived.Test.YtcdlchcmidfhiaaGreatDoorTxForms
import Derived.Test.YtcdlchcmidfhiaaGreatDoorTpNum
import Derived.Test.YtcdlchcmidfhiaaGreatDoorPgRef2
import Derived.Deep.CutBlock
import Derived.Deep.CutRange
namespace Go.Proofs.YtcdlchcmidfhiaaGreatDoor
open Go.RowKit Go.Maps Go.Extern.Stop Go.Stop Go.Extern

/-! ### how far a line is told -/
def blkAt (fm : List Fm) (j : Nat) : Bool := (fm.take j).any fun f => decide (f = .o)
def spAt (s : St7) (fm : List Fm) (j : Nat) : Str := spW ((fm.take j).map (wordT s))
theorem blk_succ {fm : List Fm} {j : Nat} {f : Fm} (h : fm[j]? = some f) : blkAt fm (j + 1) = (blkAt fm j || decide (f = .o)) := by
  unfold blkAt
  rw [List.take_add_one, h]
  simp
theorem sp_succ {s : St7} {fm : List Fm} {j : Nat} {f : Fm} (h : fm[j]? = some f) : spAt s fm (j + 1) = spAt s fm j ++ 32 :: wordT s f := by
  unfold spAt
  rw [List.take_add_one, h, List.map_append]
  exact sp_snoc _ _
theorem blk_all : ∀ k : Nat, k < 17 → blkAt (formT.getD k []) (formT.getD k []).length = decide (11 ≤ k ∧ k ≤ 14) := by decide
theorem form_few : ∀ k : Nat, k < 17 → (formT.getD k []).length ≤ 4 ∧ (kindT.getD k []).length ≤ 6 := by decide
theorem sp_at_few (s : St7) (fm : List Fm) (j : Nat) (h : fm.length ≤ 4) : (spAt s fm j).length ≤ 36 := by
  have h1 := sp_few s (fm.take j)
  have h2 : (fm.take j).length ≤ fm.length := by rw [List.length_take]; omega
  unfold spAt
  omega
theorem rt_bounds {s : St7} (h : Rt s) : (-1000 < s.c ∧ s.c < 1000) ∧ (0 ≤ s.r ∧ s.r ≤ 8) ∧ ((0 ≤ s.ar ∧ s.ar ≤ 8) ∧ (-1000 < s.an ∧ s.an < 1000)) ∧ ((0 ≤ s.br ∧ s.br ≤ 8) ∧ (-1000 < s.bn ∧ s.bn < 1000)) := by
  obtain ⟨_, h1, h2, h3, h4, _⟩ := h
  refine ⟨?_, ?_, ?_, ?_⟩
  · split at h1 <;> omega
  · split at h2 <;> omega
  · split at h3 <;> omega
  · split at h4 <;> omega
theorem form_at {fm : List Fm} {j : Nat} {f : Fm} (h : fm[j]? = some f) : (fm.map fmB)[j]? = some (fmB f) := by rw [List.getElem?_map, h]; rfl
theorem rep_more (d : Nat) : mkB (List.replicate d 32) ++ (⟨#[32, 32]⟩ : ByteArray) = mkB (List.replicate (d + 2) 32) := by
  have h : List.replicate (d + 2) (32 : UInt8) = List.replicate d 32 ++ [32, 32] := by rw [show ([32, 32] : Str) = List.replicate 2 32 from rfl, List.replicate_append_replicate]
  rw [h, ← mkB_app]
  rfl
theorem formB_at (k : Nat) (h : k < 17) : formB.getD k [] = (formT.getD k []).map fmB := by
  have : ∀ k : Nat, k < 17 → formB.getD k [] = (formT.getD k []).map fmB := by decide
  exact this k h
theorem txt_few_le (F : Fo) (i d : Nat) : (txt (F.upto i) d).length ≤ (txt F d).length := by
  have key : ∀ (l : List (St7 × Fo × Fo)) (i : Nat), (txt (Fo.ofItems (l.take i)) d).length ≤ (txt (Fo.ofItems l) d).length := fun l => by
    induction l with
    | nil => intro i; simp
    | cons x t ih =>
      intro i
      obtain ⟨s, B, E⟩ := x
      cases i with
      | zero => simp [Fo.ofItems, txt_nil]
      | succ i =>
        have h1 : ∀ R, Fo.cons s B E R = (Fo.cons s B E .nil).app R := fun R => rfl
        have := ih i
        rw [List.take_succ_cons]
        simp only [Fo.ofItems]
        rw [h1, h1 (Fo.ofItems t), txt_app, txt_app, List.length_append, List.length_append]
        omega
  have := key F.items i
  rwa [Fo.of_items] at this

set_option maxRecDepth 100000 in
set_option maxHeartbeats 4000000 in
theorem told_any : ∀ (N : Nat) (F : Fo), F.size ≤ N → ∀ (w : World) (v : Value) (d : Nat), SlOf w v F → AllOk F → d + 2 * F.deep ≤ 2000 → (txt F d).length ≤ 8000000 →
    Calls Tryz.prog 27 #[v, .string (mkB (List.replicate d 32))] w fun e w' => e = .returned (.string (mkB (txt F d))) ∧ Keeps (fun _ => False) w w' := by
  intro N
  induction N using Nat.strongRecOn with
  | _ N ih =>
    intro F hN w v d h hok hd few
    have it := Lib.hid (fun i (hi : i < F.len) => h.item hi)
    obtain ⟨a, c, rfl, hfit⟩ := h.fit
    have IH := Lib.hid (fun G (hG : G.size < F.size) (hG2 : 1 + G.deep ≤ F.deep) (V : World) (q : Value) (hq : SlOf V q G) (ho : AllOk G) (hl : (txt G (d + 2)).length ≤ 8000000) =>
      ih G.size (by omega) G (Nat.le_refl _) V q (d + 2) hq ho (by omega) hl)
    have OK := Lib.hid hok
    obtain ⟨n, hn⟩ : ∃ n, F.len = n := ⟨_, rfl⟩
    rw [hn] at hfit it
    have hn' := Lib.hid (show F.items.length = n from hn)
    have few' := Lib.hid few
    have hd' := Lib.hid hd
    have hnI : (n : Int) ≤ 9223372036854775807 := by unfold maxLen at hfit; omega
    have aD := rep_more d
    have zD : (mkB (List.replicate d 32)).size = d := by rw [mkB_size, List.length_replicate]
    have zA : (List.replicate d (32 : UInt8)).length = d := List.length_replicate
    have d2I : (d : Int) ≤ 2000 := by omega
    have z2 : (⟨#[32, 32]⟩ : ByteArray).size = 2 := rfl
    obtain ⟨A, hA⟩ : ∃ A, List.replicate d (32 : UInt8) = A := ⟨_, rfl⟩
    obtain ⟨A2, hA2⟩ : ∃ A, List.replicate (d + 2) (32 : UInt8) = A := ⟨_, rfl⟩
    rw [hA] at aD zD zA
    rw [hA2] at aD
    have hA' := Lib.hid hA
    have hA2' := Lib.hid hA2
    have zA' := Lib.hid zA
    clear ih h hn few hN hok hd zA
    rw [hA]
    clear hA hA2
    rw [show F.len = n from hn'.out]
    go_enter Tryz.func27, Tryz.ntmps27
    go_wp2_with fail
    go_loopw [5, 6] (fun ov iv wr => ∃ (i : Nat), iv = .int .i64 i ∧ i ≤ n ∧ ov = .string (mkB (txt (F.upto i) d)) ∧ Keeps (fun _ => False) w wr) (fun _ iv _ => n - (intOf iv).toNat)
    case atStart => exact ⟨0, rfl, Nat.zero_le _, by rw [Fo.upto_zero, txt_nil]; rfl, Keeps.refl _ _⟩
    case round =>
      obtain ⟨i, rfl, hi, rfl, hK⟩ := hrel
      have K1 := Lib.hid hK
      by_cases hlt : i < n
      · have b1 : (i : Int) < (n : Int) := by omega
        obtain ⟨b', o, c', s, G, E, hv, hx, hat⟩ := it.out i hlt
        injection hv with hv _ hc
        subst hv
        subst hc
        obtain ⟨h7, ⟨vB, cB, oB⟩, ⟨vE, cE, oE⟩⟩ := hat
        have sz := Fo.item_size hx
        have dp := Fo.item_deep hx
        have tu := Lib.hid (txt_upto hx d)
        have t1 := Lib.hid (txt_one s G E d)
        have tl := Lib.hid (txt_few_le F (i + 1) d)
        obtain ⟨o1, o2, o3, o4, o5⟩ := ok_item OK.out hx
        obtain ⟨xB, rfl, -⟩ := oB.plain
        obtain ⟨xE, rfl, xl⟩ := oE.plain
        have f7 := (hK.cell (cell_lt cB) id).trans cB
        have f8 := (hK.cell (cell_lt cE) id).trans cE
        have g7 := h7.keeps hK fun _ _ => id
        have f0 := g7.k
        have f1 := g7.c
        have f2 := g7.r
        have f3 := g7.ar
        have f4 := g7.an
        have f5 := g7.br
        have f6 := g7.bn
        have IB := Lib.hid (IH.out G (by omega) dp.1)
        have IE := Lib.hid (IH.out E (by omega) dp.2)
        have oB := Lib.hid oB
        have oE := Lib.hid oE
        have hk := o1.k
        obtain ⟨bc, br, ba, bb⟩ := rt_bounds o1
        obtain ⟨kn, hkn⟩ : ∃ k : Nat, s.k = (k : Int) := ⟨s.k.toNat, by omega⟩
        have kl : kn < 17 := by omega
        have klI : (kn : Int) < 17 := by omega
        have rr := Lib.hid br.1
        have CD := Lib.hid (fun V => rdec_any (w := V) s.c bc)
        have CR := Lib.hid (fun V => rdec_any (w := V) s.r (by omega))
        have CA := Lib.hid (fun V => rarg10_any (w := V) s.ar s.an ba.1 ba.2)
        have CB := Lib.hid (fun V => rarg10_any (w := V) s.br s.bn bb.1 bb.2)
        obtain ⟨m, hm⟩ : ∃ m, txt (F.upto i) d = m := ⟨_, rfl⟩
        obtain ⟨kw, hkw⟩ : ∃ x, kindT.getD kn [] = x := ⟨_, rfl⟩
        obtain ⟨fm, hfm⟩ : ∃ x, formT.getD kn [] = x := ⟨_, rfl⟩
        have ff := form_few kn kl
        have ba' := Lib.hid (blk_all kn kl)
        rw [hkw, hfm] at ff
        rw [hfm] at ba'
        have fB := Lib.hid (formB_at kn kl)
        rw [hfm] at fB
        have CW : Hid (∀ V : World, Calls Tryz.prog 40 #[] V fun e w' => ∃ b, e = .returned (.slice (some ⟨b, 0, none⟩) 17 17) ∧ Keeps (fun _ => False) V w' ∧ w'.cell? ⟨b, kn, none⟩ = some (.string (mkB kw))) := Lib.hid fun V => (rwords10_any V).mono fun e w' ⟨h1, h2, h3⟩ => ⟨_, h1, h2, by rw [← hkw]; exact h3 kn kl⟩
        have CF : Hid (∀ V : World, Calls Tryz.prog 41 #[] V fun e w' => ∃ b, e = .returned (.slice (some ⟨b, 0, none⟩) 17 17) ∧ Keeps (fun _ => False) V w' ∧ w'.cell? ⟨b, kn, none⟩ = some (.string (mkB (fm.map fmB)))) := Lib.hid fun V => (rforms10_any V).mono fun e w' ⟨h1, h2, h3⟩ => ⟨_, h1, h2, by rw [← fB.out]; exact h3 kn kl⟩
        have eL : lineS (d, lineT s) = A ++ kw ++ spAt s fm fm.length ++ [10] := by
          unfold lineS lineT
          rw [join_sp, hkn, Int.toNat_natCast, hkw, hfm, hA'.out]
          unfold spAt
          rw [List.take_length]
          simp
        have eB : isBlk s.k = blkAt fm fm.length := by
          rw [ba'.out, hkn]
          unfold isBlk
          congr 1
          apply propext
          omega
        have FIN0 : Hid (blkAt fm fm.length = false → txt (F.upto (i + 1)) d = m ++ A ++ kw ++ spAt s fm fm.length ++ [10]) := Lib.hid fun q => by
          rw [tu.out, t1.out, hm, eB, q, eL, if_neg (by simp), List.append_nil]
          simp
        have FIN1 : Hid (blkAt fm fm.length = true → txt (F.upto (i + 1)) d = m ++ A ++ kw ++ spAt s fm fm.length ++ [10] ++ txt G (d + 2) ++ elseT E d ++ A ++ [125, 10]) := Lib.hid fun q => by
          rw [tu.out, t1.out, hm, eB, q, eL, if_pos rfl, hA'.out]
          simp
        have TOT := Lib.hid (show (txt (F.upto (i + 1)) d).length ≤ 8000000 by have := tl.out; have := few'.out; omega)
        have ml : m.length ≤ 8000000 := by have := TOT.out; rw [tu.out, List.length_append, hm] at this; omega
        have FEW1 : Hid (blkAt fm fm.length = true → (m ++ A ++ kw ++ spAt s fm fm.length ++ [10]).length + (txt G (d + 2)).length + (elseT E d).length ≤ 8000000) := Lib.hid fun q => by
          have h1 := TOT.out
          rw [FIN1.out q] at h1
          simp at h1 ⊢
          omega
        have OG := Lib.hid o4
        have OE := Lib.hid o5
        have xl' := Lib.hid xl
        obtain ⟨gB, nB, kB⟩ := xB
        obtain ⟨gE, nE, kE⟩ := xE
        obtain ⟨W1, hW1⟩ : ∃ V, V = wr.alloc (.cells #[.int .i64 s.k, .int .i64 s.c, .int .i64 s.r, .int .i64 s.ar, .int .i64 s.an, .int .i64 s.br, .int .i64 s.bn, .slice gB nB kB, .slice gE nE kE] 45) := ⟨_, rfl⟩
        have J1 := Lib.hid (show Keeps (fun _ => False) wr W1 by rw [hW1]; exact (Keeps.refl _ wr).alloc _)
        have S1 := Lib.hid (show Whole W1 wr.heap.size 45 #[.int .i64 (kn : Int), .int .i64 s.c, .int .i64 s.r, .int .i64 s.ar, .int .i64 s.an, .int .i64 s.br, .int .i64 s.bn, .slice gB nB kB, .slice gE nE kE] by rw [hW1, ← hkn]; exact Whole.made wr _ _)
        have L1 := Lib.hid (K1.out.trans J1.out fun _ _ => id)
        have hW1' := Lib.hid hW1
        obtain ⟨g, hg⟩ : ∃ g, wr.heap.size = g := ⟨_, rfl⟩
        rw [hg] at S1
        have hg' := Lib.hid hg
        have hkn' := Lib.hid hkn
        have TU := Lib.hid hm
        rw [hm]
        have MA := mkB_app m A
        obtain ⟨m1, hm1⟩ : ∃ x, m ++ A = x := ⟨_, rfl⟩
        have MB := mkB_app (m ++ A) kw
        obtain ⟨m2, hm2⟩ : ∃ x, m ++ A ++ kw = x := ⟨_, rfl⟩
        have l1 : m1.length = m.length + d := by rw [← hm1, List.length_append, zA'.out]
        have l2 : m2.length = m.length + d + kw.length := by rw [← hm2, hm1, List.length_append, l1]
        rw [hm2, hm1] at MB
        rw [hm1] at MA
        rw [hm2] at FIN0 FIN1 FEW1
        have HM2 := Lib.hid (Nat.le_trans (Nat.le_of_eq l2) (show m.length + d + kw.length ≤ 8002006 by omega))
        have z1 : (mkB m).size = m.length := mkB_size _
        have z3 : (mkB kw).size = kw.length := mkB_size _
        have z4 : (mkB m1).size = m.length + d := by rw [mkB_size, l1]
        have mlI : (m.length : Int) ≤ 8000000 := by omega
        have kwI : (kw.length : Int) ≤ 6 := by omega
        clear hK h7 cB cE hx g7 sz dp hkn hW1 xl o1 o2 o3 o4 o5 hk hm eL eB hkw hfm l1 l2 hm1 hm2 hg bc br ba bb tu t1 tl
        simp only [slv] at f7 f8
        go_upto_region 6 with fail
        rw [← hW1'.out]
        rw [hg'.out]
        have c0 : W1.cell? ⟨g, 0, none⟩ = some (.int .i64 (kn : Int)) := S1.out.at_ 0
        go_cut [5] from 12 to 99 (fun x wx => x = .string (mkB m2) ∧ Keeps (fun _ => False) W1 wx)
        case first =>
          go_region_with (go_at_call 40; refine (CW.out _).mono ?_; rintro e w2 ⟨b2, rfl, hK, w0⟩; have c0' := (S1.out.keeps ((Keeps.refl (fun _ => False) W1).drew.trans hK fun _ _ => id) id).at_ 0; have K2 := Lib.hid ((Keeps.refl (fun _ => False) W1).drew.trans hK fun _ _ => id); clear hK)
          all_goals
            go_wp2_with fail
            go_meet
            case rel => exact ⟨rfl, K2.out⟩
        case rest =>
          obtain ⟨rfl, hK⟩ := hcut
          have K2 := Lib.hid hK
          have c0 : wc.cell? ⟨g, 0, none⟩ = some (.int .i64 (kn : Int)) := (S1.out.keeps hK id).at_ 0
          have S2 := Lib.hid (S1.out.keeps hK id)
          have L2 := Lib.hid (L1.out.trans hK fun _ _ => id)
          clear hK MA MB z1 z3 z4 CW
          go_upto_region 7 with fail
          go_cut [8] from 12 to 99 (fun x wx => x = .string (mkB (fm.map fmB)) ∧ Keeps (fun _ => False) W1 wx)
          case first =>
            go_region_with (go_at_call 41; refine (CF.out _).mono ?_; rintro e w2 ⟨b2, rfl, hK, w0⟩; have c0' := (S2.out.keeps ((Keeps.refl (fun _ => False) wc).drew.trans hK fun _ _ => id) id).at_ 0; have K3 := Lib.hid (K2.out.trans ((Keeps.refl (fun _ => False) wc).drew.trans hK fun _ _ => id) fun _ _ => id); clear hK)
            all_goals
              go_wp2_with fail
              go_meet
              case rel => exact ⟨rfl, K3.out⟩
          case rest =>
            obtain ⟨rfl, hK⟩ := hcut
            have K3 := Lib.hid hK
            have zf : (mkB (fm.map fmB)).size = fm.length := by rw [mkB_size, List.length_map]
            have AT := Lib.hid (fun j f (hj : fm[j]? = some f) => str_at (fm.map fmB) j (fmB f) (form_at hj))
            have HA := Lib.hid ba'.out
            obtain ⟨q, hq⟩ : ∃ q, fm.length = q := ⟨_, rfl⟩
            have qI : (q : Int) ≤ 4 := by omega
            have SF := Lib.hid (fun j => sp_at_few s fm j (by omega))
            rw [hq] at zf FIN0 FIN1 FEW1
            have hq' := Lib.hid hq
            generalize fm.map fmB = fs at *
            clear hK hq S2 CF K2 c0
            go_wp2_with fail
            go_loopw [5, 9, 10] (fun ov bv jv wx => ∃ (j : Nat) (cur : Str) (bl : Bool), jv = .int .i64 (j : Int) ∧ j ≤ q ∧ ov = .string (mkB cur) ∧ bv = .bool bl ∧ cur = m2 ++ spAt s fm j ∧ bl = blkAt fm j ∧ Keeps (fun _ => False) W1 wx) (fun _ _ jv _ => q - (intOf jv).toNat)
            case atStart => exact ⟨0, m2, false, rfl, Nat.zero_le _, rfl, rfl, by simp [spAt, spW], rfl, K3.out⟩
            case round =>
              obtain ⟨j, cur, bl, rfl, hj, rfl, rfl, hc, hb, hK⟩ := hrel
              have HC := Lib.hid hc
              have HB := Lib.hid hb
              have K4 := Lib.hid hK
              have cl : cur.length ≤ 8002100 := by rw [hc, List.length_append]; have := SF.out j; have := HM2.out; omega
              have clI : (cur.length : Int) ≤ 8002100 := by omega
              have S4 := S1.out.keeps hK id
              have c0 := S4.at_ 0
              have c1 := S4.at_ 1
              have c2 := S4.at_ 2
              have c3 := S4.at_ 3
              have c4 := S4.at_ 4
              have c5 := S4.at_ 5
              have c6 := S4.at_ 6
              clear hc hb hK S4
              by_cases hjl : j < q
              · have b2 : (j : Int) < (q : Int) := by omega
                obtain ⟨f, hf⟩ : ∃ f, fm[j]? = some f := ⟨_, List.getElem?_eq_getElem (by rw [hq'.out]; exact hjl)⟩
                have at1 := AT.out j f hf
                have HB2 := Lib.hid (blk_succ hf)
                have HS2 := Lib.hid (sp_succ (s := s) hf)
                clear hf
                obtain ⟨x, hx⟩ : ∃ x, (fmB f).toNat = x := ⟨_, rfl⟩
                rw [hx] at at1
                have HX := Lib.hid hx
                obtain ⟨wd, hwd⟩ : ∃ x, wordT s f = x := ⟨_, rfl⟩
                have wl := word_few s f
                rw [hwd] at wl HS2
                have HW := Lib.hid hwd
                obtain ⟨DR, hDR⟩ : ∃ x, decZ s.r = x := ⟨_, rfl⟩
                have aR : (⟨#[114]⟩ : ByteArray) ++ mkB DR = mkB (114 :: DR) := mkB_app [114] DR
                have zR : (mkB DR).size = DR.length := mkB_size _
                have lR : (DR.length : Int) ≤ 4 := by rw [← hDR]; have := decZ_few s.r; omega
                have zq : (⟨#[114]⟩ : ByteArray).size = 1 := rfl
                have eR : Hid (wordT s .r = 114 :: DR) := Lib.hid (by rw [← hDR, decZ_nn rr.out]; rfl)
                obtain ⟨RT, hRT⟩ : ∃ x, 114 :: DR = x := ⟨_, rfl⟩
                rw [hRT] at eR aR
                have CR2 := CR
                rw [hDR] at CR2
                have cc1 : mkB cur ++ (⟨#[32]⟩ : ByteArray) = mkB (cur ++ [32]) := mkB_app cur [32]
                obtain ⟨d1, hd1⟩ : ∃ x, cur ++ [32] = x := ⟨_, rfl⟩
                have cc2 := mkB_app (cur ++ [32]) wd
                obtain ⟨d2, hd2⟩ : ∃ x, cur ++ [32] ++ wd = x := ⟨_, rfl⟩
                rw [hd2, hd1] at cc2
                rw [hd1] at cc1
                have ld : d1.length = cur.length + 1 := by rw [← hd1]; simp
                have HD2 := Lib.hid hd2
                have y1 : (mkB cur).size = cur.length := mkB_size _
                have y2 : (mkB d1).size = cur.length + 1 := by rw [mkB_size, ld]
                have y3 : (mkB wd).size = wd.length := mkB_size _
                have y4 : (⟨#[32]⟩ : ByteArray).size = 1 := rfl
                have wlI : (wd.length : Int) ≤ 8 := by omega
                clear hx hwd hDR hRT hd1 hd2 ld CR
                go_upto_block 4 with fail
                go_cut [9, 11] from 36 to 70 (fun bv x wx => bv = .bool (bl || decide (f = .o)) ∧ x = .string (mkB wd) ∧ Keeps (fun _ => False) W1 wx)
                case first =>
                  cases f
                  case c =>
                    obtain rfl : x = 99 := by rw [← HX.out]; rfl
                    have eW : decZ s.c = wd := HW.out
                    have CD2 := CD
                    rw [eW] at CD2
                    clear eW CD
                    go_wp2_with fail
                    refine (CD2.out _).mono ?_
                    rintro e w5 ⟨rfl, hK⟩
                    have K5 := Lib.hid (K4.out.trans hK fun _ _ => id)
                    clear hK
                    go_wp2_with fail
                    go_meet
                    case rel => exact ⟨by simp, rfl, K5.out⟩
                  case a =>
                    obtain rfl : x = 97 := by rw [← HX.out]; rfl
                    have eW : argT s.ar s.an = wd := HW.out
                    have CD2 := CA
                    rw [eW] at CD2
                    clear eW CA
                    go_wp2_with fail
                    refine (CD2.out _).mono ?_
                    rintro e w5 ⟨rfl, hK⟩
                    have K5 := Lib.hid (K4.out.trans hK fun _ _ => id)
                    clear hK
                    go_wp2_with fail
                    go_meet
                    case rel => exact ⟨by simp, rfl, K5.out⟩
                  case b =>
                    obtain rfl : x = 98 := by rw [← HX.out]; rfl
                    have eW : argT s.br s.bn = wd := HW.out
                    have CD2 := CB
                    rw [eW] at CD2
                    clear eW CB
                    go_wp2_with fail
                    refine (CD2.out _).mono ?_
                    rintro e w5 ⟨rfl, hK⟩
                    have K5 := Lib.hid (K4.out.trans hK fun _ _ => id)
                    clear hK
                    go_wp2_with fail
                    go_meet
                    case rel => exact ⟨by simp, rfl, K5.out⟩
                  case r =>
                    obtain rfl : x = 114 := by rw [← HX.out]; rfl
                    have eW : RT = wd := eR.out.symm.trans HW.out
                    rw [eW] at aR
                    clear eW
                    go_wp2_with fail
                    refine (CR2.out _).mono ?_
                    rintro e w5 ⟨rfl, hK⟩
                    have K5 := Lib.hid (K4.out.trans hK fun _ _ => id)
                    clear hK
                    go_wp2_with fail
                    go_meet
                    case rel => exact ⟨by simp, rfl, K5.out⟩
                  case n =>
                    obtain rfl : x = 110 := by rw [← HX.out]; rfl
                    have eW : argT s.ar s.an = wd := HW.out
                    have CD2 := CA
                    rw [eW] at CD2
                    clear eW CA
                    go_wp2_with fail
                    refine (CD2.out _).mono ?_
                    rintro e w5 ⟨rfl, hK⟩
                    have K5 := Lib.hid (K4.out.trans hK fun _ _ => id)
                    clear hK
                    go_wp2_with fail
                    go_meet
                    case rel => exact ⟨by simp, rfl, K5.out⟩
                  case o =>
                    obtain rfl : x = 123 := by rw [← HX.out]; rfl
                    have eW : (⟨#[123]⟩ : ByteArray) = mkB wd := by rw [← HW.out]; rfl
                    have EW := Lib.hid eW
                    clear eW
                    go_wp2_with fail
                    go_meet
                    case rel => exact ⟨by simp, congrArg Value.string EW.out, K4.out⟩
                case rest =>
                  obtain ⟨rfl, rfl, hK⟩ := hcut
                  have K5 := Lib.hid hK
                  clear hK c0 c1 c2 c3 c4 c5 c6 at1 HX aR zR lR zq
                  go_wp2_with fail
                  go_roundw
                  case rel => exact ⟨j + 1, d2, (bl || decide (f = .o)), by go_num, by omega, rfl, rfl, by rw [HS2.out, ← HD2.out, HC.out]; simp, by rw [HB2.out, HB.out], K5.out⟩
                  case measure => simp [intOf]; omega
              · obtain rfl : j = q := by omega
                have b2 : ¬ (j : Int) < (j : Int) := by omega
                have y1 : (mkB cur).size = cur.length := mkB_size _
                have y4 : (⟨#[10]⟩ : ByteArray).size = 1 := rfl
                have cc1 : mkB cur ++ (⟨#[10]⟩ : ByteArray) = mkB (cur ++ [10]) := mkB_app cur [10]
                obtain ⟨m3, hm3⟩ : ∃ x, cur ++ [10] = x := ⟨_, rfl⟩
                rw [hm3] at cc1
                have eM : m2 ++ spAt s fm j ++ [10] = m3 := by rw [← hm3, HC.out]
                rw [eM] at FIN0 FIN1 FEW1
                rw [← HB.out] at FIN0 FIN1 FEW1
                clear hm3 eM c0 c1 c2 c3 c4 c5 c6 CD CR CA CB AT
                cases bl with
                | false =>
                  have FE := Lib.hid (FIN0.out rfl)
                  go_wp2_with fail
                  go_roundw
                  case rel => exact ⟨i + 1, by go_num, by omega, by rw [FE.out], L1.out.trans K4.out fun _ _ => id⟩
                  case measure => simp [intOf]; omega
                | true =>
                  have FE := Lib.hid (FIN1.out rfl)
                  have fw := FEW1.out rfl
                  have S4 := S1.out.keeps K4.out id
                  have c7 : wr.cell? ⟨g, 7, none⟩ = some (.slice gB nB kB) := S4.at_ 7
                  have L4 := Lib.hid (L1.out.trans K4.out fun _ _ => id)
                  have CB := Lib.hid (IB.out wr (.slice gB nB kB) (oB.out.same L4.out) OG.out (by omega))
                  obtain ⟨tB, htB⟩ : ∃ x, txt G (d + 2) = x := ⟨_, rfl⟩
                  rw [htB] at FE CB fw
                  rw [hA2'.out] at CB
                  have e4 := mkB_app m3 tB
                  obtain ⟨m4, hm4⟩ : ∃ x, m3 ++ tB = x := ⟨_, rfl⟩
                  have l4 : m4.length = m3.length + tB.length := by rw [← hm4, List.length_append]
                  rw [hm4] at e4 FE
                  have z3 : (mkB m3).size = m3.length := mkB_size _
                  have zB : (mkB tB).size = tB.length := mkB_size _
                  have z4 : (mkB m4).size = m4.length := mkB_size _
                  have i4 : (m3.length : Int) + (tB.length : Int) ≤ 8000000 := by omega
                  have i5 : (m4.length : Int) ≤ 8000000 := by omega
                  have HM4 := Lib.hid hm4
                  clear htB hm4 S4
                  go_wp2_with fail
                  refine CB.out.mono ?_
                  rintro e w5 ⟨rfl, hK⟩
                  have K5 := Lib.hid (K4.out.trans hK fun _ _ => id)
                  have L5 := Lib.hid (L4.out.trans hK fun _ _ => id)
                  have c8 : w5.cell? ⟨g, 8, none⟩ = some (.slice gE nE kE) := (S1.out.keeps K5.out id).at_ 8
                  have f1 := mkB_app m4 A
                  obtain ⟨m5, hm5⟩ : ∃ x, m4 ++ A = x := ⟨_, rfl⟩
                  have l5 : m5.length = m4.length + d := by rw [← hm5, List.length_append, zA'.out]
                  rw [hm5] at f1
                  have z5 : (mkB m5).size = m5.length := mkB_size _
                  have i6 : (m5.length : Int) ≤ 8002000 := by omega
                  clear hK CB c7
                  by_cases hE : nE = 0
                  · have eN : E = .nil := by
                      have h0 : nE = E.len := xl'.out
                      cases E with
                      | nil => rfl
                      | cons a b c d => simp [Fo.len, Fo.items] at h0; omega
                    have eT : elseT E d = [] := by rw [eN]; rfl
                    have f2 : mkB m5 ++ (⟨#[125, 10]⟩ : ByteArray) = mkB (m5 ++ [125, 10]) := mkB_app m5 [125, 10]
                    obtain ⟨m6, hm6⟩ : ∃ x, m5 ++ [125, 10] = x := ⟨_, rfl⟩
                    rw [hm6] at f2
                    have y6 : (⟨#[125, 10]⟩ : ByteArray).size = 2 := rfl
                    have FF := Lib.hid (show txt (F.upto (i + 1)) d = m6 by rw [FE.out, eT, List.append_nil, hm5, hm6])
                    have b3 : ¬ (0 : Int) < (nE : Int) := by omega
                    clear eN eT hm6 hm5
                    subst hE
                    go_wp2_with fail
                    go_roundw
                    case rel => exact ⟨i + 1, by go_num, by omega, by rw [FF.out], L5.out⟩
                    case measure => simp [intOf]; omega
                  · have b3 : (0 : Int) < (nE : Int) := by omega
                    have eT : elseT E d = A ++ [125, 32, 101, 108, 115, 101, 32, 123, 10] ++ txt E (d + 2) := by
                      have h0 : nE = E.len := xl'.out
                      rw [← hA'.out]
                      cases E with
                      | nil => simp [Fo.len, Fo.items] at h0; omega
                      | cons a b c d => simp [elseT]
                    rw [eT] at fw
                    have CE := Lib.hid (IE.out w5 (.slice gE nE kE) (oE.out.same L5.out) OE.out (by simp at fw; omega))
                    obtain ⟨tE, htE⟩ : ∃ x, txt E (d + 2) = x := ⟨_, rfl⟩
                    rw [htE] at CE fw eT
                    rw [hA2'.out] at CE
                    have f2 : mkB m5 ++ (⟨#[125, 32, 101, 108, 115, 101, 32, 123, 10]⟩ : ByteArray) = mkB (m5 ++ [125, 32, 101, 108, 115, 101, 32, 123, 10]) := mkB_app m5 [125, 32, 101, 108, 115, 101, 32, 123, 10]
                    obtain ⟨m6, hm6⟩ : ∃ x, m5 ++ [125, 32, 101, 108, 115, 101, 32, 123, 10] = x := ⟨_, rfl⟩
                    have l6 : m6.length = m5.length + 9 := by rw [← hm6]; simp
                    rw [hm6] at f2
                    have f3 := mkB_app m6 tE
                    obtain ⟨m7, hm7⟩ : ∃ x, m6 ++ tE = x := ⟨_, rfl⟩
                    have l7 : m7.length = m6.length + tE.length := by rw [← hm7, List.length_append]
                    rw [hm7] at f3
                    have f4 := mkB_app m7 A
                    obtain ⟨m8, hm8⟩ : ∃ x, m7 ++ A = x := ⟨_, rfl⟩
                    have l8 : m8.length = m7.length + d := by rw [← hm8, List.length_append, zA'.out]
                    rw [hm8] at f4
                    have f5 : mkB m8 ++ (⟨#[125, 10]⟩ : ByteArray) = mkB (m8 ++ [125, 10]) := mkB_app m8 [125, 10]
                    obtain ⟨m9, hm9⟩ : ∃ x, m8 ++ [125, 10] = x := ⟨_, rfl⟩
                    rw [hm9] at f5
                    have y6 : (⟨#[125, 10]⟩ : ByteArray).size = 2 := rfl
                    have y7 : (⟨#[125, 32, 101, 108, 115, 101, 32, 123, 10]⟩ : ByteArray).size = 9 := rfl
                    have z6 : (mkB m6).size = m6.length := mkB_size _
                    have z7 : (mkB m7).size = m7.length := mkB_size _
                    have z8 : (mkB m8).size = m8.length := mkB_size _
                    have zE : (mkB tE).size = tE.length := mkB_size _
                    have tl : tE.length ≤ 8000000 := by simp at fw; omega
                    have i7 : (m6.length : Int) ≤ 8002009 := by omega
                    have i8 : (tE.length : Int) ≤ 8000000 := by omega
                    have i9 : (m7.length : Int) ≤ 16002009 := by omega
                    have i10 : (m8.length : Int) ≤ 16004009 := by omega
                    have FF := Lib.hid (show txt (F.upto (i + 1)) d = m9 by rw [FE.out, eT, ← hm9, ← hm8, ← hm7, ← hm6, ← hm5]; simp)
                    clear eT htE hm5 hm6 hm7 hm8 hm9 l5 l6 l7 l8 fw hE tl
                    go_wp2_with fail
                    refine CE.out.mono ?_
                    rintro e w6 ⟨rfl, hK⟩
                    have L6 := Lib.hid (L5.out.trans hK fun _ _ => id)
                    clear hK CE c8
                    go_wp2_with fail
                    go_roundw
                    case rel => exact ⟨i + 1, by go_num, by omega, by rw [FF.out], L6.out⟩
                    case measure => simp [intOf]; omega
      · obtain rfl : i = n := by omega
        have b1 : ¬ (i : Int) < (i : Int) := by omega
        have ul : F.upto i = F := Fo.upto_all (by unfold Fo.len; rw [hn'.out]; exact Nat.le_refl _)
        rw [ul]
        clear ul hK
        go_wp2_with fail
        go_ret
        exact ⟨rfl, K1.out⟩
end Go.Proofs.YtcdlchcmidfhiaaGreatDoor
