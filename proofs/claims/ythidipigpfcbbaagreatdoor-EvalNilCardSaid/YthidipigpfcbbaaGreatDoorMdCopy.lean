/-
  The sort and the keys of a map, out of the library's contracts, at this program's own numbers (laid by program).
  Copy of the program's states by contract.
-/
import Derived.Test.YthidipigpfcbbaaGreatDoorProg
import Derived.Test.YthidipigpfcbbaaGreatDoorMdNew
import Derived.Shelf.SlMaps.Clone
import Derived.Shelf.SlMaps.Equal
import Derived.Deep.RegionWith

namespace Go.Proofs.YthidipigpfcbbaaGreatDoor
open Go.Proofs Go.Shelf

def cloneA_ren : Go.Shelf.Ren := ⟨fun | 5 => 49 | 7 => 70 | n => n, fun | 23 => 83 | 25 => 3 | 3 => 3 | 4 => 4 | 20 => 20 | n => n, fun | n => n⟩

theorem cloneA : Go.Proofs.SlLaysW.n5 Tryz.prog cloneA_ren := {
  mixed := by kernel_rfl,
  f5 := ⟨Tryz.f49.name, by decide, Tryz.func49.trans (congrArg some (by kernel_rfl))⟩,
  f7 := Tryz.func70.trans (congrArg some (by kernel_rfl)),
  t4 := Tryz.underlying4,
  a4 := Tryz.isAgg4,
  z4 := Tryz.sizeOf4,
  v4 := Tryz.zeroValue4,
  t20 := Tryz.underlying20,
  a20 := Tryz.isAgg20,
  z20 := Tryz.sizeOf20,
  v20 := Tryz.zeroValue20,
  t23 := Tryz.underlying83,
  a23 := Tryz.isAgg83,
  z23 := Tryz.sizeOf83,
  v23 := Tryz.zeroValue83 }

def mequalA_ren : Go.Shelf.Ren := ⟨fun | 6 => 34 | n => n, fun | 23 => 83 | 24 => 83 | 26 => 3 | 27 => 3 | 4 => 4 | 3 => 3 | 0 => 0 | 36 => 120 | n => n, fun | n => n⟩

theorem mequalA : Go.Proofs.SlLaysEq.n6 Tryz.prog mequalA_ren := {
  mixed := by kernel_rfl,
  f6 := ⟨Tryz.f34.name, by decide, Tryz.func34.trans (congrArg some (by kernel_rfl))⟩,
  t0 := Tryz.underlying0,
  a0 := Tryz.isAgg0,
  z0 := Tryz.sizeOf0,
  v0 := Tryz.zeroValue0,
  t3 := Tryz.underlying3,
  a3 := Tryz.isAgg3,
  z3 := Tryz.sizeOf3,
  v3 := Tryz.zeroValue3,
  t4 := Tryz.underlying4,
  a4 := Tryz.isAgg4,
  z4 := Tryz.sizeOf4,
  v4 := Tryz.zeroValue4,
  t23 := Tryz.underlying83,
  a23 := Tryz.isAgg83,
  z23 := Tryz.sizeOf83,
  v23 := Tryz.zeroValue83,
  t24 := Tryz.underlying83,
  a24 := Tryz.isAgg83,
  z24 := Tryz.sizeOf83,
  v24 := Tryz.zeroValue83,
  a26 := Tryz.isAgg3,
  z26 := Tryz.sizeOf3,
  a27 := Tryz.isAgg3,
  z27 := Tryz.sizeOf3,
  t36 := Tryz.underlying120,
  a36 := Tryz.isAgg120,
  z36 := Tryz.sizeOf120 }

end Go.Proofs.YthidipigpfcbbaaGreatDoor

namespace Go.Proofs.YthidipigpfcbbaaGreatDoor
open Go.RowKit Go.Maps Go.Extern.Stop Go.Stop Go.Extern

/-- maps.Clone: another map with the same. -/
theorem clone_m {w : World} {b : Nat} {f : Int → Option Int} (h : MH w b f) :
    Calls Tryz.prog 49 #[.map (some b)] w fun e w' => e = .returned (.map (some w.heap.size)) ∧ MH w' w.heap.size f ∧ Keeps (fun _ => False) w w' := by
  obtain ⟨D, n, h1, h2, h3⟩ := h
  refine (AnyW.maps_Clone_owns cloneA 3 iE.R b n D w h1).mono ?_
  rintro e w' ⟨rfl, h4, _, hb⟩
  exact ⟨rfl, ⟨D, n, h4, h2, h3⟩, ⟨hb.os, hb.tape, hb.output, hb.size, fun k hk _ => hb.block k hk⟩⟩

theorem copy_nil (w : World) :
    Calls Tryz.prog 26 #[.pointer none] w fun e w' => e = .returned (.pointer none) ∧ w = w' := by
  go_enter Tryz.func26, Tryz.ntmps26
  go_wp2_with (go_at_call 31; refine (mnone_nil _).mono ?_; rintro e w' ⟨rfl, rfl⟩)
  go_ret
  exact ⟨rfl, rfl⟩

theorem drew_size (w : World) : w.drew.heap.size = w.heap.size := rfl
theorem raw2_box {w V : World} {K : List Int} {n gk gc : Nat} {F : Nat → Int → Option Int} (hk : Whole V gk 3 (intK.cs K).toArray) (hc : Whole V gc 83 (mapCells [] n)) (h1 : w.heap.size ≤ gk) (h2 : w.heap.size ≤ gc) (k : Keeps (fun _ => False) w V) :
    Raw2 w (V.alloc (.cells #[.slice (some ⟨gk, 0, none⟩) n n, .slice (some ⟨gc, 0, none⟩) n n] 81)) K n V.heap.size gk gc [] F :=
  ⟨Whole.made _ _ _, hk.alloc _, hc.alloc _, ⟨k.size, h1, h2⟩, k.alloc _, fun i b hb => by simp at hb, List.nodup_nil⟩
theorem raw2_s1 {w w2 : World} {K : List Int} {n gk : Nat} {F : Nat → Int → Option Int} (hk : Whole w2 gk 3 (intK.cs K).toArray) (h1 : w.heap.size ≤ gk) (k : Keeps (fun _ => False) w w2) :
    Raw2 w ((w2.alloc (.cells (mapCells [] n) 83)).alloc (.cells #[.slice (some ⟨gk, 0, none⟩) n n, .slice (some ⟨w2.heap.size, 0, none⟩) n n] 81)) K n (w2.heap.size + 1) gk w2.heap.size [] F := by
  have := raw2_box (F := F) (hk.alloc (.cells (mapCells [] n) 83)) (Whole.made w2 _ (mapCells [] n)) h1 k.size (k.alloc _)
  rw [World.size_alloc] at this
  exact this
theorem Raw2.drew_ {w V : World} {K : List Int} {n sb gk gc : Nat} {bs : List Nat} {F : Nat → Int → Option Int} (h : Raw2 w V K n sb gk gc bs F) : Raw2 w V.drew K n sb gk gc bs F :=
  ⟨h.blk, h.kinds, h.colls, h.new_, h.keeps.drew, fun i b hb => ⟨(h.maps i b hb).1.keeps ((Keeps.refl (fun _ => False) V).drew) id, (h.maps i b hb).2⟩, h.once⟩

section
variable {w : World} {s : Nat} {A : M8} {X : Nat → Prop}

set_option maxRecDepth 100000 in
set_option maxHeartbeats 2000000 in
theorem copy_m (h : PM w s A X) :
    Calls Tryz.prog 26 #[.pointer (some ⟨s, 0, none⟩)] w fun e w' => ∃ o Z, e = .returned (.pointer (some ⟨o, 0, none⟩)) ∧ PM w' o A Z ∧ (∀ x, Z x → w.heap.size ≤ x) ∧ Keeps (fun _ => False) w w' := by
  have ok := Lib.hid h.ok
  obtain ⟨vK, gC, cap, bs, h⟩ := h
  have c1 : w.cell? ⟨s, 1, none⟩ = some (.slice (some ⟨gC, 0, none⟩) bs.length cap) := h.blk.at_ 1
  have few : bs.length ≤ 8 := by have := h.len; have := ok.out.few; omega
  have hl := h.len
  have hkn : A.K.length = bs.length := by rw [ok.out.len, hl]
  have CK : Hid (∀ V, Keeps (fun _ => False) w V → Calls Tryz.prog 25 #[.pointer (some ⟨s, 0, none⟩)] V fun e w' => e = .returned (.slice (some ⟨V.heap.size, 0, none⟩) bs.length bs.length) ∧ Whole w' V.heap.size 3 (intK.cs A.K).toArray ∧ Keeps (fun _ => False) w w' ∧ Keeps (fun _ => False) V w' ∧ w'.cell? ⟨s, 1, none⟩ = some (.slice (some ⟨gC, 0, none⟩) bs.length cap)) := Lib.hid fun V k => by
    have := kinds_w (s := s) (A := A) (X := X) ⟨_, _, _, _, h.keeps k fun _ _ => id⟩
    rw [hkn] at this
    exact this.mono fun e w' ⟨h1, h2, h3⟩ => ⟨h1, h2, k.trans h3 fun _ _ => id, h3, ((k.trans h3 fun _ _ => id).cell (cell_lt c1) id).trans c1⟩
  have hin := Lib.hid h.kinds_in
  have hN := Lib.hid (mnone_there w c1)
  have cell := Lib.hid (fun (i b : Nat) (hb : bs[i]? = some b) => And.intro (h.coll hb) (h.each i b (A.L.getD i []) hb (by
    have hi := (List.getElem?_eq_some_iff.1 hb).1
    rw [List.getD_eq_getElem?_getD, List.getElem?_eq_getElem (by omega)]
    rfl)))
  obtain ⟨n, hn⟩ : ∃ n, bs.length = n := ⟨_, rfl⟩
  rw [hn] at c1 few CK hkn
  have hn' := Lib.hid hn
  have hmm := run_makeM n (by omega)
  have ls := cell_lt c1
  have hl' := Lib.hid hl
  clear h hl hn hkn
  go_enter Tryz.func26, Tryz.ntmps26
  go_upto_region 3 with (go_at_call 31; refine hN.out.mono ?_; rintro e w' ⟨rfl, rfl⟩)
  go_cut [3] from 8 to 17 (fun sv wx => ∃ sb gk gc, sv = .pointer (some ⟨sb, 0, none⟩) ∧ Raw2 w wx A.K n sb gk gc [] (fun i => look (A.L.getD i [])))
  case first =>
    go_region_with (go_at_call 25; refine (CK.out _ (by first | exact Keeps.refl _ _ | exact (Keeps.refl _ _).drew | exact (Keeps.refl _ _).alloc _ | exact ((Keeps.refl _ _).alloc _).drew | exact ((Keeps.refl _ _).drew).alloc _)).mono ?_; rintro e w2 ⟨rfl, hW, hK, hV, e1⟩; (try simp only [drew_size, World.size_alloc] at hW); have W2 := Lib.hid hW; have K2 := Lib.hid hK; have V2 := Lib.hid hV; clear hW hK hV)
    all_goals
      go_wp2_with fail
      go_meet
      case rel =>
        first
          | exact ⟨_, _, _, rfl, raw2_s1 W2.out (Nat.le_refl _) K2.out⟩
          | exact ⟨_, _, _, rfl, (raw2_s1 W2.out (Nat.le_refl _) K2.out).drew_⟩
          | exact ⟨_, _, _, rfl, raw2_box W2.out ((Whole.made w _ _).drew.keeps (S := fun _ => False) V2.out id) (Nat.le_succ _) (Nat.le_refl _) K2.out⟩
          | exact ⟨_, _, _, rfl, (raw2_box W2.out ((Whole.made w _ _).drew.keeps (S := fun _ => False) V2.out id) (Nat.le_succ _) (Nat.le_refl _) K2.out).drew_⟩
  case rest =>
    obtain ⟨sb, gk, gc, rfl, hR⟩ := hcut
    have R0 := Lib.hid hR
    have d1 := (hR.keeps.cell ls id).trans c1
    clear hR hmm
    go_wp2_with fail
    go_loopw [23] (fun iv wr => ∃ (j : Nat) (ds : List Nat), iv = .int .i64 j ∧ j ≤ n ∧ ds.length = j ∧ Raw2 w wr A.K n sb gk gc ds (fun i => look (A.L.getD i []))) (fun iv _ => n - (intOf iv).toNat)
    case atStart => exact ⟨0, [], rfl, Nat.zero_le _, rfl, R0.out⟩
    case round =>
      obtain ⟨j, ds, rfl, hj, hds, hR⟩ := hrel
      have R1 := Lib.hid hR
      by_cases hlt : j < n
      · have b3 : (j : Int) < (n : Int) := by omega
        obtain ⟨b, hb⟩ : ∃ b, bs[j]? = some b := ⟨_, List.getElem?_eq_getElem (by rw [hn'.out]; exact hlt)⟩
        obtain ⟨e1, e2⟩ := cell.out j b hb
        have e3 := (hR.keeps.cell (cell_lt e1) id).trans e1
        have M1 := Lib.hid (e2.keeps hR.keeps id)
        have f1 : ∀ V : World, Keeps (fun _ => False) wr V → V.cell? ⟨sb, 1, none⟩ = some (.slice (some ⟨gc, 0, none⟩) n n) ∧ V.frozen? ⟨gc, j, none⟩ = false ∧ V.cell? ⟨gc, j, none⟩ = some (.map none) := fun V k =>
          ⟨(hR.blk.keeps k id).at_ 1, (hR.colls.keeps k id).free j, ((hR.colls.keeps k id).at_ j).trans (mapCells_at hds hlt)⟩
        have CC : Hid (∀ V : World, Keeps (fun _ => False) wr V → Calls Tryz.prog 49 #[.map (some b)] V fun e w' => e = .returned (.map (some V.heap.size)) ∧ MH w' V.heap.size (look (A.L.getD j [])) ∧ Keeps (fun _ => False) wr w' ∧ w'.cell? ⟨sb, 1, none⟩ = some (.slice (some ⟨gc, 0, none⟩) n n) ∧ w'.frozen? ⟨gc, j, none⟩ = false ∧ w'.cell? ⟨gc, j, none⟩ = some (.map none)) := Lib.hid fun V k =>
          (clone_m (M1.out.keeps k id)).mono fun e w' ⟨h1, h2, h3⟩ => ⟨h1, h2, k.trans h3 fun _ _ => id, f1 w' (k.trans h3 fun _ _ => id)⟩
        obtain ⟨g1, g2, g3⟩ := f1 _ (Keeps.refl _ _)
        have AD := Lib.hid (fun (V : World) (k : Keeps (fun _ => False) wr V) (m : MH V wr.heap.size (look (A.L.getD j []))) => hR.add (by omega) rfl k (by rw [hds]; exact m))
        rw [hds] at AD
        clear hR e1 e2 f1 hb
        go_upto_block 1 with fail
        go_cut [] from 25 to 35 (fun wx => Raw2 w wx A.K n sb gk gc (ds ++ [wr.heap.size]) (fun i => look (A.L.getD i [])))
        case first =>
          go_wp2_with fail
          go_region_with (go_at_call 49; refine (CC.out _ (by first | exact Keeps.refl _ _ | exact (Keeps.refl _ _).drew)).mono ?_; rintro e w2 ⟨rfl, hM, hK, g4, g5, g6⟩; have M2 := Lib.hid hM; have K2 := Lib.hid hK; clear hM hK)
          all_goals
            go_wp2_with fail
            go_meet
            case rel =>
              first
                | exact AD.out _ K2.out M2.out
                | exact (AD.out _ K2.out M2.out).drew_
        case rest =>
          have RR := Lib.hid hcut
          clear hcut
          go_wp2_with fail
          go_roundw
          case rel => exact ⟨j + 1, ds ++ [wr.heap.size], by go_num, by omega, by simp [hds], RR.out⟩
          case measure => simp [intOf]; omega
      · obtain rfl : j = n := by omega
        have b3 : ¬ (j : Int) < (j : Int) := by omega
        obtain ⟨Z, p1, p2⟩ := hR.made (A := A) hds ok.out (by rw [← hl'.out, hn'.out]) (fun q W hq => by
          simp only [List.getD_eq_getElem?_getD, hq, Option.getD_some]) hin.out
        have P1 := Lib.hid p1
        have P2 := Lib.hid p2
        clear hR p1 p2
        go_wp2_with fail
        go_ret
        exact ⟨_, rfl, Z, P1.out, P2.out, R1.out.keeps⟩
end
end Go.Proofs.YthidipigpfcbbaaGreatDoor
