/-
  sets: Writes by contract.
-/
import Derived.Test.YtkolkimmhlmlgaaDoorStUndo
namespace Go.Proofs.YtkolkimmhlmlgaaDoor
open Go.RowKit Go.Maps Go.WideAt Go.Extern.Stop Go.Stop Go.Extern

/-- The keys of a map are numbers that its type can be. -/
theorem HoldsM.wf {V : Type} {P : Program} {K : TypeId} {E : Enc V} {w : World} {b : Nat} {f : Int → Option V} (h : HoldsM P K E w b f) (hk : P.underlying K = some (.int .u64)) {k : Int} (hf : (f k).isSome = true) : wfU k := by
  obtain ⟨D, n, h, _, hr⟩ := h
  have K' := int_keyed hk
  obtain ⟨es, rfl, hp, _⟩ := h.entries K'
  have h1 := (hr k).1
  rw [hf, has_eq, List.any_eq_true] at h1
  obtain ⟨p, hp1, hp2⟩ := h1
  obtain ⟨es0, clock, _, F, _, hD⟩ := h
  injection hD with hD
  rw [hD] at hp1
  obtain ⟨x, hx, rfl⟩ := List.mem_map.1 (mem_sorted.1 hp1)
  obtain ⟨y, hy⟩ := F.reads x hx
  obtain ⟨a, _, ha, hwf⟩ := Maps.keyOf_int_inv hk (WideElems.rd_key hy)
  rw [WideElems.rg_of hy] at hp2
  have e : a = k := by
    have e2 : (ik a).sameKey (ik k) = true := by
      have := hp2
      rw [ha] at this
      exact this
    simpa [ik, Lit.sameKey] using e2
  rw [← e]; exact hwf

theorem look_nth {W : Tl} (hW : UpW W) {i : Nat} {p : Int × Int} (h : W[i]? = some p) : look W p.1 = some p.2 := by
  induction W generalizing i with
  | nil => simp at h
  | cons q t ih =>
    obtain ⟨c, v⟩ := q
    have h1 := List.pairwise_cons.1 hW
    cases i with
    | zero => simp at h; subst h; simp [look]
    | succ i =>
      have h2 : t[i]? = some p := by simpa using h
      have h3 := h1.1 p.1 (List.mem_map.2 ⟨p, List.mem_of_getElem? h2, rfl⟩)
      have hne : ¬ p.1 = c := by intro e; simp only at h3; omega
      simp only [look, if_neg hne]
      exact ih h1.2 h2

theorem writes_nil (w : World) :
    Calls Tryd.prog 11 #[.pointer none] w fun e w' => e = .returned (.slice none 0 0) ∧ w = w' := by
  go_enter Tryd.func11, Tryd.ntmps11
  go_wp2_with (go_at_call 31; refine (snone_nil _).mono ?_; rintro e w' ⟨rfl, rfl⟩)
  go_ret
  exact ⟨rfl, rfl⟩

set_option maxRecDepth 100000 in
set_option maxHeartbeats 1000000 in
theorem writes_any {w : World} {s : Nat} {A : AS} {X : Nat → Prop} (h : PS w s A X) :
    Calls Tryd.prog 11 #[.pointer (some ⟨s, 0, none⟩)] w fun e w' => Told2 .u64 60 w A.W e w' := by
  obtain ⟨pb, wb, vr, vm, lb, lg, h⟩ := h
  have c2 : w.cell? ⟨s, 2, none⟩ = some (.map (some wb)) := h.blk.at_ 2
  have cn := Lib.hid (snone_there w c2)
  have few := h.ok.wfew
  have ls := h.blk.lt
  have lw := h.writes.lt
  obtain ⟨n, hn⟩ : ∃ n, A.W.length = n := ⟨_, rfl⟩
  have hn' := Lib.hid hn
  have k1 : Keeps (fun _ => False) w (w.alloc (.cells #[.map (some wb)] 55)) := (Keeps.refl _ w).alloc _
  have cs := Lib.hid (sorted_any (look_keys h.ok.up) h.ok.up (by rw [List.length_map]; omega) ((Whole.made w 55 #[.map (some wb)]).at_ 0) (h.writes.keeps k1 id))
  have hP := Lib.hid h
  have k1' := Lib.hid k1
  rw [hn] at few
  clear h k1 hn
  go_enter Tryd.func11, Tryd.ntmps11
  go_wp2_with (first
    | (go_at_call 31; refine cn.out.mono ?_; rintro e w' ⟨rfl, rfl⟩)
    | (go_at_call 33; refine (keys_any _ _).mono ?_; rintro e w' ⟨rfl, rfl⟩))
  refine cs.out.mono ?_
  rintro e w2 ⟨u, rfl, hO, hK⟩
  have K2 := Lib.hid (k1'.out.trans hK fun _ _ => id)
  have O2 := Lib.hid hO
  obtain ⟨o, cap, rfl, ho⟩ : ∃ o cap, u = .slice o n cap ∧ (0 < n → ∃ g, o = some ⟨g, 0, none⟩) := by
    rcases hO.2 with ⟨hv, hz⟩ | ⟨g, cap, cur, hv, _⟩
    · refine ⟨none, 0, ?_, fun h0 => ?_⟩
      · rw [hv, ← hn'.out]; simp at hz; rw [hz]; rfl
      · rw [← hn'.out] at h0; simp at hz; rw [hz] at h0; simp at h0
    · refine ⟨_, cap, ?_, fun _ => ⟨g, rfl⟩⟩
      rw [hv, ← hn'.out, List.length_map]
  have s2 := K2.out.size
  clear hO hK
  go_wp2_with fail
  go_loopw [15, 3] (fun iv lv wr => ∃ (i : Nat) (lo : Option Addr) (lc : Nat), iv = .int .i64 i ∧ lv = .slice lo i lc ∧ i ≤ n ∧ wroteK.Row wr (.slice lo i lc) (A.W.take i) ∧ (∀ g, (Value.slice lo i lc).ownBlock = some g → w2.heap.size ≤ g) ∧ Keeps (fun _ => False) w2 wr) (fun iv _ _ => n - (intOf iv).toNat)
  case atStart => exact ⟨0, none, 0, rfl, rfl, Nat.zero_le _, World.ownsRow_nil .., fun g hg => by simp [Value.ownBlock] at hg, Keeps.refl _ _⟩
  case round =>
    obtain ⟨i, lo, lc, rfl, rfl, hi, hR, hF, hK⟩ := hrel
    have R1 := Lib.hid hR
    have F1 := Lib.hid hF
    have K1 := Lib.hid hK
    by_cases hlt : i < n
    · obtain ⟨g, rfl⟩ := ho (by omega)
      obtain ⟨c, v, hcv⟩ : ∃ c v, A.W[i]? = some (c, v) := ⟨_, _, List.getElem?_eq_getElem (by rw [hn'.out]; exact hlt)⟩
      have hlook := look_nth hP.out.ok.up hcv
      simp only at hlook
      have hwf : wfU c := hP.out.writes.wf Tryd.underlying23 (by rw [hlook]; rfl)
      have cu : wr.cell? ⟨g, i, none⟩ = some (.int .u64 c) := by
        have h0 := O2.out
        rw [List.length_map, hn'.out] at h0
        have h1 := World.ownsRow.cellAt h0 i (by omega)
        rw [List.getElem?_map, List.getElem?_map, hcv] at h1
        exact (hK.cell (cell_lt h1) id).trans h1
      have H1 := Lib.hid ((hP.out.writes.keeps K2.out id).keeps hK id)
      have d2 : wr.cell? ⟨s, 2, none⟩ = some (.map (some wb)) := (hK.cell (Nat.lt_of_lt_of_le ls s2) id).trans ((K2.out.cell ls id).trans c2)
      have b1 : (i : Int) < (n : Int) := by omega
      have hl' := Lib.hid hlook
      have hcv' := Lib.hid hcv
      clear hR hF hK hlook hcv
      go_wp2_with (first
        | (at_lookup; refine wpList_look _ rfl _ _ _ rfl 23 23 uE Tryd.underlying23 Tryd.underlying55 0 (zero_u _) wb (look A.W) rfl H1.out c rfl hwf (.int .u64 v) (by rw [hl'.out]; rfl) ?_)
        | (at_builtin; refine wpList_append_k wroteK _ rfl _ _ rfl (.slice lo i lc) (A.W.take i) [(c, v)] rfl (R1.out.alloc _) ⟨wr.heap.size, 0, none⟩ 1 _ rfl rfl (one_pair (Whole.made wr 60 #[.int .u64 c, .int .u64 v])) (i + 1) (by simp [hn'.out]; omega) (by omega) ?_
           intro ao ac w3 hr3 hg3 ho3
           have R3 := Lib.hid hr3
           have O3 := Lib.hid ho3
           have K3 := Lib.hid (show Keeps (fun _ => False) w2 w3 from (K1.out.alloc _).trans ((Keeps.refl (fun x => (Value.slice lo i lc).ownBlock = some x) _).grown hg3 fun k hk _ => hk) fun x hx e => absurd hx (by have := F1.out x e; omega))
           clear hr3 hg3 ho3))
      go_roundw
      case rel =>
        refine ⟨i + 1, ao, ac, by go_num, rfl, by omega, ?_, fun g' hg' => ?_, K3.out⟩
        · rw [List.take_add_one, hcv'.out]; exact R3.out
        · rcases O3.out with e | e
          · exact F1.out g' (by rw [← e]; exact hg')
          · rw [e] at hg'
            injection hg' with hg'
            have := K1.out.size
            rw [← hg']; simp; omega
      case measure => simp [intOf]; omega
    · obtain rfl : i = n := by omega
      have b1 : ¬ (i : Int) < (i : Int) := by omega
      clear hR hF hK
      go_wp2_with fail
      go_ret
      refine ⟨_, rfl, ?_, fun g hg => Nat.le_trans s2 (F1.out g hg), K2.out.trans K1.out fun _ _ => id⟩
      have := R1.out
      rw [← hn'.out, List.take_length] at this
      rw [← hn'.out]
      exact this
end Go.Proofs.YtkolkimmhlmlgaaDoor
