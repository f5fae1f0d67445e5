/-
  prog.Size, Deep, Waits by contract.
-/
import Derived.Test.YtpmbkeaimdeglaaDoorPvOver
import Derived.Test.YtpmbkeaimdeglaaDoorPgRef2
import Derived.Shelf.Abstract
namespace Go.Proofs.YtpmbkeaimdeglaaDoor
open Go.RowKit Go.Extern.Stop Go.Stop Go.Extern

/-- A look that changes one block alone, whose single cell tells what it has seen. -/
theorem one_block {w0 : World} {wn : Nat} {L : List Ln} {fn : Nat} {cap : Array Value} {sb : Nat} {ty : TypeId} (f : Nat → Value) (P : Nat → Prop) {Fin : World → Prop} (he : ∀ (args : Array Value) (w : World), (callFunc fn args).run Tryd.prog w = .ok (.enter fn args) w) (h0 : w0.heap.size ≤ sb)
    (hs : ∀ (i : Nat) (l : Ln) (b e : Sl) (W : World), L[i]? = some l → P i → Whole W sb ty #[f i] → Calls Tryd.prog fn (#[.int .i64 ((i + 1 : Nat) : Int), .int .i64 (l.d : Nat), .agg (stAgg l.s b e)] ++ cap) W fun e' W' => ∃ go : Bool, e' = .returned (.bool go) ∧ Keeps (fun x => x = sb) W W' ∧ (go = true → Whole W' sb ty #[f (i + 1)] ∧ P (i + 1)) ∧ (go = false → Fin W')) :
    Look w0 wn L fn cap (fun i Z W => (Z = fun x => x = sb) ∧ Whole W sb ty #[f i] ∧ P i) Fin where
  enters := he
  low := fun i Z W ⟨hz, hw, _⟩ x hx => by subst hz; subst hx; exact ⟨h0, hw.lt⟩
  stay := fun i Z W W' ⟨hz, hw, hp⟩ hk => ⟨hz, hw.keeps hk fun hc => (by subst hz; exact hc.2 rfl), hp⟩
  step := fun i l b e Z W hl ⟨hz, hw, hp⟩ hk hB hE => by
    refine (hs i l b e W hl hp hw).mono ?_
    rintro e' W' ⟨go, h1, h2, h3, h4⟩
    subst hz
    exact ⟨go, _, h1, h2, fun x hx => .inl hx, fun hg => ⟨rfl, h3 hg⟩, h4⟩

set_option maxRecDepth 100000 in
theorem size1_any {W : World} {n d : Int} {s : St7} {b e : Sl} {sb : Nat} {c : Value} (h : Whole W sb 3 #[c]) :
    Calls Tryd.prog 33 #[.int .i64 n, .int .i64 d, .agg (stAgg s b e), .pointer (some ⟨sb, 0, none⟩)] W fun e' W' => e' = .returned (.bool true) ∧ Keeps (fun x => x = sb) W W' ∧ Whole W' sb 3 #[.int .i64 n] := by
  have k1 : ∀ o, Keeps (fun x => x = sb) W ((W.setCell ⟨sb, 0, none⟩ (.int .i64 n)).alloc o) := fun o => ((Keeps.refl (fun x => x = sb) W).setCell (p := ⟨sb, 0, none⟩) (fun _ => rfl) _).alloc o
  have h1 : ∀ o, Whole ((W.setCell ⟨sb, 0, none⟩ (.int .i64 n)).alloc o) sb 3 #[.int .i64 n] := fun o => (h.set_ 0 _).alloc o
  have K1 := Lib.hid k1
  have H1 := Lib.hid h1
  have c0 : W.cell? ⟨sb, 0, none⟩ = some c := h.at_ 0
  have f0 : W.frozen? ⟨sb, 0, none⟩ = false := h.free 0
  have ls := h.lt
  clear k1 h1 h
  unfold stAgg slv
  go_enter Tryd.func33, Tryd.ntmps33
  go_wp2_with fail
  go_ret
  exact ⟨rfl, K1.out _, H1.out _⟩

set_option maxRecDepth 100000 in
theorem size_any {w : World} {v : Value} {F : Fo} (h : SlOf w v F) (few : F.size ≤ 600) (hd : F.deep ≤ 40) :
    Calls Tryd.prog 14 #[v] w fun e w' => e = .returned (.int .i64 (F.size : Nat)) ∧ Keeps (fun _ => False) w w' := by
  obtain ⟨W1, hW1⟩ : ∃ V, V = w.alloc (.cells #[.int .i64 0] 3) := ⟨_, rfl⟩
  have K1 : Keeps (fun _ => False) w W1 := by rw [hW1]; exact (Keeps.refl _ w).alloc _
  have M1 : Whole W1 w.heap.size 3 #[.int .i64 0] := by rw [hW1]; exact Whole.made _ _ _
  have CO := Lib.hid (over_any (w := W1) h (K1.mono fun _ _ => False.elim) (by omega) (by omega)
    (one_block (w0 := w) (wn := W1.heap.size) (L := lin F 1) (fn := 33) (cap := #[.pointer (some ⟨w.heap.size, 0, none⟩)]) (sb := w.heap.size) (ty := 3) (fun i => .int .i64 (i : Nat)) (fun _ => True) (Fin := fun _ => False) (enters_of Tryd.func33 (by kernel_rfl) rfl) (Nat.le_refl _) (fun i l b e W hl _ hw => (size1_any hw).mono fun e' W' ⟨h1, h2, h3⟩ => ⟨true, h1, h2, fun _ => ⟨h3, trivial⟩, fun hc => by cases hc⟩)) ⟨rfl, M1, trivial⟩)
  have hW1' := Lib.hid hW1
  have K1' := Lib.hid K1
  generalize F.size = N at *
  clear h few hd hW1 K1 M1
  go_enter Tryd.func14, Tryd.ntmps14
  go_upto_region 2 with fail
  rw [← hW1'.out]
  go_wp2_with fail
  refine CO.out.mono ?_
  rintro e w2 ⟨rfl, hK, hR⟩
  rcases hR with ⟨Z, ⟨_, hm, _⟩, _⟩ | hf
  · have c0 : w2.cell? ⟨w.heap.size, 0, none⟩ = some (.int .i64 (N : Nat)) := hm.at_ 0
    have K2 := Lib.hid hK
    have s1 := K1'.out.size
    clear hK hm
    go_wp2_with fail
    go_ret
    exact ⟨rfl, K1'.out.trans K2.out fun x hx hc => by rcases hc with hc | hc <;> omega⟩
  · exact hf.elim

set_option maxRecDepth 100000 in
theorem deep1_any {W : World} {n : Int} {d m : Nat} {s : St7} {b e : Sl} {sb : Nat} (h : Whole W sb 3 #[.int .i64 (m : Nat)]) :
    Calls Tryd.prog 34 #[.int .i64 n, .int .i64 (d : Nat), .agg (stAgg s b e), .pointer (some ⟨sb, 0, none⟩)] W fun e' W' => e' = .returned (.bool true) ∧ Keeps (fun x => x = sb) W W' ∧ Whole W' sb 3 #[.int .i64 ((max m d : Nat) : Int)] := by
  have k1 : ∀ o, Keeps (fun x => x = sb) W ((W.setCell ⟨sb, 0, none⟩ (.int .i64 ((max m d : Nat) : Int))).alloc o) := fun o => ((Keeps.refl (fun x => x = sb) W).setCell (p := ⟨sb, 0, none⟩) (fun _ => rfl) _).alloc o
  have h1 : ∀ o, Whole ((W.setCell ⟨sb, 0, none⟩ (.int .i64 ((max m d : Nat) : Int))).alloc o) sb 3 #[.int .i64 ((max m d : Nat) : Int)] := fun o => (h.set_ 0 _).alloc o
  have K1 := Lib.hid k1
  have H1 := Lib.hid h1
  have c0 : W.cell? ⟨sb, 0, none⟩ = some (.int .i64 (m : Nat)) := h.at_ 0
  have f0 : W.frozen? ⟨sb, 0, none⟩ = false := h.free 0
  have ls := h.lt
  clear k1 h1 h
  unfold stAgg slv
  by_cases hmd : m < d
  · have em : max m d = d := Nat.max_eq_right (by omega)
    rw [em] at K1 H1 ⊢
    have b1 : (m : Int) < (d : Int) := by omega
    have b2 : ¬ (d : Int) ≤ (m : Int) := by omega
    clear em
    go_enter Tryd.func34, Tryd.ntmps34
    go_wp2_with fail
    go_ret
    exact ⟨rfl, K1.out _, H1.out _⟩
  · have em : max m d = m := Nat.max_eq_left (by omega)
    rw [em] at K1 H1 ⊢
    have b1 : ¬ (m : Int) < (d : Int) := by omega
    have b2 : (d : Int) ≤ (m : Int) := by omega
    clear em
    go_enter Tryd.func34, Tryd.ntmps34
    go_wp2_with fail
    go_ret
    exact ⟨rfl, K1.out _, H1.out _⟩

set_option maxRecDepth 100000 in
theorem deep_any {w : World} {v : Value} {F : Fo} (h : SlOf w v F) (few : F.size ≤ 600) (hd : F.deep ≤ 40) :
    Calls Tryd.prog 16 #[v] w fun e w' => e = .returned (.int .i64 (F.deep : Nat)) ∧ Keeps (fun _ => False) w w' := by
  obtain ⟨W1, hW1⟩ : ∃ V, V = w.alloc (.cells #[.int .i64 0] 3) := ⟨_, rfl⟩
  have K1 : Keeps (fun _ => False) w W1 := by rw [hW1]; exact (Keeps.refl _ w).alloc _
  have M1 : Whole W1 w.heap.size 3 #[.int .i64 0] := by rw [hW1]; exact Whole.made _ _ _
  have CO := Lib.hid (over_any (w := W1) h (K1.mono fun _ _ => False.elim) (by omega) (by omega)
    (one_block (w0 := w) (wn := W1.heap.size) (L := lin F 1) (fn := 34) (cap := #[.pointer (some ⟨w.heap.size, 0, none⟩)]) (sb := w.heap.size) (ty := 3) (fun i => .int .i64 (deepL ((lin F 1).take i) : Nat)) (fun _ => True) (Fin := fun _ => False) (enters_of Tryd.func34 (by kernel_rfl) rfl) (Nat.le_refl _) (fun i l b e W hl _ hw => (deep1_any hw).mono fun e' W' ⟨h1, h2, h3⟩ => ⟨true, h1, h2, fun _ => ⟨by rw [List.take_add_one, hl, show (some l).toList = [l] from rfl, deepL_snoc]; exact h3, trivial⟩, fun hc => by cases hc⟩)) ⟨rfl, M1, trivial⟩)
  have e1 : deepL ((lin F 1).take F.size) = F.deep := by rw [List.take_of_length_le (by rw [lin_len]; exact Nat.le_refl _)]; exact deepL_lin F
  rw [e1] at CO
  have hW1' := Lib.hid hW1
  have K1' := Lib.hid K1
  generalize F.deep = N at *
  clear h few hd hW1 K1 M1 e1
  go_enter Tryd.func16, Tryd.ntmps16
  go_upto_region 2 with fail
  rw [← hW1'.out]
  go_wp2_with fail
  refine CO.out.mono ?_
  rintro e w2 ⟨rfl, hK, hR⟩
  rcases hR with ⟨Z, ⟨_, hm, _⟩, _⟩ | hf
  · have c0 : w2.cell? ⟨w.heap.size, 0, none⟩ = some (.int .i64 (N : Nat)) := hm.at_ 0
    have K2 := Lib.hid hK
    have s1 := K1'.out.size
    clear hK hm
    go_wp2_with fail
    go_ret
    exact ⟨rfl, K1'.out.trans K2.out fun x hx hc => by rcases hc with hc | hc <;> omega⟩
  · exact hf.elim

set_option maxRecDepth 100000 in
theorem waits1_any {W : World} {n d : Int} {s : St7} {b e : Sl} {sb : Nat} {c : Value} (q : Bool) (hq : decide (s.k = 15) = q) (h : Whole W sb 4 #[c]) :
    Calls Tryd.prog 40 #[.int .i64 n, .int .i64 d, .agg (stAgg s b e), .pointer (some ⟨sb, 0, none⟩)] W fun e' W' => e' = .returned (.bool (!q)) ∧ Keeps (fun x => x = sb) W W' ∧ Whole W' sb 4 #[.bool q] := by
  have k1 : ∀ o, Keeps (fun x => x = sb) W ((W.setCell ⟨sb, 0, none⟩ (.bool q)).alloc o) := fun o => ((Keeps.refl (fun x => x = sb) W).setCell (p := ⟨sb, 0, none⟩) (fun _ => rfl) _).alloc o
  have h1 : ∀ o, Whole ((W.setCell ⟨sb, 0, none⟩ (.bool q)).alloc o) sb 4 #[.bool q] := fun o => (h.set_ 0 _).alloc o
  have K1 := Lib.hid k1
  have H1 := Lib.hid h1
  have c0 : W.cell? ⟨sb, 0, none⟩ = some c := h.at_ 0
  have f0 : W.frozen? ⟨sb, 0, none⟩ = false := h.free 0
  have ls := h.lt
  have ls2 : ¬ sb = W.heap.size := by omega
  have ls3 : ¬ W.heap.size = sb := by omega
  obtain ⟨k, cc, r', ar, an, br, bn⟩ := s
  simp only at hq
  have e1 : (k == 15) = q := by rw [← hq]; exact rfl
  clear k1 h1 h hq
  unfold stAgg slv
  cases q with
  | false =>
    go_enter Tryd.func40, Tryd.ntmps40
    go_wp2_with fail
    go_ret
    exact ⟨rfl, K1.out _, H1.out _⟩
  | true =>
    go_enter Tryd.func40, Tryd.ntmps40
    go_wp2_with fail
    go_ret
    exact ⟨rfl, K1.out _, H1.out _⟩

set_option maxRecDepth 100000 in
theorem waits_any {w : World} {v : Value} {F : Fo} (h : SlOf w v F) (few : F.size ≤ 600) (hd : F.deep ≤ 40) :
    Calls Tryd.prog 21 #[v] w fun e w' => e = .returned (.bool (waits F)) ∧ Keeps (fun _ => False) w w' := by
  obtain ⟨W1, hW1⟩ : ∃ V, V = w.alloc (.cells #[.bool false] 4) := ⟨_, rfl⟩
  have K1 : Keeps (fun _ => False) w W1 := by rw [hW1]; exact (Keeps.refl _ w).alloc _
  have M1 : Whole W1 w.heap.size 4 #[.bool false] := by rw [hW1]; exact Whole.made _ _ _
  have CO := Lib.hid (over_any (w := W1) h (K1.mono fun _ _ => False.elim) (by omega) (by omega)
    (one_block (w0 := w) (wn := W1.heap.size) (L := lin F 1) (fn := 40) (cap := #[.pointer (some ⟨w.heap.size, 0, none⟩)]) (sb := w.heap.size) (ty := 4) (fun _ => .bool false) (fun i => ((lin F 1).take i).any (fun l => decide (l.s.k = 15)) = false) (Fin := fun V => Whole V w.heap.size 4 #[.bool true] ∧ waits F = true) (enters_of Tryd.func40 (by kernel_rfl) rfl) (Nat.le_refl _) (fun i l b e W hl hp hw => (waits1_any _ rfl hw).mono fun e' W' ⟨h1, h2, h3⟩ => ⟨_, h1, h2, fun hg => by
      have h15 : decide (l.s.k = 15) = false := by simpa using hg
      rw [h15] at h3
      refine ⟨h3, ?_⟩
      rw [List.take_add_one, hl, show (some l).toList = [l] from rfl, List.any_append, hp]
      simp [h15], fun hg => by
      have h15 : decide (l.s.k = 15) = true := by simpa using hg
      rw [h15] at h3
      exact ⟨h3, List.any_eq_true.2 ⟨l, List.mem_of_getElem? hl, h15⟩⟩⟩)) ⟨rfl, M1, rfl⟩)
  have e1 : ((lin F 1).take F.size).any (fun l => decide (l.s.k = 15)) = waits F := by rw [List.take_of_length_le (by rw [lin_len]; exact Nat.le_refl _)]; rfl
  rw [e1] at CO
  have hW1' := Lib.hid hW1
  have K1' := Lib.hid K1
  generalize waits F = q at *
  clear h few hd hW1 K1 M1 e1
  go_enter Tryd.func21, Tryd.ntmps21
  go_upto_region 2 with fail
  rw [← hW1'.out]
  go_wp2_with fail
  refine CO.out.mono ?_
  rintro e w2 ⟨rfl, hK, hR⟩
  have K2 := Lib.hid hK
  have s1 := K1'.out.size
  clear hK
  rcases hR with ⟨Z, ⟨_, hm, rfl⟩, _⟩ | ⟨hm, rfl⟩
  · have c0 : w2.cell? ⟨w.heap.size, 0, none⟩ = some (.bool false) := hm.at_ 0
    clear hm
    go_wp2_with fail
    go_ret
    exact ⟨rfl, K1'.out.trans K2.out fun x hx hc => by rcases hc with hc | hc <;> omega⟩
  · have c0 : w2.cell? ⟨w.heap.size, 0, none⟩ = some (.bool true) := hm.at_ 0
    clear hm
    go_wp2_with fail
    go_ret
    exact ⟨rfl, K1'.out.trans K2.out fun x hx hc => by rcases hc with hc | hc <;> omega⟩
end Go.Proofs.YtpmbkeaimdeglaaDoor
