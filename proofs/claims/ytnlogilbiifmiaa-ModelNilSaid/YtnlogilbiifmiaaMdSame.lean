/-
  slices.EqualFunc of two rows of maps by maps.Equal; Same of the program's states by contract (printed by gen/mkmdsame.py).
-/
import Derived.Test.YtnlogilbiifmiaaMdEq
import Derived.Test.YtnlogilbiifmiaaWdTail
namespace Go.Proofs.Ytnlogilbiifmiaa
open Go.RowKit Go.Maps Go.Extern.Stop Go.Stop Go.Extern

/-- Rows of maps, with what each map has. -/
structure Colls (w : World) (v : Value) (bs : List Nat) (L : List Tl) : Prop where
  row : collK.Row w v bs
  len : bs.length = L.length
  each : ∀ (i b : Nat) (W : Tl), bs[i]? = some b → L[i]? = some W → MH w b (look W)
  ups : ∀ W ∈ L, UpW W
theorem Colls.keeps {w w' : World} {v : Value} {bs : List Nat} {L : List Tl} (h : Colls w v bs L) (k : Keeps (fun _ => False) w w') : Colls w' v bs L :=
  ⟨ownsRow_keeps h.row k fun _ _ => id, h.len, fun i b W hb hW => (h.each i b W hb hW).keeps k id, h.ups⟩
theorem Colls.at_ {w : World} {v : Value} {bs : List Nat} {L : List Tl} (h : Colls w v bs L) {i : Nat} (hi : i < L.length) : ∃ g b c W, v = .slice (some ⟨g, 0, none⟩) L.length c ∧ L[i]? = some W ∧ w.cell? ⟨g, i, none⟩ = some (.map (some b)) ∧ MH w b (look W) ∧ UpW W := by
  obtain ⟨o, c, rfl, ho⟩ := row_shape h.row
  have hi' : i < bs.length := by rw [h.len]; exact hi
  obtain ⟨g, rfl⟩ := ho (by omega)
  obtain ⟨b, hb⟩ : ∃ b, bs[i]? = some b := ⟨_, List.getElem?_eq_getElem hi'⟩
  obtain ⟨W, hW⟩ : ∃ W, L[i]? = some W := ⟨_, List.getElem?_eq_getElem hi⟩
  refine ⟨g, b, c, W, by rw [h.len], hW, ?_, h.each i b W hb hW, h.ups W (List.mem_of_getElem? hW)⟩
  refine (World.ownsRow.cellAt h.row i (by show i < bs.length * 1; omega)).trans ?_
  show (bs.map fun x => Value.map (some x))[i]? = _
  rw [List.getElem?_map, hb]; rfl
theorem Colls.shape {w : World} {v : Value} {bs : List Nat} {L : List Tl} (h : Colls w v bs L) : ∃ o c, v = .slice o L.length c := by
  obtain ⟨o, c, rfl, _⟩ := row_shape h.row
  exact ⟨o, c, by rw [h.len]⟩

theorem eqf_len (w : World) (bs ds : List Nat) (L M : List Tl) (v v' : Value) (h : Colls w v bs L) (h' : Colls w v' ds M) (hne : L.length ≠ M.length) :
    Calls Try.prog 24 #[v, v', .func (.func 25) #[] #[]] w fun e w' => e = .returned (.bool false) ∧ w' = w := by
  obtain ⟨a, c, rfl⟩ := h.shape
  obtain ⟨a', c', rfl⟩ := h'.shape
  have hb : ((L.length : Int) != M.length) = true := by simp; omega
  clear h h'
  generalize L.length = n at *
  generalize M.length = n' at *
  go_enter Try.func24, Try.ntmps24
  go_wp2
  go_ret
  exact ⟨rfl, rfl⟩

set_option maxRecDepth 100000 in
set_option maxHeartbeats 1000000 in
theorem eqf_any {w : World} {bs ds : List Nat} {L M : List Tl} {v v' : Value} (h : Colls w v bs L) (h' : Colls w v' ds M) (few : L.length ≤ 100000) :
    Calls Try.prog 24 #[v, v', .func (.func 25) #[] #[]] w fun e w' => e = .returned (.bool (decide (L = M))) ∧ Keeps (fun _ => False) w w' := by
  by_cases hne : L.length ≠ M.length
  · rw [decide_eq_false (fun e => hne (by rw [e]))]
    exact (eqf_len w bs ds L M v v' h h' hne).mono fun _ _ ⟨h1, h2⟩ => ⟨h1, by rw [h2]; exact Keeps.refl _ _⟩
  obtain ⟨n, hn⟩ : ∃ n, L.length = n := ⟨_, rfl⟩
  have hm : M.length = n := by omega
  have a1 : ∀ i, i < n → _ := fun i hi => h.at_ (i := i) (by rw [hn]; exact hi)
  have a2 : ∀ i, i < n → _ := fun i hi => h'.at_ (i := i) (by rw [hm]; exact hi)
  rw [hn] at a1
  rw [hm] at a2
  obtain ⟨o1, c1, e1⟩ := h.shape
  obtain ⟨o2, c2, e2⟩ := h'.shape
  rw [hn] at e1 few
  rw [hm] at e2
  subst e1
  subst e2
  have A1 := Lib.hid a1
  have A2 := Lib.hid a2
  have hlm := Lib.hid (list_eq hn hm)
  have hb : ((n : Int) != n) = false := by simp
  obtain ⟨r, hr⟩ : ∃ r, decide (L = M) = r := ⟨_, rfl⟩
  rw [hr]
  have hr' := Lib.hid hr
  clear hne hr h h' hn hm a1 a2
  go_enter Try.func24, Try.ntmps24
  go_wp2_with fail
  go_loopw [17] (fun iv wr => ∃ i : Nat, iv = .int .i64 i ∧ i ≤ n ∧ (∀ k, k < i → L[k]? = M[k]?) ∧ Keeps (fun _ => False) w wr) (fun iv _ => n - (intOf iv).toNat)
  case atStart => exact ⟨0, rfl, Nat.zero_le _, fun k h => absurd h (Nat.not_lt_zero _), Keeps.refl _ _⟩
  case round =>
    obtain ⟨i, rfl, hi, hk, hK⟩ := hrel
    have K1 := Lib.hid hK
    have k1 := Lib.hid hk
    clear hK hk
    by_cases hin : i < n
    · have hin' : (i : Int) < (n : Int) := by omega
      obtain ⟨g, b, c, W, hv, hW, x1, m1, u1⟩ := A1.out i hin
      obtain ⟨g', b', c', V, hv', hV, y1, m2, u2⟩ := A2.out i hin
      injection hv with hv _ hc
      injection hv' with hv' _ hc'
      subst hv
      subst hv'
      subst hc
      subst hc'
      have x2 := (K1.out.cell (cell_lt x1) id).trans x1
      have y2 := (K1.out.cell (cell_lt y1) id).trans y1
      have ce := Lib.hid (meq_any (m1.keeps K1.out id) (m2.keeps K1.out id) u1 u2)
      have hW' := Lib.hid hW
      have hV' := Lib.hid hV
      clear x1 y1 m1 m2 u1 u2 hW hV
      by_cases he : W = V
      · subst he
        rw [decide_eq_true rfl] at ce
        go_wp2_with (go_at_call 25; refine ce.out.mono ?_; rintro e w2 ⟨rfl, hK⟩; have K2 := Lib.hid (K1.out.trans hK fun _ _ => id); clear hK)
        go_roundw
        case rel =>
          have k2 : ∀ k, k < i + 1 → L[k]? = M[k]? := fun k hk => by
            rcases Nat.lt_or_ge k i with h | h
            · exact k1.out k h
            · obtain rfl : k = i := by omega
              rw [hW'.out, hV'.out]
          exact ⟨i + 1, by go_num, by omega, k2, K2.out⟩
        case measure => simp [intOf]; omega
      · rw [decide_eq_false he] at ce
        have hr2 : r = false := by
          rw [← hr'.out]
          exact decide_eq_false fun e => he (by
            have := hlm.out.1 e i (by omega)
            rw [hW'.out, hV'.out] at this
            injection this)
        subst hr2
        clear he
        go_wp2_with (go_at_call 25; refine ce.out.mono ?_; rintro e w2 ⟨rfl, hK⟩; have K2 := Lib.hid (K1.out.trans hK fun _ _ => id); clear hK)
        go_ret
        exact ⟨rfl, K2.out⟩
    · have hr2 : r = true := by
        rw [← hr'.out]
        exact decide_eq_true (hlm.out.2 fun k hk => k1.out k (by omega))
      subst hr2
      have hin' : ¬ (i : Int) < (n : Int) := by omega
      go_wp2_with fail
      go_ret
      exact ⟨rfl, K1.out⟩

theorem same_nil (w : World) :
    Calls Try.prog 13 #[.pointer none, .pointer none] w fun e w' => e = .returned (.bool true) ∧ w = w' := by
  go_enter Try.func13, Try.ntmps13
  go_wp2_with (go_at_call 21; refine (mnone_nil _).mono ?_; rintro e w' ⟨rfl, rfl⟩)
  go_ret
  exact ⟨rfl, rfl⟩

theorem PMt.colls_ {w : World} {s : Nat} {vK : Value} {gC cap : Nat} {bs : List Nat} {A : M8} {X : Nat → Prop} (h : PMt w s vK gC cap bs A X) : Colls w (.slice (some ⟨gC, 0, none⟩) bs.length cap) bs A.L :=
  ⟨h.colls, h.len, h.each, fun W hW => (h.ok.ups W hW).1⟩

theorem m8_eq (A B : M8) : A = B ↔ A.K = B.K ∧ A.L = B.L := by
  obtain ⟨a, b⟩ := A
  obtain ⟨c, d⟩ := B
  simp

set_option maxRecDepth 100000 in
set_option maxHeartbeats 4000000 in
theorem same_m {w : World} {s o : Nat} {A B : M8} {X Z : Nat → Prop} (h : PM w s A X) (h' : PM w o B Z) :
    Calls Try.prog 13 #[.pointer (some ⟨s, 0, none⟩), .pointer (some ⟨o, 0, none⟩)] w fun e w' => ∃ b, e = .returned (.bool b) ∧ (b = true ↔ A = B) ∧ Keeps (fun _ => False) w w' := by
  have fk : A.K.length ≤ 100000 := by have := h.ok.len; have := h.ok.few; omega
  have fl : A.L.length ≤ 100000 := by have := h.ok.few; omega
  obtain ⟨vK, gC, cap, bs, h⟩ := h
  obtain ⟨vK', gC', cap', bs', h'⟩ := h'
  have S0 : Hid (∀ V, Keeps (fun _ => False) w V → V.cell? ⟨s, 0, none⟩ = some vK ∧ V.cell? ⟨o, 0, none⟩ = some vK' ∧ V.cell? ⟨s, 1, none⟩ = some (.slice (some ⟨gC, 0, none⟩) bs.length cap) ∧ V.cell? ⟨o, 1, none⟩ = some (.slice (some ⟨gC', 0, none⟩) bs'.length cap')) := Lib.hid fun V k =>
    ⟨(h.blk.keeps k id).at_ 0, (h'.blk.keeps k id).at_ 0, (h.blk.keeps k id).at_ 1, (h'.blk.keeps k id).at_ 1⟩
  have CE : Hid (∀ V, Keeps (fun _ => False) w V → Calls Try.prog 23 #[vK, vK'] V fun e w' => e = .returned (.bool (decide (A.K = B.K))) ∧ Keeps (fun _ => False) w w') := Lib.hid fun V k =>
    (eqi_any (ownsRow_keeps h.kinds k fun _ _ => id) (ownsRow_keeps h'.kinds k fun _ _ => id) fk).mono fun e w' ⟨h1, h2⟩ => ⟨h1, k.trans h2 fun _ _ => id⟩
  have CF : Hid (∀ V, Keeps (fun _ => False) w V → Calls Try.prog 24 #[.slice (some ⟨gC, 0, none⟩) bs.length cap, .slice (some ⟨gC', 0, none⟩) bs'.length cap', .func (.func 25) #[] #[]] V fun e w' => e = .returned (.bool (decide (A.L = B.L))) ∧ Keeps (fun _ => False) w w') := Lib.hid fun V k =>
    (eqf_any (h.colls_.keeps k) (h'.colls_.keeps k) fl).mono fun e w' ⟨h1, h2⟩ => ⟨h1, k.trans h2 fun _ _ => id⟩
  have hN := Lib.hid (mnone_there w (h.blk.at_ 1))
  have hN' := Lib.hid (mnone_there w (h'.blk.at_ 1))
  obtain ⟨r1, hr1⟩ : ∃ r, decide (A.K = B.K) = r := ⟨_, rfl⟩
  obtain ⟨r2, hr2⟩ : ∃ r, decide (A.L = B.L) = r := ⟨_, rfl⟩
  have fin : Hid (∀ b : Bool, b = (r1 && r2) → (b = true ↔ A = B)) := Lib.hid fun b hb => by
    rw [hb, m8_eq, ← hr1, ← hr2]
    simp
  rw [hr1] at CE
  rw [hr2] at CF
  clear h h' hr1 hr2 fk fl
  generalize bs.length = n at *
  generalize bs'.length = n' at *
  cases r1 with
  | true =>
    go_enter Try.func13, Try.ntmps13
    go_wp2_with fail
    refine hN.out.mono ?_
    rintro e w' ⟨rfl, rfl⟩
    go_wp2_with fail
    refine hN'.out.mono ?_
    rintro e w' ⟨rfl, rfl⟩
    go_wp2_with fail
    refine AnyT.begin (S := fun V => V.cell? ⟨s, 0, none⟩ = some vK ∧ V.cell? ⟨o, 0, none⟩ = some vK' ∧ V.cell? ⟨s, 1, none⟩ = some (.slice (some ⟨gC, 0, none⟩) n cap) ∧ V.cell? ⟨o, 1, none⟩ = some (.slice (some ⟨gC', 0, none⟩) n' cap')) (by kernel_rfl) (S0.out _ (Keeps.refl _ _).drew) (fun hHeld => ?_)
    first
      | (refine AnyT.take (i := 0) (v := ?_) rfl (by kernel_rfl) (fun _ _ _ h => h) (Or.inl ⟨by rfl, ?_⟩) (by assumption) ?_; rotate_left; (· (intro V hSV; (try (obtain ⟨q1, q2, q3, q4⟩ := hSV)); (first | (go_simp; done) | (go_simp; with_reducible rfl)))); simp only [Act.put, List.setIfInBounds_toArray, List.set_cons_zero, List.set_cons_succ])
      | (refine AnyT.take (i := 0) (v := undef) rfl (by kernel_rfl) (fun _ _ _ h => h) (Or.inr ⟨by rfl, rfl⟩) (by assumption) ?_; simp only [Act.put, List.setIfInBounds_toArray, List.set_cons_zero, List.set_cons_succ])
    first
      | (refine AnyT.take (i := 1) (v := ?_) rfl (by kernel_rfl) (fun _ _ _ h => h) (Or.inl ⟨by rfl, ?_⟩) (by assumption) ?_; rotate_left; (· (intro V hSV; (try (obtain ⟨q1, q2, q3, q4⟩ := hSV)); (first | (go_simp; done) | (go_simp; with_reducible rfl)))); simp only [Act.put, List.setIfInBounds_toArray, List.set_cons_zero, List.set_cons_succ])
      | (refine AnyT.take (i := 1) (v := undef) rfl (by kernel_rfl) (fun _ _ _ h => h) (Or.inr ⟨by rfl, rfl⟩) (by assumption) ?_; simp only [Act.put, List.setIfInBounds_toArray, List.set_cons_zero, List.set_cons_succ])
    first
      | (refine AnyT.take (i := 2) (v := ?_) rfl (by kernel_rfl) (fun _ _ _ h => h) (Or.inl ⟨by rfl, ?_⟩) (by assumption) ?_; rotate_left; (· (intro V hSV; (try (obtain ⟨q1, q2, q3, q4⟩ := hSV)); (first | (go_simp; done) | (go_simp; with_reducible rfl)))); simp only [Act.put, List.setIfInBounds_toArray, List.set_cons_zero, List.set_cons_succ])
      | (refine AnyT.take (i := 2) (v := undef) rfl (by kernel_rfl) (fun _ _ _ h => h) (Or.inr ⟨by rfl, rfl⟩) (by assumption) ?_; simp only [Act.put, List.setIfInBounds_toArray, List.set_cons_zero, List.set_cons_succ])
    first
      | (refine AnyT.take (i := 3) (v := ?_) rfl (by kernel_rfl) (fun _ _ _ h => h) (Or.inl ⟨by rfl, ?_⟩) (by assumption) ?_; rotate_left; (· (intro V hSV; (try (obtain ⟨q1, q2, q3, q4⟩ := hSV)); (first | (go_simp; done) | (go_simp; with_reducible rfl)))); simp only [Act.put, List.setIfInBounds_toArray, List.set_cons_zero, List.set_cons_succ])
      | (refine AnyT.take (i := 3) (v := undef) rfl (by kernel_rfl) (fun _ _ _ h => h) (Or.inr ⟨by rfl, rfl⟩) (by assumption) ?_; simp only [Act.put, List.setIfInBounds_toArray, List.set_cons_zero, List.set_cons_succ])
    first
      | (refine AnyT.take (i := 4) (v := ?_) rfl (by kernel_rfl) (fun _ _ _ h => h) (Or.inl ⟨by rfl, ?_⟩) (by assumption) ?_; rotate_left; (· (intro V hSV; (try (obtain ⟨q1, q2, q3, q4⟩ := hSV)); (first | (go_simp; done) | (go_simp; with_reducible rfl)))); simp only [Act.put, List.setIfInBounds_toArray, List.set_cons_zero, List.set_cons_succ])
      | (refine AnyT.take (i := 4) (v := undef) rfl (by kernel_rfl) (fun _ _ _ h => h) (Or.inr ⟨by rfl, rfl⟩) (by assumption) ?_; simp only [Act.put, List.setIfInBounds_toArray, List.set_cons_zero, List.set_cons_succ])
    first
      | (refine AnyT.take (i := 5) (v := ?_) rfl (by kernel_rfl) (fun _ _ _ h => h) (Or.inl ⟨by rfl, ?_⟩) (by assumption) ?_; rotate_left; (· (intro V hSV; (try (obtain ⟨q1, q2, q3, q4⟩ := hSV)); (first | (go_simp; done) | (go_simp; with_reducible rfl)))); simp only [Act.put, List.setIfInBounds_toArray, List.set_cons_zero, List.set_cons_succ])
      | (refine AnyT.take (i := 5) (v := undef) rfl (by kernel_rfl) (fun _ _ _ h => h) (Or.inr ⟨by rfl, rfl⟩) (by assumption) ?_; simp only [Act.put, List.setIfInBounds_toArray, List.set_cons_zero, List.set_cons_succ])
    first
      | (refine AnyT.take (i := 6) (v := ?_) rfl (by kernel_rfl) (fun _ _ _ h => h) (Or.inl ⟨by rfl, ?_⟩) (by assumption) ?_; rotate_left; (· (intro V hSV; (try (obtain ⟨q1, q2, q3, q4⟩ := hSV)); (first | (go_simp; done) | (go_simp; with_reducible rfl)))); simp only [Act.put, List.setIfInBounds_toArray, List.set_cons_zero, List.set_cons_succ])
      | (refine AnyT.take (i := 6) (v := undef) rfl (by kernel_rfl) (fun _ _ _ h => h) (Or.inr ⟨by rfl, rfl⟩) (by assumption) ?_; simp only [Act.put, List.setIfInBounds_toArray, List.set_cons_zero, List.set_cons_succ])
    first
      | (refine AnyT.take (i := 7) (v := ?_) rfl (by kernel_rfl) (fun _ _ _ h => h) (Or.inl ⟨by rfl, ?_⟩) (by assumption) ?_; rotate_left; (· (intro V hSV; (try (obtain ⟨q1, q2, q3, q4⟩ := hSV)); (first | (go_simp; done) | (go_simp; with_reducible rfl)))); simp only [Act.put, List.setIfInBounds_toArray, List.set_cons_zero, List.set_cons_succ])
      | (refine AnyT.take (i := 7) (v := undef) rfl (by kernel_rfl) (fun _ _ _ h => h) (Or.inr ⟨by rfl, rfl⟩) (by assumption) ?_; simp only [Act.put, List.setIfInBounds_toArray, List.set_cons_zero, List.set_cons_succ])
    refine AnyT.ready (rs := [8]) (by kernel_rfl) (by simp) (ReadyT.cons rfl (fun K hK => ?_) ReadyT.nil)
    go_simp
    refine (CE.out _ (Keeps.refl _ _).drew).mono ?_
    rintro e w2 ⟨rfl, k1⟩
    have K2 := Lib.hid k1
    clear k1
    go_wp2_with fail
    have hHeld := S0.out w2 K2.out
    refine hK.out _ _ (fun _ => hHeld) (fun _ => ?_)
    clear hK K
    try simp only [Act.put, List.setIfInBounds_toArray, List.set_cons_zero, List.set_cons_succ]
    first
      | (refine AnyT.take (i := 9) (v := ?_) rfl (by kernel_rfl) (fun _ _ _ h => h) (Or.inl ⟨by rfl, ?_⟩) (by assumption) ?_; rotate_left; (· (intro V hSV; (try (obtain ⟨q1, q2, q3, q4⟩ := hSV)); (first | (go_simp; done) | (go_simp; with_reducible rfl)))); simp only [Act.put, List.setIfInBounds_toArray, List.set_cons_zero, List.set_cons_succ])
      | (refine AnyT.take (i := 9) (v := undef) rfl (by kernel_rfl) (fun _ _ _ h => h) (Or.inr ⟨by rfl, rfl⟩) (by assumption) ?_; simp only [Act.put, List.setIfInBounds_toArray, List.set_cons_zero, List.set_cons_succ])
    first
      | (refine AnyT.take (i := 10) (v := ?_) rfl (by kernel_rfl) (fun _ _ _ h => h) (Or.inl ⟨by rfl, ?_⟩) (by assumption) ?_; rotate_left; (· (intro V hSV; (try (obtain ⟨q1, q2, q3, q4⟩ := hSV)); (first | (go_simp; done) | (go_simp; with_reducible rfl)))); simp only [Act.put, List.setIfInBounds_toArray, List.set_cons_zero, List.set_cons_succ])
      | (refine AnyT.take (i := 10) (v := undef) rfl (by kernel_rfl) (fun _ _ _ h => h) (Or.inr ⟨by rfl, rfl⟩) (by assumption) ?_; simp only [Act.put, List.setIfInBounds_toArray, List.set_cons_zero, List.set_cons_succ])
    first
      | (refine AnyT.take (i := 11) (v := ?_) rfl (by kernel_rfl) (fun _ _ _ h => h) (Or.inl ⟨by rfl, ?_⟩) (by assumption) ?_; rotate_left; (· (intro V hSV; (try (obtain ⟨q1, q2, q3, q4⟩ := hSV)); (first | (go_simp; done) | (go_simp; with_reducible rfl)))); simp only [Act.put, List.setIfInBounds_toArray, List.set_cons_zero, List.set_cons_succ])
      | (refine AnyT.take (i := 11) (v := undef) rfl (by kernel_rfl) (fun _ _ _ h => h) (Or.inr ⟨by rfl, rfl⟩) (by assumption) ?_; simp only [Act.put, List.setIfInBounds_toArray, List.set_cons_zero, List.set_cons_succ])
    first
      | (refine AnyT.take (i := 12) (v := ?_) rfl (by kernel_rfl) (fun _ _ _ h => h) (Or.inl ⟨by rfl, ?_⟩) (by assumption) ?_; rotate_left; (· (intro V hSV; (try (obtain ⟨q1, q2, q3, q4⟩ := hSV)); (first | (go_simp; done) | (go_simp; with_reducible rfl)))); simp only [Act.put, List.setIfInBounds_toArray, List.set_cons_zero, List.set_cons_succ])
      | (refine AnyT.take (i := 12) (v := undef) rfl (by kernel_rfl) (fun _ _ _ h => h) (Or.inr ⟨by rfl, rfl⟩) (by assumption) ?_; simp only [Act.put, List.setIfInBounds_toArray, List.set_cons_zero, List.set_cons_succ])
    first
      | (refine AnyT.take (i := 13) (v := ?_) rfl (by kernel_rfl) (fun _ _ _ h => h) (Or.inl ⟨by rfl, ?_⟩) (by assumption) ?_; rotate_left; (· (intro V hSV; (try (obtain ⟨q1, q2, q3, q4⟩ := hSV)); (first | (go_simp; done) | (go_simp; with_reducible rfl)))); simp only [Act.put, List.setIfInBounds_toArray, List.set_cons_zero, List.set_cons_succ])
      | (refine AnyT.take (i := 13) (v := undef) rfl (by kernel_rfl) (fun _ _ _ h => h) (Or.inr ⟨by rfl, rfl⟩) (by assumption) ?_; simp only [Act.put, List.setIfInBounds_toArray, List.set_cons_zero, List.set_cons_succ])
    first
      | (refine AnyT.take (i := 14) (v := ?_) rfl (by kernel_rfl) (fun _ _ _ h => h) (Or.inl ⟨by rfl, ?_⟩) (by assumption) ?_; rotate_left; (· (intro V hSV; (try (obtain ⟨q1, q2, q3, q4⟩ := hSV)); (first | (go_simp; done) | (go_simp; with_reducible rfl)))); simp only [Act.put, List.setIfInBounds_toArray, List.set_cons_zero, List.set_cons_succ])
      | (refine AnyT.take (i := 14) (v := undef) rfl (by kernel_rfl) (fun _ _ _ h => h) (Or.inr ⟨by rfl, rfl⟩) (by assumption) ?_; simp only [Act.put, List.setIfInBounds_toArray, List.set_cons_zero, List.set_cons_succ])
    first
      | (refine AnyT.take (i := 15) (v := ?_) rfl (by kernel_rfl) (fun _ _ _ h => h) (Or.inl ⟨by rfl, ?_⟩) (by assumption) ?_; rotate_left; (· (intro V hSV; (try (obtain ⟨q1, q2, q3, q4⟩ := hSV)); (first | (go_simp; done) | (go_simp; with_reducible rfl)))); simp only [Act.put, List.setIfInBounds_toArray, List.set_cons_zero, List.set_cons_succ])
      | (refine AnyT.take (i := 15) (v := undef) rfl (by kernel_rfl) (fun _ _ _ h => h) (Or.inr ⟨by rfl, rfl⟩) (by assumption) ?_; simp only [Act.put, List.setIfInBounds_toArray, List.set_cons_zero, List.set_cons_succ])
    first
      | (refine AnyT.take (i := 16) (v := ?_) rfl (by kernel_rfl) (fun _ _ _ h => h) (Or.inl ⟨by rfl, ?_⟩) (by assumption) ?_; rotate_left; (· (intro V hSV; (try (obtain ⟨q1, q2, q3, q4⟩ := hSV)); (first | (go_simp; done) | (go_simp; with_reducible rfl)))); simp only [Act.put, List.setIfInBounds_toArray, List.set_cons_zero, List.set_cons_succ])
      | (refine AnyT.take (i := 16) (v := undef) rfl (by kernel_rfl) (fun _ _ _ h => h) (Or.inr ⟨by rfl, rfl⟩) (by assumption) ?_; simp only [Act.put, List.setIfInBounds_toArray, List.set_cons_zero, List.set_cons_succ])
    first
      | (refine AnyT.take (i := 17) (v := ?_) rfl (by kernel_rfl) (fun _ _ _ h => h) (Or.inl ⟨by rfl, ?_⟩) (by assumption) ?_; rotate_left; (· (intro V hSV; (try (obtain ⟨q1, q2, q3, q4⟩ := hSV)); (first | (go_simp; done) | (go_simp; with_reducible rfl)))); simp only [Act.put, List.setIfInBounds_toArray, List.set_cons_zero, List.set_cons_succ])
      | (refine AnyT.take (i := 17) (v := undef) rfl (by kernel_rfl) (fun _ _ _ h => h) (Or.inr ⟨by rfl, rfl⟩) (by assumption) ?_; simp only [Act.put, List.setIfInBounds_toArray, List.set_cons_zero, List.set_cons_succ])
    refine AnyT.ready (rs := [18]) (by kernel_rfl) (by simp) (ReadyT.cons rfl (fun K hK => ?_) ReadyT.nil)
    go_simp
    refine (CF.out _ K2.out).mono ?_
    rintro e w3 ⟨rfl, k1⟩
    have K3 := Lib.hid k1
    clear k1
    go_wp2_with fail
    have hHeld := S0.out w3 K3.out
    refine hK.out _ _ (fun _ => hHeld) (fun _ => ?_)
    clear hK K
    try simp only [Act.put, List.setIfInBounds_toArray, List.set_cons_zero, List.set_cons_succ]
    first
      | (refine AnyT.take (i := 19) (v := ?_) rfl (by kernel_rfl) (fun _ _ _ h => h) (Or.inl ⟨by rfl, ?_⟩) (by assumption) ?_; rotate_left; (· (intro V hSV; (try (obtain ⟨q1, q2, q3, q4⟩ := hSV)); (first | (go_simp; done) | (go_simp; with_reducible rfl)))); simp only [Act.put, List.setIfInBounds_toArray, List.set_cons_zero, List.set_cons_succ])
      | (refine AnyT.take (i := 19) (v := undef) rfl (by kernel_rfl) (fun _ _ _ h => h) (Or.inr ⟨by rfl, rfl⟩) (by assumption) ?_; simp only [Act.put, List.setIfInBounds_toArray, List.set_cons_zero, List.set_cons_succ])
    refine AnyT.ready (rs := [20]) (by kernel_rfl) (by simp) (ReadyT.cons rfl (fun K hK => ?_) ReadyT.nil)
    go_simp
    refine hK.out _ _ (fun h => absurd h (by simp)) (fun _ => ?_)
    clear hK K
    try simp only [Act.put, List.setIfInBounds_toArray, List.set_cons_zero, List.set_cons_succ]
    refine AnyT.done (by kernel_rfl) ?_ _
    go_wp2_with fail
    go_ret
    exact ⟨r2, rfl, fin.out r2 (by simp), K3.out⟩
  | false =>
    clear CF
    go_enter Try.func13, Try.ntmps13
    go_wp2_with fail
    refine hN.out.mono ?_
    rintro e w' ⟨rfl, rfl⟩
    go_wp2_with fail
    refine hN'.out.mono ?_
    rintro e w' ⟨rfl, rfl⟩
    go_wp2_with fail
    refine AnyT.begin (S := fun V => V.cell? ⟨s, 0, none⟩ = some vK ∧ V.cell? ⟨o, 0, none⟩ = some vK' ∧ V.cell? ⟨s, 1, none⟩ = some (.slice (some ⟨gC, 0, none⟩) n cap) ∧ V.cell? ⟨o, 1, none⟩ = some (.slice (some ⟨gC', 0, none⟩) n' cap')) (by kernel_rfl) (S0.out _ (Keeps.refl _ _).drew) (fun hHeld => ?_)
    first
      | (refine AnyT.take (i := 0) (v := ?_) rfl (by kernel_rfl) (fun _ _ _ h => h) (Or.inl ⟨by rfl, ?_⟩) (by assumption) ?_; rotate_left; (· (intro V hSV; (try (obtain ⟨q1, q2, q3, q4⟩ := hSV)); (first | (go_simp; done) | (go_simp; with_reducible rfl)))); simp only [Act.put, List.setIfInBounds_toArray, List.set_cons_zero, List.set_cons_succ])
      | (refine AnyT.take (i := 0) (v := undef) rfl (by kernel_rfl) (fun _ _ _ h => h) (Or.inr ⟨by rfl, rfl⟩) (by assumption) ?_; simp only [Act.put, List.setIfInBounds_toArray, List.set_cons_zero, List.set_cons_succ])
    first
      | (refine AnyT.take (i := 1) (v := ?_) rfl (by kernel_rfl) (fun _ _ _ h => h) (Or.inl ⟨by rfl, ?_⟩) (by assumption) ?_; rotate_left; (· (intro V hSV; (try (obtain ⟨q1, q2, q3, q4⟩ := hSV)); (first | (go_simp; done) | (go_simp; with_reducible rfl)))); simp only [Act.put, List.setIfInBounds_toArray, List.set_cons_zero, List.set_cons_succ])
      | (refine AnyT.take (i := 1) (v := undef) rfl (by kernel_rfl) (fun _ _ _ h => h) (Or.inr ⟨by rfl, rfl⟩) (by assumption) ?_; simp only [Act.put, List.setIfInBounds_toArray, List.set_cons_zero, List.set_cons_succ])
    first
      | (refine AnyT.take (i := 2) (v := ?_) rfl (by kernel_rfl) (fun _ _ _ h => h) (Or.inl ⟨by rfl, ?_⟩) (by assumption) ?_; rotate_left; (· (intro V hSV; (try (obtain ⟨q1, q2, q3, q4⟩ := hSV)); (first | (go_simp; done) | (go_simp; with_reducible rfl)))); simp only [Act.put, List.setIfInBounds_toArray, List.set_cons_zero, List.set_cons_succ])
      | (refine AnyT.take (i := 2) (v := undef) rfl (by kernel_rfl) (fun _ _ _ h => h) (Or.inr ⟨by rfl, rfl⟩) (by assumption) ?_; simp only [Act.put, List.setIfInBounds_toArray, List.set_cons_zero, List.set_cons_succ])
    first
      | (refine AnyT.take (i := 3) (v := ?_) rfl (by kernel_rfl) (fun _ _ _ h => h) (Or.inl ⟨by rfl, ?_⟩) (by assumption) ?_; rotate_left; (· (intro V hSV; (try (obtain ⟨q1, q2, q3, q4⟩ := hSV)); (first | (go_simp; done) | (go_simp; with_reducible rfl)))); simp only [Act.put, List.setIfInBounds_toArray, List.set_cons_zero, List.set_cons_succ])
      | (refine AnyT.take (i := 3) (v := undef) rfl (by kernel_rfl) (fun _ _ _ h => h) (Or.inr ⟨by rfl, rfl⟩) (by assumption) ?_; simp only [Act.put, List.setIfInBounds_toArray, List.set_cons_zero, List.set_cons_succ])
    first
      | (refine AnyT.take (i := 4) (v := ?_) rfl (by kernel_rfl) (fun _ _ _ h => h) (Or.inl ⟨by rfl, ?_⟩) (by assumption) ?_; rotate_left; (· (intro V hSV; (try (obtain ⟨q1, q2, q3, q4⟩ := hSV)); (first | (go_simp; done) | (go_simp; with_reducible rfl)))); simp only [Act.put, List.setIfInBounds_toArray, List.set_cons_zero, List.set_cons_succ])
      | (refine AnyT.take (i := 4) (v := undef) rfl (by kernel_rfl) (fun _ _ _ h => h) (Or.inr ⟨by rfl, rfl⟩) (by assumption) ?_; simp only [Act.put, List.setIfInBounds_toArray, List.set_cons_zero, List.set_cons_succ])
    first
      | (refine AnyT.take (i := 5) (v := ?_) rfl (by kernel_rfl) (fun _ _ _ h => h) (Or.inl ⟨by rfl, ?_⟩) (by assumption) ?_; rotate_left; (· (intro V hSV; (try (obtain ⟨q1, q2, q3, q4⟩ := hSV)); (first | (go_simp; done) | (go_simp; with_reducible rfl)))); simp only [Act.put, List.setIfInBounds_toArray, List.set_cons_zero, List.set_cons_succ])
      | (refine AnyT.take (i := 5) (v := undef) rfl (by kernel_rfl) (fun _ _ _ h => h) (Or.inr ⟨by rfl, rfl⟩) (by assumption) ?_; simp only [Act.put, List.setIfInBounds_toArray, List.set_cons_zero, List.set_cons_succ])
    first
      | (refine AnyT.take (i := 6) (v := ?_) rfl (by kernel_rfl) (fun _ _ _ h => h) (Or.inl ⟨by rfl, ?_⟩) (by assumption) ?_; rotate_left; (· (intro V hSV; (try (obtain ⟨q1, q2, q3, q4⟩ := hSV)); (first | (go_simp; done) | (go_simp; with_reducible rfl)))); simp only [Act.put, List.setIfInBounds_toArray, List.set_cons_zero, List.set_cons_succ])
      | (refine AnyT.take (i := 6) (v := undef) rfl (by kernel_rfl) (fun _ _ _ h => h) (Or.inr ⟨by rfl, rfl⟩) (by assumption) ?_; simp only [Act.put, List.setIfInBounds_toArray, List.set_cons_zero, List.set_cons_succ])
    first
      | (refine AnyT.take (i := 7) (v := ?_) rfl (by kernel_rfl) (fun _ _ _ h => h) (Or.inl ⟨by rfl, ?_⟩) (by assumption) ?_; rotate_left; (· (intro V hSV; (try (obtain ⟨q1, q2, q3, q4⟩ := hSV)); (first | (go_simp; done) | (go_simp; with_reducible rfl)))); simp only [Act.put, List.setIfInBounds_toArray, List.set_cons_zero, List.set_cons_succ])
      | (refine AnyT.take (i := 7) (v := undef) rfl (by kernel_rfl) (fun _ _ _ h => h) (Or.inr ⟨by rfl, rfl⟩) (by assumption) ?_; simp only [Act.put, List.setIfInBounds_toArray, List.set_cons_zero, List.set_cons_succ])
    refine AnyT.ready (rs := [8]) (by kernel_rfl) (by simp) (ReadyT.cons rfl (fun K hK => ?_) ReadyT.nil)
    go_simp
    refine (CE.out _ (Keeps.refl _ _).drew).mono ?_
    rintro e w2 ⟨rfl, k1⟩
    have K2 := Lib.hid k1
    clear k1
    go_wp2_with fail
    have hHeld := S0.out w2 K2.out
    refine hK.out _ _ (fun _ => hHeld) (fun _ => ?_)
    clear hK K
    try simp only [Act.put, List.setIfInBounds_toArray, List.set_cons_zero, List.set_cons_succ]
    first
      | (refine AnyT.take (i := 9) (v := ?_) rfl (by kernel_rfl) (fun _ _ _ h => h) (Or.inl ⟨by rfl, ?_⟩) (by assumption) ?_; rotate_left; (· (intro V hSV; (try (obtain ⟨q1, q2, q3, q4⟩ := hSV)); (first | (go_simp; done) | (go_simp; with_reducible rfl)))); simp only [Act.put, List.setIfInBounds_toArray, List.set_cons_zero, List.set_cons_succ])
      | (refine AnyT.take (i := 9) (v := undef) rfl (by kernel_rfl) (fun _ _ _ h => h) (Or.inr ⟨by rfl, rfl⟩) (by assumption) ?_; simp only [Act.put, List.setIfInBounds_toArray, List.set_cons_zero, List.set_cons_succ])
    (refine AnyT.take (i := 10) (v := undef) rfl (by kernel_rfl) (fun _ _ _ h => h) (Or.inr ⟨by rfl, rfl⟩) (by assumption) ?_; simp only [Act.put, List.setIfInBounds_toArray, List.set_cons_zero, List.set_cons_succ])
    (refine AnyT.take (i := 11) (v := undef) rfl (by kernel_rfl) (fun _ _ _ h => h) (Or.inr ⟨by rfl, rfl⟩) (by assumption) ?_; simp only [Act.put, List.setIfInBounds_toArray, List.set_cons_zero, List.set_cons_succ])
    (refine AnyT.take (i := 12) (v := undef) rfl (by kernel_rfl) (fun _ _ _ h => h) (Or.inr ⟨by rfl, rfl⟩) (by assumption) ?_; simp only [Act.put, List.setIfInBounds_toArray, List.set_cons_zero, List.set_cons_succ])
    (refine AnyT.take (i := 13) (v := undef) rfl (by kernel_rfl) (fun _ _ _ h => h) (Or.inr ⟨by rfl, rfl⟩) (by assumption) ?_; simp only [Act.put, List.setIfInBounds_toArray, List.set_cons_zero, List.set_cons_succ])
    (refine AnyT.take (i := 14) (v := undef) rfl (by kernel_rfl) (fun _ _ _ h => h) (Or.inr ⟨by rfl, rfl⟩) (by assumption) ?_; simp only [Act.put, List.setIfInBounds_toArray, List.set_cons_zero, List.set_cons_succ])
    (refine AnyT.take (i := 15) (v := undef) rfl (by kernel_rfl) (fun _ _ _ h => h) (Or.inr ⟨by rfl, rfl⟩) (by assumption) ?_; simp only [Act.put, List.setIfInBounds_toArray, List.set_cons_zero, List.set_cons_succ])
    (refine AnyT.take (i := 16) (v := undef) rfl (by kernel_rfl) (fun _ _ _ h => h) (Or.inr ⟨by rfl, rfl⟩) (by assumption) ?_; simp only [Act.put, List.setIfInBounds_toArray, List.set_cons_zero, List.set_cons_succ])
    (refine AnyT.take (i := 17) (v := undef) rfl (by kernel_rfl) (fun _ _ _ h => h) (Or.inr ⟨by rfl, rfl⟩) (by assumption) ?_; simp only [Act.put, List.setIfInBounds_toArray, List.set_cons_zero, List.set_cons_succ])
    (refine AnyT.take (i := 18) (v := undef) rfl (by kernel_rfl) (fun _ _ _ h => h) (Or.inr ⟨by rfl, rfl⟩) (by assumption) ?_; simp only [Act.put, List.setIfInBounds_toArray, List.set_cons_zero, List.set_cons_succ])
    first
      | (refine AnyT.take (i := 19) (v := ?_) rfl (by kernel_rfl) (fun _ _ _ h => h) (Or.inl ⟨by rfl, ?_⟩) (by assumption) ?_; rotate_left; (· (intro V hSV; (try (obtain ⟨q1, q2, q3, q4⟩ := hSV)); (first | (go_simp; done) | (go_simp; with_reducible rfl)))); simp only [Act.put, List.setIfInBounds_toArray, List.set_cons_zero, List.set_cons_succ])
      | (refine AnyT.take (i := 19) (v := undef) rfl (by kernel_rfl) (fun _ _ _ h => h) (Or.inr ⟨by rfl, rfl⟩) (by assumption) ?_; simp only [Act.put, List.setIfInBounds_toArray, List.set_cons_zero, List.set_cons_succ])
    refine AnyT.ready (rs := [20]) (by kernel_rfl) (by simp) (ReadyT.cons rfl (fun K hK => ?_) ReadyT.nil)
    go_simp
    refine hK.out _ _ (fun h => absurd h (by simp)) (fun _ => ?_)
    clear hK K
    try simp only [Act.put, List.setIfInBounds_toArray, List.set_cons_zero, List.set_cons_succ]
    refine AnyT.done (by kernel_rfl) ?_ _
    go_wp2_with fail
    go_ret
    exact ⟨false, rfl, fin.out false (by simp), K2.out⟩
end Go.Proofs.Ytnlogilbiifmiaa
