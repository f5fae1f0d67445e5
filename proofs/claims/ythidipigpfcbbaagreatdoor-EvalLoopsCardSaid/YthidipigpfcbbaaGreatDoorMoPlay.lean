/-
  concordlaw08.Play by contract, for any program's states that keep 'Face'.
-/
import Derived.Test.YthidipigpfcbbaaGreatDoorMoIs
import Derived.Test.YthidipigpfcbbaaGreatDoorMoOn8
namespace Go.Proofs.YthidipigpfcbbaaGreatDoor
open Go.RowKit Go.Maps Go.Extern.Stop Go.Stop Go.Extern

section
variable {PM : PMem} {w0 w : World} {s r : Nat} {A : M8}
theorem Both8.on (h : Both8 PM w0 w s r A) : On8 PM w0 w s A := by obtain ⟨X, Y, h1, h2, h3, h4, h5⟩ := h; exact ⟨X, h1, fun x hx => h4 x (.inl hx), h5⟩
end

theorem mDo_K (A : M8) (a : Act8) : (mDo A a).K = A.K ∧ (mDo A a).L.length = A.L.length := by
  have h1 : ∀ c k v, (mPut A c k v).1.K = A.K ∧ (mPut A c k v).1.L.length = A.L.length := fun c k v => by
    unfold mPut
    split
    · split
      · exact ⟨rfl, rfl⟩
      · exact ⟨rfl, by simp [M8.setC]⟩
    · exact ⟨rfl, rfl⟩
  have h2 : ∀ c k, (mDel A c k).1.K = A.K ∧ (mDel A c k).1.L.length = A.L.length := fun c k => by
    unfold mDel
    split
    · exact ⟨rfl, by simp [M8.setC]⟩
    · exact ⟨rfl, rfl⟩
  unfold mDo
  split
  · exact h1 _ _ _
  · split
    · exact h2 _ _
    · exact ⟨rfl, rfl⟩
/-- All keys are ints of Go. -/
def Keyed (A : M8) : Prop := ∀ W ∈ A.L, ∀ p ∈ W, wfI p.1
theorem Keyed.col {A : M8} (h : Keyed A) (c : Int) : ∀ p ∈ A.col c, wfI p.1 := fun p hp => by
  unfold M8.col at hp
  rw [List.getD_eq_getElem?_getD] at hp
  cases e : A.L[c.toNat]? with
  | none => rw [e] at hp; cases hp
  | some W => rw [e] at hp; exact h W (List.mem_of_getElem? e) p hp
theorem Keyed.setC {A : M8} (h : Keyed A) (c : Int) {W : Tl} (hW : ∀ p ∈ W, wfI p.1) : Keyed (A.setC c W) := fun V hV => by
  rcases List.mem_or_eq_of_mem_set hV with g | g
  · exact h V g
  · rw [g]; exact hW
theorem mDo_keyed {A : M8} (h : Keyed A) (a : Act8) (ha : wfI a.key) : Keyed (mDo A a) := by
  have h1 : ∀ v, Keyed (mPut A a.c a.key v).1 := fun v => by
    unfold mPut
    split
    · split
      · exact h
      · refine h.setC _ fun p hp => ?_
        unfold put low high at hp
        rcases List.mem_append.1 hp with g | g
        · exact h.col _ p (List.mem_filter.1 g).1
        · rcases List.mem_cons.1 g with g | g
          · rw [g]; exact ha
          · exact h.col _ p (List.mem_filter.1 g).1
    · exact h
  have h2 : Keyed (mDel A a.c a.key).1 := by
    unfold mDel
    split
    · exact h.setC _ fun p hp => h.col _ p (List.mem_filter.1 hp).1
    · exact h
  unfold mDo
  split
  · exact h1 _
  · split
    · exact h2
    · exact h
theorem made_keyed (K : List Int) : Keyed (M8.made K) := fun W hW p hp => by
  obtain ⟨_, rfl⟩ := List.mem_replicate.1 hW
  cases hp
theorem mNew_len {K : List Int} (h : (mNew K).1 = true) : K.length ≤ 8 := by
  unfold mNew at h
  split at h
  · cases h
  · split at h
    · cases h
    · omega
theorem mNew_no {K : List Int} (h : (mNew K).1 = false) : (mNew K).2.1 ≠ 0 := by
  unfold mNew at h ⊢
  split
  · simp
  · split
    · simp
    · rename_i h1 h2; rw [if_neg h1, if_neg h2] at h; cases h

theorem Act8L.same {w w' : World} {a : Option Addr} {n cap : Nat} {L : List Act8} (h : Act8L w a n cap L) (k : Keeps (fun _ => False) w w') : Act8L w' a n cap L :=
  ⟨h.len, h.fit, fun h0 => by
    obtain ⟨b, o, h1, h2⟩ := h.at_ h0
    refine ⟨b, o, h1, fun i x hx => ?_⟩
    obtain ⟨q0, q1, q2, q3⟩ := h2 i x hx
    exact ⟨(k.cell (cell_lt q0) id).trans q0, (k.cell (cell_lt q1) id).trans q1, (k.cell (cell_lt q2) id).trans q2, (k.cell (cell_lt q3) id).trans q3⟩, h.wf⟩

section
variable {PM : PMem} {w0 w : World} {s r : Nat} {A : M8}
/-- A call of both, of a call that lies in memory. -/
theorem do_both8 (F : Face PM) (h : Both8 PM w0 w s r A) (hg : Glob w0) (a : Act8) (hc : wfI a.key) :
    Calls Tryz.prog 36 #[.pointer (some ⟨s, 0, none⟩), .pointer (some ⟨r, 0, none⟩), .agg #[.int .i64 a.k, .int .i64 a.c, .int .i64 a.key, .int .i64 a.v]] w fun e w' => e = .returned (.bool true) ∧ Both8 PM w0 w' s r (mDo A a) := by
  obtain ⟨X, Y, h1, h2, h3, h4, h5⟩ := h
  have hgl := hg.lt
  exact (do_any8 F h1 h2 h3 (hg.keeps h5 id) (fun e => by have := h4 _ e; omega) a hc).mono fun e w' ⟨e1, e2⟩ => ⟨e1, e2.both h4 h5⟩
theorem is_both8 (F : Face PM) (h : Both8 PM w0 w s r A) :
    Calls Tryz.prog 21 #[.pointer (some ⟨s, 0, none⟩), .pointer (some ⟨r, 0, none⟩)] w fun e w' => e = .returned (.bool true) ∧ Both8 PM w0 w' s r A := by
  have h' := h
  obtain ⟨X, Y, h1, h2, h3, h4, h5⟩ := h
  exact (is_any8 F h1 h2).mono fun e w' ⟨e1, k⟩ => ⟨e1, h'.same F k⟩
/-- The state becomes its copy. -/
theorem copy_both8 (F : Face PM) (h : Both8 PM w0 w s r A) :
    Calls Tryz.prog 26 #[.pointer (some ⟨s, 0, none⟩)] w fun e w' => ∃ o, e = .returned (.pointer (some ⟨o, 0, none⟩)) ∧ Both8 PM w0 w' o r A ∧ Keeps (fun _ => False) w w' := by
  obtain ⟨X, Y, h1, h2, h3, h4, h5⟩ := h
  refine (F.copy_ h1).mono ?_
  rintro e w' ⟨o, Z, e1, e2, e3, e4⟩
  refine ⟨o, e1, ⟨Z, Y, e2, h2.same e4, fun x hx hy => by have := h2.old x hy; have := e3 x hx; omega, fun x hx => ?_, h5.trans e4 fun _ _ => id⟩, e4⟩
  rcases hx with hx | hx
  · exact Nat.le_trans h5.size (e3 x hx)
  · exact h4 x (.inr hx)
/-- Both are made. -/
theorem On8.both8 {w1 w' : World} {K : List Int} {e : Ending} (F : Face PM) (h : On8 PM w0 w1 s (M8.made K)) (hk : (mNew K).1 = true) (hr : RNew w1 K e w') : ∃ r, e = .returned (.tuple #[.pointer (some ⟨r, 0, none⟩), .int .i64 0, .int .i64 0]) ∧ Both8 PM w0 w' s r (M8.made K) := by
  obtain ⟨X, h1, h2, h3⟩ := h
  rcases hr with ⟨h, _⟩ | ⟨_, r, Y, e1, e2, e3, e4⟩
  · rw [hk] at h; cases h
  · refine ⟨r, e1, X, Y, F.same h1 e4, e2, fun x hx hy => by have := F.old h1 x hx; have := e3 x hy; omega, fun x hx => ?_, h3.trans e4 fun _ _ => id⟩
    rcases hx with hx | hx
    · exact h2 x hx
    · exact Nat.le_trans h3.size (e3 x hx)
end

set_option maxRecDepth 100000 in
theorem play_no8 {PM : PMem} (F : Face PM) {w : World} {a0 : Option Addr} {len0 cap0 : Nat} {K : List Int} {a1 : Option Addr} {len1 cap1 : Nat} (hK : IntL w a0 len0 K) (hno : (20 < len0 ∨ 60 < len1) ∨ (mNew K).1 = false) :
    Calls Tryz.prog 17 #[.slice a0 len0 cap0, .slice a1 len1 cap1] w fun e w' => e = .returned (.pointer none) ∧ Keeps (fun _ => False) w w' := by
  by_cases h0 : 20 < len0
  · have b0 : (20 : Int) < (len0 : Int) := by omega
    clear hK hno
    go_enter Tryz.func17, Tryz.ntmps17
    go_wp2_with fail
    go_ret
    exact ⟨rfl, Keeps.refl _ _⟩
  have b0 : ¬ (20 : Int) < (len0 : Int) := by omega
  by_cases h1 : 60 < len1
  · have b1 : (60 : Int) < (len1 : Int) := by omega
    clear hK hno
    go_enter Tryz.func17, Tryz.ntmps17
    go_wp2_with fail
    go_ret
    exact ⟨rfl, Keeps.refl _ _⟩
  have b1 : ¬ (60 : Int) < (len1 : Int) := by omega
  have hm : (mNew K).1 = false := by
    rcases hno with (h | h) | h
    · exact absurd h h0
    · exact absurd h h1
    · exact h
  have hf := mNew_no hm
  obtain ⟨f, hf'⟩ : ∃ f, (mNew K).2.1 = f := ⟨_, rfl⟩
  have CN := F.new_no (cap := cap0) hK hm
  rw [hf'] at CN hf
  have CN := Lib.hid CN
  have CR := Lib.hid (fun V (k : Keeps (fun _ => False) w V) => rnew8 (cap := cap0) (hK.same k))
  have fb : ((f : Int) != 0) = true := by simp; omega
  have HM := Lib.hid hm
  clear hK hno h0 h1 hm hf hf'
  go_enter Tryz.func17, Tryz.ntmps17
  go_wp2_with fail
  refine CN.out.mono ?_
  rintro e w1 ⟨ev, rfl, hT, hK⟩
  have T1 := Lib.hid hT
  have K1 := Lib.hid hK
  clear hT hK
  go_wp2_with fail
  refine (CR.out _ K1.out).mono ?_
  rintro e w2 hR
  rcases hR with ⟨_, rfl, rfl⟩ | ⟨h, _⟩
  · go_wp2_with (first
      | (go_at_call 11; refine (no_u T1.out).mono ?_; rintro e w' ⟨rfl, rfl⟩))
    go_ret
    exact ⟨rfl, K1.out⟩
  · rw [HM.out] at h; cases h

/-- What Play answers. -/
def PlayTo (PM : PMem) (w : World) (K : List Int) (e : Ending) (w' : World) : Prop := ∃ s A, e = .returned (.pointer (some ⟨s, 0, none⟩)) ∧ On8 PM w w' s A ∧ A.K = K ∧ A.L.length = K.length ∧ Keyed A

set_option maxRecDepth 100000 in
set_option maxHeartbeats 2000000 in
theorem play_yes8 {PM : PMem} (F : Face PM) {w : World} {a0 : Option Addr} {len0 cap0 : Nat} {K : List Int} {a1 : Option Addr} {len1 cap1 : Nat} {L : List Act8} (hK : IntL w a0 len0 K) (hL : Act8L w a1 len1 cap1 L) (h0 : len0 ≤ 20) (h1 : len1 ≤ 60) (hm : (mNew K).1 = true) (hg : Glob w) :
    Calls Tryz.prog 17 #[.slice a0 len0 cap0, .slice a1 len1 cap1] w fun e w' => PlayTo PM w K e w' := by
  have b0 : ¬ (20 : Int) < (len0 : Int) := by omega
  have b1 : ¬ (60 : Int) < (len1 : Int) := by omega
  have CN := Lib.hid (new_on8 (cap := cap0) F hK hm (Keeps.refl _ w))
  have CR := Lib.hid (fun V (k : Keeps (fun _ => False) w V) => rnew8 (cap := cap0) (hK.same k))
  have HM := Lib.hid hm
  have LL := Lib.hid hL
  have HG := Lib.hid hg
  clear hK hm hL hg h0
  go_enter Tryz.func17, Tryz.ntmps17
  go_wp2_with fail
  refine CN.out.mono ?_
  rintro e w1 ⟨s, rfl, hO⟩
  have O1 := Lib.hid hO
  clear hO
  go_wp2_with fail
  refine (CR.out _ O1.out.keeps).mono ?_
  rintro e w2 hR
  obtain ⟨r, rfl, hB⟩ := O1.out.both8 F HM.out hR
  have B1 := Lib.hid hB
  clear hB hR
  go_wp2_with (first
    | (go_at_call 11; refine (no_nil _).mono ?_; rintro e w' ⟨rfl, rfl⟩))
  go_loopw [40] (fun iv wr => ∃ (i : Nat) (A : M8), iv = .int .i64 i ∧ i ≤ len1 ∧ Both8 PM w wr s r A ∧ A.K = K ∧ A.L.length = K.length ∧ Keyed A) (fun iv _ => len1 - (intOf iv).toNat)
  case atStart => exact ⟨0, _, rfl, Nat.zero_le _, B1.out, rfl, by simp [M8.made], made_keyed K⟩
  case round =>
    obtain ⟨i, A, rfl, hi, hB, hAK, hAL, hAW⟩ := hrel
    have AK := Lib.hid (And.intro hAK (And.intro hAL hAW))
    clear hAK hAL hAW
    by_cases hlt : i < len1
    · have b2 : (i : Int) < (len1 : Int) := by omega
      obtain ⟨b, o, rfl, hc⟩ := LL.out.at_ (by omega)
      obtain ⟨x, hx⟩ : ∃ x, L[i]? = some x := ⟨_, List.getElem?_eq_getElem (by rw [LL.out.len]; exact hlt)⟩
      obtain ⟨q0, q1, q2, q3⟩ := hc i x hx
      have K := hB.keeps
      have d0 := (K.cell (cell_lt q0) id).trans q0
      have d1 := (K.cell (cell_lt q1) id).trans q1
      have d2 := (K.cell (cell_lt q2) id).trans q2
      have d3 := (K.cell (cell_lt q3) id).trans q3
      have C1 := Lib.hid (do_both8 F (hB.same F ((Keeps.refl (fun _ => False) wr).alloc (.cells #[.int .i64 x.k, .int .i64 x.c, .int .i64 x.key, .int .i64 x.v] 88))) HG.out x (LL.out.wf x (List.mem_of_getElem? hx)))
      have DK := Lib.hid (And.intro ((mDo_K A x).1.trans AK.out.1) (And.intro ((mDo_K A x).2.trans AK.out.2.1) (mDo_keyed AK.out.2.2 x (LL.out.wf x (List.mem_of_getElem? hx)))))
      clear K q0 q1 q2 q3 hc hB hx
      obtain ⟨xk, xc, xkey, xv⟩ := x
      simp only at d0 d1 d2 d3
      go_wp2_with fail
      refine C1.out.mono ?_
      rintro e w3 ⟨rfl, h2⟩
      have B2 := Lib.hid h2
      clear h2
      go_wp2_with fail
      go_roundw
      case rel => exact ⟨i + 1, _, by go_num, by omega, B2.out, DK.out.1, DK.out.2.1, DK.out.2.2⟩
      case measure => simp [intOf]; omega
    · obtain rfl : i = len1 := by omega
      have b2 : ¬ (i : Int) < (i : Int) := by omega
      have O := Lib.hid hB.on
      clear hB
      go_wp2_with fail
      go_ret
      exact ⟨s, A, rfl, O.out, AK.out.1, AK.out.2.1, AK.out.2.2⟩
end Go.Proofs.YthidipigpfcbbaaGreatDoor
