/-
  What blocks (as a plain state) and errors are in memory; the calls of the blocks by contract, whatever comes of them, as doReq says.
-/
import Derived.Test.YtenhmficiegpiaaGreatDoorThAt
import Derived.Test.YtenhmficiegpiaaGreatDoorThPlain
namespace Go.Proofs.YtenhmficiegpiaaGreatDoor
open Go.RowKit Go.Extern.Stop Go.Stop Go.Extern

/-- An error as a value. -/
def ErrV (w : World) (v : Value) : EA → Prop
  | .ok => v = .nilIface
  | .no k => v = .iface 71 (.int .i64 (k : Int))
  | .at_ i k => ∃ p, v = .iface 96 (.pointer (some ⟨p, 0, none⟩)) ∧ Whole w p 99 #[.int .i64 i, .int .i64 (k : Int)]

/-- What is owned moves: X' is X and what is new; nothing else has changed. -/
structure Mv (X X' : Nat → Prop) (w w' : World) : Prop where
  keeps : Keeps X w w'
  new : ∀ x, X' x → X x ∨ w.heap.size ≤ x

theorem Mv.refl (X : Nat → Prop) (w : World) : Mv X X w w := ⟨Keeps.refl X w, fun _ h => .inl h⟩
theorem Mv.stay {X : Nat → Prop} {w w' : World} (k : Keeps (fun _ => False) w w') : Mv X X w w' := ⟨k.mono fun _ _ => False.elim, fun _ h => .inl h⟩
theorem Mv.of {X : Nat → Prop} {w w' : World} (k : Keeps X w w') : Mv X X w w' := ⟨k, fun _ h => .inl h⟩
theorem Mv.trans {X Y Z : Nat → Prop} {u v w : World} (h : Mv X Y u v) (k : Mv Y Z v w) : Mv X Z u w :=
  ⟨h.keeps.trans k.keeps fun x hx hY => (h.new x hY).elim id fun h' => absurd hx (Nat.not_lt.2 h'), fun x hz => (k.new x hz).elim (fun hY => h.new x hY) fun h' => .inr (Nat.le_trans h.keeps.size h')⟩
/-- What is apart from X stays, and stays apart. -/
theorem Mv.apart {X X' : Nat → Prop} {w w' : World} (h : Mv X X' w w') {x : Nat} (hx : x < w.heap.size) (hn : ¬ X x) : ¬ X' x := fun h' => (h.new x h').elim hn fun h2 => absurd hx (Nat.not_lt.2 h2)

/-- The words of live blocks are what is said. -/
def Sees (m : Mm) (ws : List Int) : Prop := ∀ B ∈ m.st.bs, B.live = true → ∀ k, k < B.size → ws.getD (B.place + 1 + k) 0 = (m.mem (B.place + 1 + k) : Int)

/-- Block b is blocks on the arena a, as m says. -/
def MmM (w : World) (b a : Nat) (m : Mm) (X : Nat → Prop) : Prop :=
  m.Ok ∧ ∃ ws cnt, BkAt w b a ws cnt m.st X ∧ ws.length = m.len ∧ cnt ≤ 70 * m.cnt ∧ Sees m ws

theorem MmM.keeps {w w' : World} {b a : Nat} {m : Mm} {X S : Nat → Prop} (h : MmM w b a m X) (k : Keeps S w w') (hS : ∀ x, X x → ¬ S x) : MmM w' b a m X := by
  obtain ⟨h0, ws, cnt, h1, h2⟩ := h
  exact ⟨h0, ws, cnt, h1.keeps k hS, h2⟩
theorem MmM.same {w w' : World} {b a : Nat} {m : Mm} {X : Nat → Prop} (h : MmM w b a m X) (k : Keeps (fun _ => False) w w') : MmM w' b a m X := h.keeps k fun _ _ => id
theorem MmM.old {w : World} {b a : Nat} {m : Mm} {X : Nat → Prop} (h : MmM w b a m X) : ∀ k, X k → k < w.heap.size := by
  obtain ⟨h0, ws, cnt, h1, h2⟩ := h
  exact h1.old

/-- What a call of the blocks leaves. -/
def After (w : World) (b a : Nat) (X : Nat → Prop) (r : Ent × Mm) (v : Value) (w' : World) : Prop :=
  ErrV w' v r.1.err ∧ ∃ X', MmM w' b a r.2 X' ∧ Mv X X' w w'

theorem Mm.Ok.tick {m : Mm} (h : m.Ok) : Mm.Ok { m with cnt := m.cnt + 1 } := ⟨h.st, h.len, h.small, fun B hB => Nat.le_succ_of_le (h.gen B hB)⟩

/-- Nothing but a tick. -/
theorem MmM.tick {w w' : World} {b a : Nat} {m : Mm} {X : Nat → Prop} (h : MmM w b a m X) (k : Keeps (fun _ => False) w w') : MmM w' b a { m with cnt := m.cnt + 1 } X := by
  obtain ⟨h0, ws, cnt, h1, h2, h3, h4⟩ := h
  exact ⟨h0.tick, ws, cnt, h1.same k, h2, by show cnt ≤ 70 * (m.cnt + 1); omega, h4⟩

theorem Sees.set {m : Mm} {ws : List Int} {n : Nat} (h : Sees m ws) (hok : m.st.Ok n) (hn : n = ws.length) {B : Blk} (hB : B ∈ m.st.bs) {k : Nat} (hk : k < B.size) (x : Nat) :
    Sees { m with mem := putAt m.mem (B.place + 1 + k) x, cnt := m.cnt + 1 } (ws.set (B.place + 1 + k) x) := by
  intro C hC hl j hj
  have hlen : B.place + 1 + k < ws.length := by
    have h1 := (hok.fits B hB).2.2.1
    have h2 := hok.room
    omega
  show (ws.set (B.place + 1 + k) (x : Int)).getD (C.place + 1 + j) 0 = ((putAt m.mem (B.place + 1 + k) x (C.place + 1 + j) : Nat) : Int)
  rw [getD_set]
  unfold putAt
  by_cases e : B.place + 1 + k = C.place + 1 + j
  · rw [if_pos ⟨e, by omega⟩, if_pos e.symm]
  · rw [if_neg (fun h => e h.1), if_neg (fun h => e h.symm)]
    exact h C hC hl j hj

theorem no_range {w : World} {X : Nat → Prop} {b a : Nat} {m : Mm} {f : Value → Ending} {i : Int} {k : Nat} {e : Ending} {w' : World} (h : MmM w b a m X) (hF : FaultOf w f i k e w') : ∃ v, e = f v ∧ ErrV w' v (.at_ i k) ∧ ∃ X', MmM w' b a { m with cnt := m.cnt + 1 } X' ∧ Mv X X' w w' := by
  obtain ⟨p, rfl, hW, hK⟩ := hF
  exact ⟨_, rfl, ⟨p, rfl, hW⟩, X, h.tick hK, Mv.stay hK⟩

theorem req_load_ok {m : Mm} {ref : Nat} {i : Int} {j : Nat} (h : m.word ref i = .ok j) : doReq m (.load ref i) = (⟨1, ref, i, m.mem j, false, .ok⟩, { m with cnt := m.cnt + 1 }) := by simp only [doReq, h]
theorem req_load_err {m : Mm} {ref : Nat} {i : Int} {e : EA} (h : m.word ref i = .error e) : doReq m (.load ref i) = (⟨1, ref, i, 0, false, e⟩, { m with cnt := m.cnt + 1 }) := by simp only [doReq, h]
theorem req_store_ok {m : Mm} {ref x : Nat} {i : Int} {j : Nat} (h : m.word ref i = .ok j) : doReq m (.store ref i x) = (⟨2, ref, i, x, false, .ok⟩, { m with mem := putAt m.mem j x, cnt := m.cnt + 1 }) := by simp only [doReq, h]
theorem req_store_err {m : Mm} {ref x : Nat} {i : Int} {e : EA} (h : m.word ref i = .error e) : doReq m (.store ref i x) = (⟨2, ref, i, x, false, e⟩, { m with cnt := m.cnt + 1 }) := by simp only [doReq, h]
theorem req_cas_yes {m : Mm} {ref o x : Nat} {i : Int} {j : Nat} (h : m.word ref i = .ok j) (e : m.mem j = o) : doReq m (.cas ref i o x) = (⟨3, ref, i, x, true, .ok⟩, { m with mem := putAt m.mem j x, cnt := m.cnt + 1 }) := by simp only [doReq, h, if_pos e]
theorem req_cas_no {m : Mm} {ref o x : Nat} {i : Int} {j : Nat} (h : m.word ref i = .ok j) (e : ¬ m.mem j = o) : doReq m (.cas ref i o x) = (⟨3, ref, i, x, false, .ok⟩, { m with cnt := m.cnt + 1 }) := by simp only [doReq, h, if_neg e]
theorem req_cas_err {m : Mm} {ref o x : Nat} {i : Int} {e : EA} (h : m.word ref i = .error e) : doReq m (.cas ref i o x) = (⟨3, ref, i, x, false, e⟩, { m with cnt := m.cnt + 1 }) := by simp only [doReq, h]
theorem req_alloc_arg {m : Mm} {n : Int} (h : n < 1 ∨ 64 < n) : doReq m (.alloc n) = (⟨4, 0, n, 0, false, .no 2⟩, { m with cnt := m.cnt + 1 }) := by simp only [doReq, if_pos h]
theorem req_alloc_ok {m : Mm} {k : Nat} {s : St} {ref p : Nat} (hk : 1 ≤ k ∧ k ≤ 64) (h : m.st.take k m.len = some (s, ref, p)) : doReq m (.alloc (k : Int)) = (⟨4, ref, (k : Int), 0, false, .ok⟩, { m with st := s, mem := zeroAt m.mem p k, cnt := m.cnt + 1 }) := by
  simp only [doReq, if_neg (show ¬ ((k : Int) < 1 ∨ 64 < (k : Int)) by omega), Int.toNat_natCast, h]
theorem req_alloc_full {m : Mm} {k : Nat} (hk : 1 ≤ k ∧ k ≤ 64) (h : m.st.take k m.len = none) : doReq m (.alloc (k : Int)) = (⟨4, 0, (k : Int), 0, false, .no 4⟩, { m with cnt := m.cnt + 1 }) := by
  simp only [doReq, if_neg (show ¬ ((k : Int) < 1 ∨ 64 < (k : Int)) by omega), Int.toNat_natCast, h]
theorem req_free_ok {m : Mm} {ref : Nat} {B : Blk} (h : m.st.get ref = some B) : doReq m (.free ref) = (⟨5, ref, 0, 0, false, .ok⟩, { m with st := m.st.back B, cnt := m.cnt + 1 }) := by simp only [doReq, h]
theorem req_free_err {m : Mm} {ref : Nat} (h : m.st.get ref = none) : doReq m (.free ref) = (⟨5, ref, 0, 0, false, .no 5⟩, { m with cnt := m.cnt + 1 }) := by simp only [doReq, h]

theorem load_req {b a : Nat} {m : Mm} {X : Nat → Prop} (ref : Nat) (i : Int) (hr : ref < 18446744073709551616) (hc : m.cnt < 10000) (w : World) (h : MmM w b a m X) :
    Calls Tryz.prog 80 #[.pointer (some ⟨b, 0, none⟩), .int .u64 ref, .int .i64 i] w fun e w' => ∃ v, e = .returned (.tuple #[.int .u64 ((doReq m (.load ref i)).1.word : Int), v]) ∧ After w b a X (doReq m (.load ref i)) v w' := by
  have h' := h
  obtain ⟨h0, ws, cnt, h1, h2, h3, h4⟩ := h
  cases hw : m.word ref i with
  | ok j =>
    rw [req_load_ok hw]
    obtain ⟨B, hB, k, rfl, hk, rfl⟩ := word_ok hw
    refine (bk_load_at ref hr B hB k hk (by omega) w h1).mono ?_
    rintro e w' ⟨rfl, hb, hK⟩
    obtain ⟨hm, _, hl, _⟩ := St.get_some hB
    refine ⟨_, by rw [h4 B hm hl k hk], rfl, X, ⟨h0.tick, ws, _, hb, h2, by show cnt + 1 ≤ 70 * (m.cnt + 1); omega, h4⟩, Mv.of hK⟩
  | error er =>
    rw [req_load_err hw]
    rcases word_err hw with ⟨hB, rfl⟩ | ⟨B, hB, hi, rfl⟩
    · exact (bk_load_miss ref hr hB i w h1.bk).mono fun e w' hF => no_range h' hF
    · exact (bk_load_range ref hr B hB i hi w h1.bk).mono fun e w' hF => no_range h' hF

theorem store_req {b a : Nat} {m : Mm} {X : Nat → Prop} (ref : Nat) (i : Int) (x : Nat) (hr : ref < 18446744073709551616) (hx : x < 18446744073709551616) (hc : m.cnt < 10000) (w : World) (h : MmM w b a m X) :
    Calls Tryz.prog 44 #[.pointer (some ⟨b, 0, none⟩), .int .u64 ref, .int .i64 i, .int .u64 x] w fun e w' => ∃ v, e = .returned v ∧ After w b a X (doReq m (.store ref i x)) v w' := by
  have h' := h
  obtain ⟨h0, ws, cnt, h1, h2, h3, h4⟩ := h
  have hok := (doReq_ok h0 (.store ref i x) ⟨hr, hx⟩).2.1
  cases hw : m.word ref i with
  | ok j =>
    rw [req_store_ok hw] at hok ⊢
    obtain ⟨B, hB, k, rfl, hk, rfl⟩ := word_ok hw
    refine (bk_store_at ref hr B hB k hk x (by omega) w h1).mono ?_
    rintro e w' ⟨rfl, hb, hK⟩
    obtain ⟨hm, _, hl, _⟩ := St.get_some hB
    exact ⟨_, rfl, rfl, X, ⟨hok, _, _, hb, by rw [List.length_set]; exact h2, by show cnt + 1 ≤ 70 * (m.cnt + 1); omega, h4.set h0.st h2.symm hm hk x⟩, Mv.of hK⟩
  | error er =>
    rw [req_store_err hw]
    rcases word_err hw with ⟨hB, rfl⟩ | ⟨B, hB, hi, rfl⟩
    · exact (bk_store_miss ref hr hB i x w h1.bk).mono fun e w' hF => no_range h' hF
    · exact (bk_store_range ref hr B hB i x hi w h1.bk).mono fun e w' hF => no_range h' hF

theorem cas_req {b a : Nat} {m : Mm} {X : Nat → Prop} (ref : Nat) (i : Int) (old next : Nat) (hr : ref < 18446744073709551616) (ho : old < 18446744073709551616) (hx : next < 18446744073709551616) (hc : m.cnt < 10000) (w : World) (h : MmM w b a m X) :
    Calls Tryz.prog 82 #[.pointer (some ⟨b, 0, none⟩), .int .u64 ref, .int .i64 i, .int .u64 old, .int .u64 next] w fun e w' => ∃ v, e = .returned (.tuple #[.bool (doReq m (.cas ref i old next)).1.done, v]) ∧ After w b a X (doReq m (.cas ref i old next)) v w' := by
  have h' := h
  obtain ⟨h0, ws, cnt, h1, h2, h3, h4⟩ := h
  have hok := (doReq_ok h0 (.cas ref i old next) ⟨hr, ho, hx⟩).2.1
  cases hw : m.word ref i with
  | ok j =>
    obtain ⟨B, hB, k, rfl, hk, rfl⟩ := word_ok hw
    obtain ⟨hm, _, hl, _⟩ := St.get_some hB
    have hs := h4 B hm hl k hk
    refine (bk_cas_at ref hr B hB k hk old next (by omega) w h1).mono ?_
    rintro e w' ⟨rfl, hb, hK⟩
    rw [hs] at hb ⊢
    by_cases e : m.mem (B.place + 1 + k) = old
    · rw [req_cas_yes hw e] at hok ⊢
      simp only [e, if_true, decide_true] at hb ⊢
      exact ⟨_, rfl, rfl, X, ⟨hok, _, _, hb, by rw [List.length_set]; exact h2, by show cnt + 1 ≤ 70 * (m.cnt + 1); omega, h4.set h0.st h2.symm hm hk next⟩, Mv.of hK⟩
    · have e' : ¬ ((m.mem (B.place + 1 + k) : Int) = (old : Int)) := by omega
      rw [req_cas_no hw e] at hok ⊢
      simp only [e', if_false, decide_false] at hb ⊢
      exact ⟨_, rfl, rfl, X, ⟨hok, _, _, hb, h2, by show cnt + 1 ≤ 70 * (m.cnt + 1); omega, h4⟩, Mv.of hK⟩
  | error er =>
    rw [req_cas_err hw]
    rcases word_err hw with ⟨hB, rfl⟩ | ⟨B, hB, hi, rfl⟩
    · exact (bk_cas_miss ref hr hB i old next w h1.bk).mono fun e w' hF => no_range h' hF
    · exact (bk_cas_range ref hr B hB i old next hi w h1.bk).mono fun e w' hF => no_range h' hF

theorem Sees.take {m : Mm} {ws ws' : List Int} {s' : St} {p n : Nat} (h : Sees m ws) (hz : Zeroed ws ws' p n) (hs : ∀ C ∈ s'.bs, C.live = true → (C.place = p ∧ C.size = n) ∨ (C ∈ m.st.bs ∧ (C.place + 1 + C.size ≤ p ∨ p + n < C.place))) :
    Sees { m with st := s', mem := zeroAt m.mem p n, cnt := m.cnt + 1 } ws' := by
  intro C hC hl j hj
  show ws'.getD (C.place + 1 + j) 0 = ((zeroAt m.mem p n (C.place + 1 + j) : Nat) : Int)
  unfold zeroAt
  rcases hs C hC hl with ⟨rfl, rfl⟩ | ⟨hm, ha⟩
  · rw [if_pos (by omega), hz.2.1 _ (by omega) (by omega)]
    rfl
  · have hj' : j < C.size := hj
    rw [if_neg (by omega), hz.2.2 _ (by omega)]
    exact h C hm hl j hj

theorem pop_apart {s : St} {n : Nat} (h : s.Ok n) {B : Blk} (hB : B ∈ s.bs) {l : List Nat} : ∀ C ∈ (s.pop B l).bs, C.live = true → (C.place = B.place ∧ C.size = B.size) ∨ (C ∈ s.bs ∧ (C.place + 1 + C.size ≤ B.place ∨ B.place + B.size < C.place)) := by
  intro C hC _
  rcases mem_setBlk hC with rfl | ⟨hC, hne⟩
  · exact .inl ⟨rfl, rfl⟩
  · refine .inr ⟨hC, ?_⟩
    have ho := h.order
    have hne : C.place ≠ B.place := hne
    generalize s.bs = l at ho hB hC
    induction l with
    | nil => cases hB
    | cons D r ih =>
      obtain ⟨h1, h2⟩ := List.pairwise_cons.1 ho
      rcases List.mem_cons.1 hB with rfl | hB' <;> rcases List.mem_cons.1 hC with rfl | hC'
      · exact absurd rfl hne
      · have := h1 _ hC'; omega
      · have := h1 _ hB'; omega
      · exact ih h2 hB' hC'

theorem alloc_req {b a : Nat} {m : Mm} {X : Nat → Prop} (n : Int) (hc : m.cnt < 10000) (w : World) (h : MmM w b a m X) :
    Calls Tryz.prog 42 #[.pointer (some ⟨b, 0, none⟩), .int .i64 n] w fun e w' => ∃ v, e = .returned (.tuple #[.int .u64 ((doReq m (.alloc n)).1.ref : Int), v]) ∧ After w b a X (doReq m (.alloc n)) v w' := by
  have h' := h
  obtain ⟨h0, ws, cnt, h1, h2, h3, h4⟩ := h
  have hok := (doReq_ok h0 (.alloc n) trivial).2.1
  by_cases hn : n < 1 ∨ 64 < n
  · rw [req_alloc_arg hn]
    refine (alloc_arg n hn w h1.bk).mono ?_
    rintro e w' ⟨rfl, rfl⟩
    exact ⟨_, rfl, rfl, X, h'.tick (Keeps.refl _ w), Mv.refl X w⟩
  · obtain ⟨k, rfl, hk⟩ : ∃ k : Nat, n = (k : Int) ∧ (1 ≤ k ∧ k ≤ 64) := ⟨n.toNat, by omega, by omega⟩
    cases ht : m.st.take k m.len with
    | some r =>
      obtain ⟨s', ref, p⟩ := r
      rw [req_alloc_ok hk ht] at hok ⊢
      rcases take_some h0.st ht with ⟨B, hB, rfl, e2, e3, rfl, e5, rfl, rfl⟩ | ⟨e1, e2, rfl, rfl, rfl⟩
      · refine (alloc_pop_at h1 B.size hk B hB rfl e2 e3 _ e5 (by omega)).mono ?_
        rintro e w' ⟨rfl, ⟨ws', hZ, hb⟩, hK⟩
        exact ⟨_, rfl, rfl, X, ⟨hok, ws', _, hb, hZ.1.trans h2, by show cnt + B.size + 1 ≤ 70 * (m.cnt + 1); omega, h4.take hZ (pop_apart h0.st hB)⟩, Mv.of hK⟩
      · refine (alloc_new_at h1 k hk e1 (by omega) (by omega)).mono ?_
        rintro e w' ⟨rfl, ⟨ws', hZ, hb⟩, hK⟩
        refine ⟨_, rfl, rfl, X, ⟨hok, ws', _, hb, hZ.1.trans h2, by show cnt + k + 1 ≤ 70 * (m.cnt + 1); omega, h4.take hZ fun C hC _ => ?_⟩, Mv.of hK⟩
        rcases List.mem_append.1 hC with hC | hC
        · exact .inr ⟨hC, .inl (h0.st.fits C hC).2.2.1⟩
        · rw [List.mem_singleton.1 hC]
          exact .inl ⟨rfl, rfl⟩
    | none =>
      rw [req_alloc_full hk ht]
      obtain ⟨e1, e2⟩ := take_none h0.st ht
      refine (alloc_full k hk e1 (by omega) w h1.bk).mono ?_
      rintro e w' ⟨rfl, rfl⟩
      exact ⟨_, rfl, rfl, X, h'.tick (Keeps.refl _ w), Mv.refl X w⟩

end Go.Proofs.YtenhmficiegpiaaGreatDoor
