/-
  concordlaw02.BlocksStale, walked: it returns true, and nothing that was there has changed.
-/
import Derived.Test.YtaamenhfngjobaaDoorBkRow
namespace Go.Proofs.YtaamenhfngjobaaDoor
open Go.RowKit Go.Extern.Stop Go.Stop Go.Extern

theorem on_1003 (w : World) : Calls Tryd.prog 7 #[.int .i64 100, .int .i64 3] w fun e w' => OnIt w 100 3 e w' := on_bk 100 3 (by decide) (by decide) (by decide) w

/-- One place, given out and freed k times: nothing there yet, or a block that is not live. -/
def Idle (n k : Nat) (st : St) : Prop := (k = 0 ∧ st = St.start 3) ∨ (0 < k ∧ st.bs = [⟨3, n, k, false⟩] ∧ st.fr n = [3] ∧ st.top = 4 + n)
/-- .. and given out once more. -/
def Busy (n k : Nat) (st : St) : Prop := st.bs = [⟨3, n, k, true⟩] ∧ st.fr n = [] ∧ st.top = 4 + n

theorem busy_of {n k : Nat} {st : St} (h : Idle n k st) : (k = 0 ∧ Busy n k (st.fresh n)) ∨ (0 < k ∧ Busy n k (st.pop ⟨3, n, k, false⟩ [])) := by
  rcases h with ⟨rfl, rfl⟩ | ⟨h0, h1, h2, h3⟩
  · exact .inl ⟨rfl, rfl, rfl, by show 3 + 1 + n = 4 + n; omega⟩
  · refine .inr ⟨h0, ?_, ?_, h3⟩
    · show setBlk st.bs _ = _
      rw [h1]
      rfl
    · show setFr st.fr n [] n = []
      unfold setFr
      rw [if_pos rfl]

theorem idle_of {n k : Nat} {st : St} (h : Busy n k st) (hk : k + 1 < 4294967295) : Idle n (k + 1) (st.back ⟨3, n, k, true⟩) := by
  obtain ⟨h1, h2, h3⟩ := h
  refine .inr ⟨by omega, ?_, ?_, h3⟩
  · show setBlk st.bs _ = _
    rw [h1]
    rfl
  · show (if k + 1 = 4294967295 then st.fr else setFr st.fr n (st.fr n ++ [3])) n = [3]
    rw [if_neg (by omega)]
    unfold setFr
    rw [if_pos rfl, h2]
    rfl

theorem busy_at {n k : Nat} {st : St} (h : Busy n k st) : st.at 3 = some ⟨3, n, k, true⟩ := by
  unfold St.at
  rw [h.1]
  rfl

theorem busy_get {n k : Nat} {st : St} (h : Busy n k st) : st.get (k * 4294967296 + 3) = some ⟨3, n, k, true⟩ := by
  unfold St.get
  rw [show (k * 4294967296 + 3) % 4294967296 = 3 by omega, busy_at h, show (k * 4294967296 + 3) / 4294967296 = k by omega]
  simp

theorem busy_miss {n k j : Nat} {st : St} (h : Busy n k st) (hj : j ≠ k) : st.get (j * 4294967296 + 3) = none := by
  unfold St.get
  rw [show (j * 4294967296 + 3) % 4294967296 = 3 by omega, busy_at h, show (j * 4294967296 + 3) / 4294967296 = j by omega]
  simp
  omega

/-- What Alloc leaves here. -/
def GotOne (w : World) (b cnt n k : Nat) (X : Nat → Prop) (e : Ending) (w' : World) : Prop :=
  e = .returned (.tuple #[.int .u64 ((k : Int) * 4294967296 + 3), .nilIface]) ∧ (∃ ws' st', Bk w' b ws' (cnt + n + 1) st' X ∧ Busy n k st' ∧ ws'.getD 4 0 = 0) ∧ Keeps X w w'

theorem stale_alloc {w : World} {b n k cnt : Nat} {ws : List Int} {st : St} {X : Nat → Prop} (h : Bk w b ws cnt st X) (hst : Idle n k st) (hn : 1 ≤ n ∧ n ≤ 8) (hk : k < 30) (hws : k = 0 → ws.length = 100) (hcnt : cnt ≤ 1000) :
    Calls Tryd.prog 9 #[.pointer (some ⟨b, 0, none⟩), .int .i64 n] w fun e w' => GotOne w b cnt n k X e w' := by
  rcases busy_of hst with ⟨hk0, hb⟩ | ⟨hk0, hb⟩
  · subst hk0
    have e0 : st = St.start 3 := by
      rcases hst with ⟨_, h⟩ | ⟨h, _⟩
      · exact h
      · omega
    subst e0
    refine (alloc_new h n ⟨hn.1, by omega⟩ rfl (by rw [hws rfl]; show 3 + 1 + n ≤ 100; omega) (by omega)).mono ?_
    rintro e w' ⟨rfl, ⟨ws', hZ, hB⟩, hK⟩
    exact ⟨by simp; rfl, ⟨ws', _, hB, hb, hZ.2.1 4 (by show 3 < 4; omega) (by show 4 ≤ 3 + n; omega)⟩, hK⟩
  · rcases hst with ⟨h0, _⟩ | ⟨_, h1, h2, h3⟩
    · omega
    refine (alloc_pop h n ⟨hn.1, by omega⟩ ⟨3, n, k, false⟩ (by rw [h1]; exact List.mem_singleton.2 rfl) rfl rfl (by show k < 4294967295; omega) [] h2 (by omega)).mono ?_
    rintro e w' ⟨rfl, ⟨ws', hZ, hB⟩, hK⟩
    refine ⟨?_, ⟨ws', _, hB, hb, hZ.2.1 4 (by show 3 < 4; omega) (by show 4 ≤ 3 + n; omega)⟩, hK⟩
    show Ending.returned (Value.tuple #[Value.int .u64 ((k * 4294967296 + 3 : Nat) : Int), .nilIface]) = _
    simp

/-- What the other calls of a stale ref leave: nothing but the error. -/
def Nothing (w : World) (f : Value → Ending) (e : Ending) (w' : World) : Prop :=
  ∃ p, e = f (.iface 77 (.pointer (some ⟨p, 0, none⟩))) ∧ Whole w' p 79 #[.int .i64 3, .int .i64 5] ∧ Keeps (fun _ => False) w w'

theorem nothing_of {w : World} {f : Value → Ending} {j : Nat} {e : Ending} {w' : World} (h : FaultOf w f (((j * 4294967296 + 3) % 4294967296 : Nat) : Int) 5 e w') : Nothing w f e w' := by
  obtain ⟨p, he, hW, hK⟩ := h
  rw [show (j * 4294967296 + 3) % 4294967296 = 3 by omega] at hW
  exact ⟨p, he, hW, hK⟩

section
variable {w : World} {b n k j cnt : Nat} {ws : List Int} {st : St} {X : Nat → Prop}

theorem stale_load (h : Bk w b ws cnt st X) (hst : Busy n k st) (hj : j < k) (hk : k < 30) :
    Calls Tryd.prog 13 #[.pointer (some ⟨b, 0, none⟩), .int .u64 ((j : Int) * 4294967296 + 3), .int .i64 0] w fun e w' => Nothing w (fun x => .returned (.tuple #[.int .u64 0, x])) e w' := by
  have := (bk_load_miss (j * 4294967296 + 3) (by omega) (busy_miss hst (by omega)) 0 w h).mono fun e w' => nothing_of
  rw [show ((j * 4294967296 + 3 : Nat) : Int) = (j : Int) * 4294967296 + 3 by omega] at this
  exact this
theorem stale_cas (h : Bk w b ws cnt st X) (hst : Busy n k st) (hj : j < k) (hk : k < 30) :
    Calls Tryd.prog 15 #[.pointer (some ⟨b, 0, none⟩), .int .u64 ((j : Int) * 4294967296 + 3), .int .i64 0, .int .u64 0, .int .u64 1] w fun e w' => Nothing w (fun x => .returned (.tuple #[.bool false, x])) e w' := by
  have := (bk_cas_miss (j * 4294967296 + 3) (by omega) (busy_miss hst (by omega)) 0 0 1 w h).mono fun e w' => nothing_of
  rw [show ((j * 4294967296 + 3 : Nat) : Int) = (j : Int) * 4294967296 + 3 by omega] at this
  exact this
theorem stale_store (h : Bk w b ws cnt st X) (hst : Busy n k st) (hj : j < k) (hk : k < 30) :
    Calls Tryd.prog 12 #[.pointer (some ⟨b, 0, none⟩), .int .u64 ((j : Int) * 4294967296 + 3), .int .i64 0, .int .u64 1] w fun e w' => Nothing w (fun x => .returned x) e w' := by
  have := (bk_store_miss (j * 4294967296 + 3) (by omega) (busy_miss hst (by omega)) 0 1 w h).mono fun e w' => nothing_of
  rw [show ((j * 4294967296 + 3 : Nat) : Int) = (j : Int) * 4294967296 + 3 by omega] at this
  exact this
theorem stale_free (h : Bk w b ws cnt st X) (hst : Busy n k st) (hj : j < k) (hk : k < 30) :
    Calls Tryd.prog 11 #[.pointer (some ⟨b, 0, none⟩), .int .u64 ((j : Int) * 4294967296 + 3)] w fun e w' => e = .returned (.iface 55 (.int .i64 5)) ∧ Keeps (fun _ => False) w w' := by
  have := free_miss (j * 4294967296 + 3) (by omega) (busy_miss hst (by omega)) w h
  rw [show ((j * 4294967296 + 3 : Nat) : Int) = (j : Int) * 4294967296 + 3 by omega] at this
  exact this
theorem good_load (h : Bk w b ws cnt st X) (hst : Busy n k st) (hn : 1 ≤ n) (hk : k < 30) (h0 : ws.getD 4 0 = 0) (hcnt : cnt ≤ 1000) :
    Calls Tryd.prog 13 #[.pointer (some ⟨b, 0, none⟩), .int .u64 ((k : Int) * 4294967296 + 3), .int .i64 0] w fun e w' => Did w b ws (cnt + 1) st X (.tuple #[.int .u64 0, .nilIface]) e w' := by
  have := bk_load (k * 4294967296 + 3) (by omega) ⟨3, n, k, true⟩ (busy_get hst) 0 (by show 0 < n; omega) (by omega) w h
  rw [show ((k * 4294967296 + 3 : Nat) : Int) = (k : Int) * 4294967296 + 3 by omega] at this
  have e : ws.getD ((⟨3, n, k, true⟩ : Blk).place + 1 + 0) 0 = 0 := h0
  rw [e] at this
  exact this
theorem good_free (h : Bk w b ws cnt st X) (hst : Busy n k st) (hk : k < 30) (hcnt : cnt ≤ 1000) :
    Calls Tryd.prog 11 #[.pointer (some ⟨b, 0, none⟩), .int .u64 ((k : Int) * 4294967296 + 3)] w fun e w' => e = .returned .nilIface ∧ (∃ st' X' ws', Bk w' b ws' (cnt + 1) st' X' ∧ Idle n (k + 1) st' ∧ ws'.length = ws.length ∧ ∀ x, X' x → X x ∨ w.heap.size ≤ x) ∧ Keeps X w w' := by
  have := free_hit h (k * 4294967296 + 3) (by omega) ⟨3, n, k, true⟩ (busy_get hst) (by show k + 1 < 4294967295; omega) (by omega)
  rw [show ((k * 4294967296 + 3 : Nat) : Int) = (k : Int) * 4294967296 + 3 by omega] at this
  refine this.mono ?_
  rintro e w' ⟨rfl, ⟨X', hd, hB, hX⟩, hK⟩
  exact ⟨rfl, ⟨_, X', _, hB, idle_of hst (by omega), List.length_set .., hX⟩, hK⟩
end

theorem idle_used {n k : Nat} {st : St} (h : Idle n k st) : st.used = 0 := by
  rcases h with ⟨_, rfl⟩ | ⟨_, h, _⟩
  · rfl
  · unfold St.used
    rw [h]
    rfl
theorem no_five (w : World) :
    Calls Tryd.prog 10 #[.iface 55 (.int .i64 5)] w fun e w' => e = .returned (.int .i64 5) ∧ w = w' := no_errno 5 (by decide) (by decide) w
theorem no_fault5 (p : Nat) (w : World) (h : Whole w p 79 #[.int .i64 3, .int .i64 5]) :
    Calls Tryd.prog 10 #[.iface 77 (.pointer (some ⟨p, 0, none⟩))] w fun e w' => e = .returned (.int .i64 5) ∧ w = w' := no_stale p 3 w h

/-- The refs that are stale by now. -/
def staleRefs (k : Nat) : List Value := (List.range k).map fun (j : Nat) => Value.int .u64 ((j : Int) * 4294967296 + 3)
theorem staleRefs_len (k : Nat) : (staleRefs k).length = k := by simp [staleRefs]
theorem staleRefs_at (k j : Nat) (h : j < k) : (staleRefs k)[j]? = some (.int .u64 ((j : Int) * 4294967296 + 3)) := by simp [staleRefs, h]
theorem staleRefs_succ (k : Nat) : staleRefs k ++ [Value.int .u64 ((k : Int) * 4294967296 + 3)] = staleRefs (k + 1) := by simp [staleRefs, List.range_succ]
end Go.Proofs.YtaamenhfngjobaaDoor
