/-
  A slice that is taken from at its front and appended to at its end: what it is in memory, and append, the first element and s[1:] of it. Of no program.
-/
import Derived.Test.YtaamenhfngjobaaDoorBkRow
import Derived.ArgAppend
namespace Go.Proofs.YtaamenhfngjobaaDoor
open Go.RowKit Go.Extern.Stop Go.Stop Go.Extern

/-- v holds xs, somewhere in a row of the call's own that is apart from X. -/
def Queue (w0 w : World) (X : Nat → Prop) (e : TypeId) (v : Value) (xs : List Value) : Prop :=
  (v = .slice none 0 0 ∧ xs = []) ∨ ∃ g o cap cur, v = .slice (some ⟨g, o, none⟩) xs.length cap ∧ Whole w g e cur ∧ xs.length ≤ cap ∧ cap ≤ maxLen ∧ o + cap ≤ cur.size ∧ (∀ j u, xs[j]? = some u → cur[o + j]? = some u) ∧ ¬ X g ∧ w0.heap.size ≤ g

section
variable {w0 w w' : World} {X X' S : Nat → Prop} {e : TypeId} {v : Value} {xs : List Value}

theorem Queue.nothing (w0 w : World) (X : Nat → Prop) (e : TypeId) : Queue w0 w X e (.slice none 0 0) [] := .inl ⟨rfl, rfl⟩

theorem Queue.keeps (h : Queue w0 w X e v xs) (k : Keeps S w w') (hS : ∀ x, S x → X x ∨ x < w0.heap.size) : Queue w0 w' X e v xs := by
  rcases h with h | ⟨g, o, cap, cur, hv, hW, h1, h2, h3, h4, h5, h6⟩
  · exact .inl h
  · exact .inr ⟨g, o, cap, cur, hv, hW.keeps k (fun hs => by rcases hS g hs with h | h; exact h5 h; omega), h1, h2, h3, h4, h5, h6⟩

theorem Queue.next (h : Queue w0 w X e v xs) (k : Keeps X w w') (hX : ∀ x, X' x → X x ∨ w.heap.size ≤ x) : Queue w0 w' X' e v xs := by
  rcases h with h | ⟨g, o, cap, cur, hv, hW, h1, h2, h3, h4, h5, h6⟩
  · exact .inl h
  · refine .inr ⟨g, o, cap, cur, hv, hW.keeps k h5, h1, h2, h3, h4, fun hx => ?_, h6⟩
    have := hW.lt
    rcases hX g hx with h | h
    · exact h5 h
    · omega

theorem Queue.shape (h : Queue w0 w X e v xs) : ∃ o c, v = .slice o xs.length c := by
  rcases h with ⟨hv, hx⟩ | ⟨g, o, cap, cur, hv, _⟩
  · exact ⟨_, _, by rw [hx]; exact hv⟩
  · exact ⟨_, _, hv⟩

/-- The first element, and what is left without it. -/
theorem Queue.head {y : Value} {ys : List Value} (h : Queue w0 w X e v (y :: ys)) :
    ∃ g o cap, v = .slice (some ⟨g, o, none⟩) (ys.length + 1) cap ∧ ys.length + 1 ≤ cap ∧ cap ≤ maxLen ∧ w.cell? ⟨g, o, none⟩ = some y ∧ Queue w0 w X e (.slice (if cap = 1 then some ⟨g, o, none⟩ else some ⟨g, o + 1, none⟩) ys.length (cap - 1)) ys := by
  rcases h with ⟨_, hx⟩ | ⟨g, o, cap, cur, hv, hW, h1, h2, h3, h4, h5, h6⟩
  · cases hx
  · simp only [List.length_cons] at hv h1
    refine ⟨g, o, cap, hv, h1, h2, (hW.at_ o).trans (by have := h4 0 y rfl; simpa using this), .inr ?_⟩
    by_cases hc : cap = 1
    · subst hc
      have hl : ys = [] := List.eq_nil_of_length_eq_zero (by omega)
      subst hl
      exact ⟨g, o, 0, cur, by rw [if_pos rfl], hW, by simp, by omega, by omega, fun j u hj => by simp at hj, h5, h6⟩
    · refine ⟨g, o + 1, cap - 1, cur, by rw [if_neg hc], hW, by omega, by omega, by omega, fun j u hj => ?_, h5, h6⟩
      have := h4 (j + 1) u (by simpa using hj)
      rw [show o + 1 + j = o + (j + 1) by omega]
      exact this

/-- append of one element. -/
theorem Queue.append {P : Program} {t ty : TypeId} {i : TypeInfo} {z : Value} {bytes : Nat} (ht : P.underlying t = some (.slice e)) (hi : P.info? e = some i) (hz : i.zero = some z) (hsize : i.size = 1) (hby : i.bytes = bytes) (hzs : z.cells.size = 1)
    (h : Queue w0 w X e v xs) (hw : w0.heap.size ≤ w.heap.size) (hX : ∀ x, X x → x < w.heap.size) (ad : Addr) (c : Nat) (y : Value) (hnews : w.cell? ad = some y) (h1 : y.oneCell' = true) (h63 : xs.length + 1 ≤ maxLen) (hbytes : (xs.length + 1) * bytes ≤ 140737488355328) :
    ∃ o cap w', (Builtin.append_ #[t, t] ty #[v, .slice (some ad) 1 c]).run P w = .ok (.slice o (xs.length + 1) cap) w' ∧ Queue w0 w' X e (.slice o (xs.length + 1) cap) (xs ++ [y]) ∧ Keeps (fun x => ¬ X x ∧ w0.heap.size ≤ x) w w' := by
  have hn : ∀ j u, [y][j]? = some u → w.cell? (ad.add j) = some u := by
    intro j u hj
    match j, hj with
    | 0, hj =>
      simp at hj
      subst hj
      simpa [Addr.add] using hnews
  have hone : ∀ u ∈ [y], u.oneCell' = true := by intro u hu; rw [List.mem_singleton.1 hu]; exact h1
  -- a row that append made is such a slice
  have fresh : ∀ (v' : Value) (w' : World), w'.ownsRow w.heap.size e 1 v' (xs.length + 1) (xs ++ [y]) → ∃ o cap, v' = .slice o (xs.length + 1) cap ∧ Queue w0 w' X e (.slice o (xs.length + 1) cap) (xs ++ [y]) := by
    intro v' w' hO
    rcases hO.2 with ⟨_, hz⟩ | ⟨g, cap, cur, rfl, hb, hg, hnc, hcm, hcs, htake⟩
    · omega
    · refine ⟨_, cap, rfl, .inr ⟨g, 0, cap, cur, by simp, hg, by simpa using hnc, hcm, by omega, fun j u hj => ?_, fun hx => by have := hX g hx; omega, by omega⟩⟩
      have hj' : j < xs.length + 1 := by have := (List.getElem?_eq_some_iff.1 hj).1; simpa using this
      rw [← htake, List.getElem?_take] at hj
      simp only [Nat.mul_one] at hj
      rw [if_pos hj'] at hj
      simpa using hj
  rcases h with ⟨rfl, rfl⟩ | ⟨g, o, cap, cur, hv, hW, hl, hm, hr, hc, hg, hg0⟩
  · obtain ⟨v', w', hrun, h2, h3, _, _⟩ := run_append_own_at (P := P) w w.heap.size t ty e i z 1 bytes ht hi hz hsize hby hzs (by decide) (.slice none 0 0) 0 [] (World.ownsRow_nil _ _ _ _) ad 1 c [y] rfl hn hone (by simpa using h63) (by simpa using hbytes) (Nat.le_refl _)
    obtain ⟨o, cap, rfl, hq⟩ := fresh v' w' (by simpa using h2)
    exact ⟨o, cap, w', hrun, hq, ⟨h3.os, h3.tape, h3.output, h3.size, fun k hk _ => h3.block k hk (by simp [Value.ownBlock])⟩⟩
  · subst hv
    by_cases hroom : xs.length + 1 ≤ cap
    · have hrun := run_append_room_cells (P := P) w t ty e i ht hi g o xs.length cap ad 1 c [y] (by rw [hsize]; rfl) hn hone hroom (by
          intro j hj
          have : j = 0 := by simpa using hj
          subst this
          rw [hsize, hW.at_]
          simp
          omega) (by intro j hj; exact hW.free _)
      rw [hsize] at hrun
      refine ⟨_, cap, _, hrun, .inr ⟨g, o, cap, cur.setIfInBounds (o + xs.length) y, by simp, ?_, by simpa using hroom, hm, by simpa using hr, fun j u hj => ?_, hg, hg0⟩, ?_⟩
      · have := hW.set_ (o + xs.length * 1) y
        rw [Nat.mul_one] at this ⊢
        exact this
      · rw [List.getElem?_append] at hj
        split at hj
        · rename_i hlt
          rw [Array.getElem?_setIfInBounds_ne (by omega)]
          exact hc j u hj
        · rename_i hge
          have hj0 : j - xs.length = 0 := by
            have := (List.getElem?_eq_some_iff.1 hj).1
            simp at this
            omega
          rw [hj0] at hj
          simp at hj
          subst hj
          rw [show o + j = o + xs.length by omega, Array.getElem?_setIfInBounds_self]
          rw [if_pos (by omega)]
      · exact (Keeps.refl _ w).setCell (p := ⟨g, o + xs.length * 1, none⟩) (fun _ => ⟨hg, hg0⟩) y
    · have holds : ∀ j u, xs[j]? = some u → w.cell? ((⟨g, o, none⟩ : Addr).add j) = some u := by
        intro j u hj
        have e1 : (⟨g, o, none⟩ : Addr).add j = ⟨g, o + j, none⟩ := by
          unfold Addr.add
          split
          · subst_vars; rfl
          · rfl
        rw [e1, hW.at_]
        exact hc j u hj
      obtain ⟨v', w', hrun, h2, h3⟩ := run_append_arg_grows (P := P) w t ty e i z 1 bytes ht hi hz hsize hby hzs (by decide) ⟨g, o, none⟩ xs.length cap xs (by omega) holds ad 1 c [y] rfl hn (by omega) h63 hbytes
      obtain ⟨o', cap', rfl, hq⟩ := fresh v' w' h2
      exact ⟨o', cap', w', hrun, hq, ⟨h3.os, h3.tape, h3.output, h3.size, fun k hk _ => h3.block k hk (by simp)⟩⟩
end

/-- At the operation. -/
theorem wpList_append_queue {P : Program} (w : World) {ops : Array Oper} {rest : List Oper} {o : Oper} {a : Act} {Q : Exit → Act → World → Prop}
    (hg : o.guard = none) (s x : Operand) (t : TypeId) (hop : o.op = Op.call { callee := Callee.builtin Builtin.append, args := #[s, x], argTypes := #[t, t] })
    (e : TypeId) (i : TypeInfo) (z : Value) (bytes : Nat) (ht : P.underlying t = some (.slice e)) (hi : P.info? e = some i) (hz : i.zero = some z) (hsize : i.size = 1) (hby : i.bytes = bytes) (hzs : z.cells.size = 1)
    (v : Value) (xs : List Value) (n : Nat) (hn : xs.length = n) (hs : a.eval s = v) (w0 : World) (X : Nat → Prop) (hQ : Queue w0 w X e v xs) (hw : w0.heap.size ≤ w.heap.size) (hX : ∀ x, X x → x < w.heap.size)
    (ad : Addr) (c : Nat) (y : Value) (hx : a.eval x = .slice (some ad) 1 c) (hnews : w.cell? ad = some y) (h1 : y.oneCell' = true)
    (h63 : n + 1 ≤ maxLen) (hbytes : (n + 1) * bytes ≤ 140737488355328)
    (hK : ∀ q cap w', Queue w0 w' X e (.slice q (n + 1) cap) (xs ++ [y]) → Keeps (fun x => ¬ X x ∧ w0.heap.size ≤ x) w w' → wpList P ops Q rest (a.put o.dst (.slice q (n + 1) cap)) w') :
    wpList P ops Q (o :: rest) a w := by
  subst hn
  refine wpList_plain hg fun K hK' => ?_
  obtain ⟨q, cap, w', hr, h2, h3⟩ := hQ.append (ty := o.type) ht hi hz hsize hby hzs hw hX ad c y hnews h1 h63 hbytes
  unfold Oper.wp execOp
  simp only [hop, resolve, invoke, builtin, Sem.run_bind, Sem.run_pure, Result.andThen_ok, List.map_toArray, List.map_cons, List.map_nil, hs, hx, hr]
  exact hK' _ _ (hK q cap w' h2 h3)
end Go.Proofs.YtaamenhfngjobaaDoor
