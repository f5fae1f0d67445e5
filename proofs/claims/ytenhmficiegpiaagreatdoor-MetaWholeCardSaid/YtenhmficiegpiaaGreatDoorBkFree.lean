/-
  blocks: Free by contract: a good ref's block is not live any more, has the next generation, and its place may be given out again; ErrStale, ErrNil.
-/
import Derived.Test.YtenhmficiegpiaaGreatDoorBkAlloc
import Derived.Maps.AppendAt
namespace Go.Proofs.YtenhmficiegpiaaGreatDoor
open Go.RowKit Go.Extern.Stop Go.Stop Go.Extern

/-- append of one element to a row of the call's own, as one step of a region that draws. -/
theorem step_append_mine {P : Program} {ops : Array Oper} {o : Oper} {a : Act} {w : World} {K : Act → World → Prop} {Q : Exit → Act → World → Prop} {E : Prop}
    (hg : o.guard = none) (s x : Operand) (t : TypeId) (hop : o.op = Op.call { callee := Callee.builtin Builtin.append, args := #[s, x], argTypes := #[t, t] })
    (e : TypeId) (i : TypeInfo) (z : Value) (bytes : Nat) (ht : P.underlying t = some (.slice e)) (hi : P.info? e = some i) (hz : i.zero = some z) (hsize : i.size = 1) (hby : i.bytes = bytes) (hzs : z.cells.size = 1)
    (v : Value) (n : Nat) (xs : List Value) (hs : a.eval s = v) (hown : w.ownsRow 0 e 1 v n xs)
    (ad : Addr) (c : Nat) (y : Value) (hx : a.eval x = .slice (some ad) 1 c) (hnews : w.cell? ad = some y) (h1 : y.oneCell' = true)
    (h63 : n + 1 ≤ maxLen) (hbytes : (n + 1) * bytes ≤ 140737488355328)
    (hK : ∀ g cap w', w'.ownsRow 0 e 1 (.slice (some ⟨g, 0, none⟩) (n + 1) cap) (n + 1) (xs ++ [y]) → w.grownBy w' v.ownBlock → (v.ownBlock = some g ∨ g = w.heap.size) → K (a.put o.dst (.slice (some ⟨g, 0, none⟩) (n + 1) cap)) w') :
    if Region.wanted o (yielded ops a.tmps) = true then Oper.wp P o a w K Q else E := by
  have hw : Region.wanted o (yielded ops a.tmps) = true := by simp [Region.wanted, hg]
  rw [if_pos hw]
  have hn : ∀ j u, [y][j]? = some u → w.cell? (ad.add j) = some u := by
    intro j u hj
    match j, hj with
    | 0, hj =>
      simp at hj
      subst hj
      simpa [Addr.add] using hnews
  obtain ⟨v', w', hr, h2, h3, h4, h5⟩ := run_append_own_at (P := P) w 0 t o.type e i z 1 bytes ht hi hz hsize hby hzs (by decide) v n xs hown ad 1 c [y] rfl hn (by intro u hu; rw [List.mem_singleton.1 hu]; exact h1) h63 hbytes (Nat.zero_le _)
  have hshape := h2.2
  rcases hshape with ⟨hv', _⟩ | ⟨g, cap, cur, rfl, _⟩
  · exact absurd (h4.1 hv').2 (by decide)
  · have hloc : v.ownBlock = some g ∨ g = w.heap.size := by
      rcases h5 with h5 | h5
      · exact .inl (by rw [← h5]; rfl)
      · right
        simp [Value.ownBlock] at h5
        exact h5
    unfold Oper.wp
    simp [execOp, hop, resolve, invoke, builtin, hs, hx, hr, Result.andThen]
    exact hK g cap w' h2 h3 hloc

theorem keeps_row {w w' : World} {v : Value} (h : w.grownBy w' v.ownBlock) : Keeps (fun x => v.ownBlock = some x) w w' :=
  (Keeps.refl (fun x => v.ownBlock = some x) w).grown h fun _ hk _ => hk

theorem two_later {w w' : World} {b r fb : Nat} {x y : Value} (h : w.cell? ⟨b, 2, none⟩ = some x ∧ w.cell? ⟨r, 0, none⟩ = some y) (k : Keeps (fun z => z = fb) w w') (lb : b < w.heap.size) (lr : r < w.heap.size) (nb : ¬ b = fb) (nr : ¬ r = fb) :
    w'.cell? ⟨b, 2, none⟩ = some x ∧ w'.cell? ⟨r, 0, none⟩ = some y :=
  ⟨(k.cell (p := ⟨b, 2, none⟩) lb nb).trans h.1, (k.cell (p := ⟨r, 0, none⟩) lr nr).trans h.2⟩

theorem info_int : (Tryz.prog.info? 3).map (fun i => (i.zero, i.size, i.bytes)) = some (some (.int .i64 0), 1, 8) := by kernel_rfl

/-- Behind the append and the store of the row: the state of memory. -/
theorem freed_raw {W A V V2 : World} {b a bw mb fb : Nat} {ws : List Int} {cnt : Nat} {f : Int → Option BV} {fr : Nat → List Nat} {top : Nat} {rows : Int → Option RowV} {X : Nat → Prop} {u : Value} {sz g cap p : Nat} {l : List Nat} (R : BkRaw W b a bw mb fb ws cnt f fr top rows X) (hu : rowVal (rowAt rows sz) = u) (hsz : 1 ≤ sz ∧ sz ≤ 64)
    (kA : Keeps (fun _ => False) W A) (kV : Keeps (fun x => u.ownBlock = some x) A V) (K2 : Keeps (fun x => x = fb) V V2) (M2 : HoldsM Tryz.prog 3 rowE V2 fb (upd rows (sz : Int) (some (g, l.length + 1, cap))))
    (O2 : V.ownsRow 0 3 1 (.slice (some ⟨g, 0, none⟩) (l.length + 1) cap) (l.length + 1) (placeCells l ++ [.int .i64 p])) (hloc : u.ownBlock = some g ∨ g = A.heap.size) (nfb : ¬ u.ownBlock = some fb) :
    BkRaw V2 b a bw mb fb ws cnt f (setFr fr sz (l ++ [p])) top (upd rows (sz : Int) (some (g, l.length + 1, cap))) (fun x => X x ∨ x = g) ∧ Keeps X W V2 ∧ (X g ∨ W.heap.size ≤ g) := by
  have hfbA : fb < A.heap.size := Nat.lt_of_lt_of_le R.freed.lt kA.size
  have hgf : ¬ g = fb := by
    rcases hloc with h | h
    · intro e; exact nfb (by rw [h, e])
    · omega
  have hgV : g < V.heap.size := (O2.lt g rfl).2
  have k1 : Keeps (fun x => x = fb ∨ u.ownBlock = some x) W V := (kA.mono fun _ _ => False.elim).trans kV fun _ _ h => .inr h
  have k2 : Keeps (fun x => x = fb ∨ u.ownBlock = some x) W V2 := k1.trans K2 fun _ _ h => .inl h
  have hX : X g ∨ W.heap.size ≤ g := by
    rcases hloc with h | h
    · exact .inl (R.rowX sz g (by rw [hu]; exact h))
    · exact .inr (by rw [h]; exact kA.size)
  have O3 := ownsRow_keeps O2 K2 fun x hx e => hgf (by simp [Value.ownBlock] at hx; rw [hx]; exact e)
  refine ⟨R.row sz hsz g (l.length + 1) cap (l ++ [p]) M2 k2 (fun x _ h => by rw [hu]; exact h) ?_ ?_ (Nat.lt_of_lt_of_le hgV K2.size), k2.mono fun x _ h => ?_, hX⟩
  · have e : placeCells (l ++ [p]) = placeCells l ++ [Value.int .i64 (p : Int)] := by simp [placeCells]
    rw [e, List.length_append]
    exact O3
  · rcases hloc with h | h
    · exact .inl (by rw [hu]; exact h)
    · exact .inr (by rw [h]; exact kA.size)
  · rcases h with rfl | h
    · exact R.inX.2.2.2.2
    · exact R.rowX sz x (by rw [hu]; exact h)

/-- What Free leaves: the state as it is now; nothing else has changed. -/
def Freed (w : World) (b : Nat) (ws : List Int) (cnt : Nat) (st : St) (X : Nat → Prop) (place : Nat) (e : Ending) (w' : World) : Prop :=
  e = .returned .nilIface ∧ (∃ X' hd, Bk w' b (ws.set place hd) (cnt + 1) st X' ∧ ∀ x, X' x → X x ∨ w.heap.size ≤ x) ∧ Keeps X w w'

end Go.Proofs.YtenhmficiegpiaaGreatDoor
