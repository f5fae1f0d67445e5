/-
  What the program's Walk has to answer ('Walk9'); the law ProgWalks, for any program that keeps it and 'Face9'.
-/
import Derived.Test.YtpmbkeaimdeglaaDoorPgVisit
import Derived.Shelf.Abstract
namespace Go.Proofs.YtpmbkeaimdeglaaDoor
open Go.RowKit Go.Extern.Stop Go.Stop Go.Extern

/-- Walk: visit is called for each line, in order, as long as it answers true. w0: the world in which the transaction lay; Box: the blocks that visit changes; Inv: what holds behind so many visits; Fin: what holds where it has answered false. -/
def Walk9 : Prop := ∀ {w0 w : World} {v : Value} {F : Fo} (fn : Nat) (cap : Array Value) (Box : Nat → Prop) (Inv : Nat → World → Prop) (Fin : World → Prop),
  (∀ (args : Array Value) (V : World), (callFunc fn args).run Tryd.prog V = .ok (.enter fn args) V) → SlOf w0 v F → Keeps (fun _ => False) w0 w → (∀ x, Box x → w0.heap.size ≤ x ∧ x < w.heap.size) → F.size ≤ 600 → F.deep ≤ 40 → Inv 0 w →
  (∀ i W W', Inv i W → Keeps (fun x => w.heap.size ≤ x) W W' → Inv i W') → (∀ W W', Fin W → Keeps (fun x => w.heap.size ≤ x) W W' → Fin W') →
  (∀ (i : Nat) (l : Ln) (b e : Sl) (W : World), (lin F 1)[i]? = some l → Inv i W → Keeps (fun x => Box x ∨ w.heap.size ≤ x) w W → SlOf w0 (slv b) l.B → SlOf w0 (slv e) l.E →
    Calls Tryd.prog fn (#[.int .i64 ((i + 1 : Nat) : Int), .agg (stAgg l.s b e)] ++ cap) W fun e' W' => ∃ go : Bool, e' = .returned (.bool go) ∧ Keeps Box W W' ∧ (go = true → Inv (i + 1) W') ∧ (go = false → Fin W')) →
  Calls Tryd.prog 23 #[v, .func (.func fn) #[] cap] w fun e w' => e = .returned (.tuple #[]) ∧ Keeps (fun x => Box x ∨ w.heap.size ≤ x) w w' ∧ (Inv F.size w' ∨ Fin w')

theorem lin_size : ∀ (F : Fo) (d : Nat), ∀ l ∈ lin F d, l.B.size + l.E.size < F.size
  | .nil, d, l, h => by simp [lin] at h
  | .cons s B E R, d, l, h => by
    simp only [lin, List.mem_cons, List.mem_append] at h
    simp only [Fo.size]
    rcases h with rfl | h | h | h
    · simp; omega
    · have := lin_size B (d + 1) l h; omega
    · have := lin_size E (d + 1) l h; omega
    · have := lin_size R d l h; omega

/-- The world in which Walk is called: the boxes of l, n, ok are laid. -/
structure Boxed (w2 w3 W : World) (u : Value) (lb nb ob : Nat) : Prop where
  l : Whole W lb 34 #[u]
  n : Whole W nb 3 #[.int .i64 0]
  o : Whole W ob 4 #[.bool true]
  at_ : lb = w3.heap.size ∧ nb = w3.heap.size + 1 ∧ ob = w3.heap.size + 1 + 1 ∧ W.heap.size = w3.heap.size + 1 + 1 + 1
  keeps : Keeps (fun _ => False) w3 W
theorem boxed (w2 w3 : World) (u : Value) : Boxed w2 w3 (((w3.alloc (.cells #[u] 34)).alloc (.cells #[.int .i64 0] 3)).alloc (.cells #[.bool true] 4)) u w3.heap.size (w3.heap.size + 1) (w3.heap.size + 1 + 1) where
  l := ((Whole.made w3 _ _).alloc _).alloc _
  n := (made_2 w3 _ _ _).alloc _
  o := by
    have := Whole.made ((w3.alloc (.cells #[u] 34)).alloc (.cells #[.int .i64 0] 3)) 4 #[.bool true]
    rwa [World.size_alloc, World.size_alloc] at this
  at_ := ⟨rfl, rfl, rfl, by rw [World.size_alloc, World.size_alloc, World.size_alloc]⟩
  keeps := (((Keeps.refl _ w3).alloc _).alloc _).alloc _

set_option maxRecDepth 100000 in
set_option maxHeartbeats 2000000 in
theorem walk_call (W9 : Walk9) {w2 w3 W : World} {v u : Value} {F : Fo} {new : List LnV} {n eb lb nb ob : Nat} {en : Int} (h : SlOf w2 v F) (few : F.size ≤ 250) (hd : F.deep ≤ 30) (hM : Mine lineK w2 w3 u new) (hA : LinesAt w2 new (lin F 1)) (hk : Keeps (fun _ => False) w2 w3) (hn : F.size = n) (hB : Boxed w2 w3 W u lb nb ob) (he : Whole W eb 3 #[.int .i64 en]) (heb : eb < w2.heap.size) :
    Calls Tryd.prog 23 #[v, .func (.func 24) #[] #[.pointer (some ⟨nb, 0, none⟩), .pointer (some ⟨ob, 0, none⟩), .pointer (some ⟨lb, 0, none⟩), .pointer (some ⟨eb, 0, none⟩)]] W fun e w' => e = .returned (.tuple #[]) ∧ Keeps (fun x => (x = nb ∨ x = ob) ∨ W.heap.size ≤ x) W w' ∧
      ((w'.cell? ⟨nb, 0, none⟩ = some (.int .i64 (n : Nat)) ∧ ¬ (1 ≤ en ∧ en ≤ (n : Int))) ∨ (w'.cell? ⟨nb, 0, none⟩ = some (.int .i64 en) ∧ 1 ≤ en ∧ en ≤ (n : Int))) ∧ w'.cell? ⟨ob, 0, none⟩ = some (.bool true) := by
  obtain ⟨q1, q2, q3, q4⟩ := hB.at_
  have kW : Keeps (fun _ => False) w2 W := hk.trans hB.keeps fun _ _ => id
  have hs := hk.size
  have wf := h.wf (d := 1)
  have hll := lin_len F 1
  have res := W9 (w0 := w2) (w := W) (v := v) (F := F) 24 #[.pointer (some ⟨nb, 0, none⟩), .pointer (some ⟨ob, 0, none⟩), .pointer (some ⟨lb, 0, none⟩), .pointer (some ⟨eb, 0, none⟩)] (fun x => x = nb ∨ x = ob)
    (fun i V => Whole V nb 3 #[.int .i64 (i : Nat)] ∧ Whole V ob 4 #[.bool true] ∧ ¬ (1 ≤ en ∧ en ≤ (i : Int))) (fun V => Whole V nb 3 #[.int .i64 en] ∧ Whole V ob 4 #[.bool true] ∧ 1 ≤ en ∧ en ≤ (n : Int))
    (enters_of Tryd.func24 (by kernel_rfl) rfl) h kW (fun x hx => by rcases hx with rfl | rfl <;> omega) (by omega) (by omega) ⟨hB.n, hB.o, fun hx => by have := hx.1; have := hx.2; omega⟩
    (fun i V V' hi hk => ⟨hi.1.keeps hk (by omega), hi.2.1.keeps hk (by omega), hi.2.2⟩) (fun V V' hi hk => ⟨hi.1.keeps hk (by omega), hi.2.1.keeps hk (by omega), hi.2.2⟩) ?_
  · refine res.mono ?_
    rintro e w' ⟨h1, h2, h3⟩
    rcases h3 with ⟨a1, a2, a3⟩ | ⟨a1, a2, a3, a4⟩
    · refine ⟨h1, h2, .inl ⟨?_, ?_⟩, a2.at_ 0⟩
      · rw [← hn]; exact a1.at_ 0
      · rw [← hn]; exact a3
    · exact ⟨h1, h2, .inr ⟨a1.at_ 0, a3, a4⟩, a2.at_ 0⟩
  · intro i l b e V hl hI hkV sB sE
    obtain ⟨i1, i2, i3⟩ := hI
    have hi : i < n := by have := (List.getElem?_eq_some_iff.1 hl).1; omega
    have nobox : ∀ x, x < w3.heap.size + 1 → ¬ ((x = nb ∨ x = ob) ∨ W.heap.size ≤ x) := fun x hx hc => by rcases hc with (hc | hc) | hc <;> omega
    have MV : Mine lineK w2 V u new := by
      have M6 : Mine lineK w2 W u new := hM.same hB.keeps
      exact ⟨ownsRow_keeps M6.1 hkV fun g hg => nobox g (by have := (World.ownsRow.lt hM.1 g hg).2; omega), M6.2⟩
    obtain ⟨g, c, b2, e2, hu, hat, oB, oE, _, _⟩ := line_cells MV hA (wf l (List.mem_of_getElem? hl)) hl
    have lsz := lin_size F 1 l (List.mem_of_getElem? hl)
    have hg : g < w3.heap.size := by rw [hu] at hM; exact (World.ownsRow.lt hM.1 g rfl).2
    have hlV : V.cell? ⟨lb, 0, none⟩ = some (.slice (some ⟨g, 0, none⟩) (lin F 1).length c) := by rw [← hu]; exact (hB.l.keeps hkV (nobox lb (by omega))).at_ 0
    have heV : V.cell? ⟨eb, 0, none⟩ = some (.int .i64 en) := (he.keeps hkV (nobox eb (by omega))).at_ 0
    have kV : Keeps (fun x => w2.heap.size ≤ x) w2 V := (kW.mono fun _ _ => False.elim : Keeps (fun x => w2.heap.size ≤ x) w2 W).trans hkV fun x hx hc => by rcases hc with (hc | hc) | hc <;> omega
    have vis := visit_any (w0 := w2) (W := V) (i := i) (m := (lin F 1).length) (c := c) (g := g) (nb := nb) (ob := ob) (lb := lb) (eb := eb) (l := l) (b := b) (e := e) (b2 := b2) (e2 := e2) (en := en) (d := (l.d : Int)) i1 i2 hlV heV (by omega) (by omega) hat kV sB sE oB oE (by omega) (by omega) (by omega) (by omega) (by omega) (by omega) (by omega)
    refine vis.mono ?_
    rintro e' V' ⟨r1, r2, r3, r4⟩
    refine ⟨_, r1, r2, fun hgo => ⟨r3, r4, fun hx => ?_⟩, fun hgo => ?_⟩
    · have : ((i + 1 : Nat) : Int) ≠ en := by simpa using hgo
      refine i3 ⟨hx.1, ?_⟩
      have := hx.2
      omega
    · have : ((i + 1 : Nat) : Int) = en := by simpa using hgo
      rw [this] at r3
      exact ⟨r3, r4, by omega, by omega⟩

set_option maxRecDepth 100000 in
set_option maxHeartbeats 2000000 in
theorem walks_any9 (F9 : Face9) (W9 : Walk9) {w : World} {v : Value} {F : Fo} (en : Int) (h : SlOf w v F) (hg : Glob w) :
    Calls Tryd.prog 5 #[v, .int .i64 en] w fun e w' => e = .returned (.bool true) ∧ Keeps (fun _ => False) w w' := by
  have k1 : Keeps (fun _ => False) w (w.alloc (.cells #[.int .i64 en] 3)) := (Keeps.refl _ w).alloc _
  have cf := Lib.hid (few_any (h.same k1))
  have KA := Lib.hid k1
  have HG := Lib.hid hg
  have EB : Hid (Whole (w.alloc (.cells #[.int .i64 en] 3)) w.heap.size 3 #[.int .i64 en]) := Lib.hid (Whole.made _ _ _)
  by_cases hf : wt F 0 ≤ 250
  · rw [decide_eq_true hf] at cf
    obtain ⟨f1, f2⟩ := few_says hf
    have CL := Lib.hid (fun V (k : Keeps (fun _ => False) w V) => lines_new (h.same k) (by omega) (by omega))
    have HS := Lib.hid (fun V (k : Keeps (fun _ => False) w V) => h.same k)
    have ll := lin_len F 1
    clear h hg hf k1
    go_enter Tryd.func5, Tryd.ntmps5
    go_wp2_with fail
    refine cf.out.mono ?_
    rintro e w2 ⟨rfl, hK⟩
    have K2 := Lib.hid (KA.out.trans hK fun _ _ => id)
    have E2 := Lib.hid (EB.out.keeps hK id)
    clear hK
    go_wp2_with fail
    refine (CL.out _ K2.out).mono ?_
    rintro e w3 ⟨u, new, rfl, hM, hA, hK⟩
    obtain ⟨lo, lc, rfl, _⟩ := row_shape hM.1
    have hlen : new.length = F.size := by rw [hA.len, ll]
    rw [hlen] at hM ⊢
    have M3 := Lib.hid hM
    have A3 := Lib.hid hA
    have J3 := Lib.hid hK
    have K3 := Lib.hid (K2.out.trans hK fun _ _ => id)
    obtain ⟨n, hn⟩ : ∃ n, F.size = n := ⟨_, rfl⟩
    have hn' := Lib.hid hn
    have F1 := Lib.hid f1
    have F2 := Lib.hid f2
    have n250 : (n : Int) ≤ 250 := by omega
    rw [hn] at M3 ⊢
    have ebl : Hid (w.heap.size < w2.heap.size) := Lib.hid (E2.out.lt)
    clear hM hA hK ll hlen hn f1 f2
    go_upto_region 6 with fail
    have BX := Lib.hid (boxed w2 w3 (.slice lo n lc))
    generalize hW6 : (((w3.alloc (.cells #[.slice lo n lc] 34)).alloc (.cells #[.int .i64 0] 3)).alloc (.cells #[.bool true] 4)) = W6 at *
    have CW := Lib.hid (walk_call W9 (v := v) (n := n) (eb := w.heap.size) (en := en) (HS.out _ K2.out) F1.out F2.out M3.out A3.out J3.out hn'.out BX.out ((E2.out.keeps J3.out id).keeps BX.out.keeps id) ebl.out)
    have k6 : Hid (Keeps (fun _ => False) w W6) := Lib.hid (K3.out.trans BX.out.keeps fun _ _ => id)
    clear hW6
    go_wp2_with fail
    refine CW.out.mono ?_
    rintro e w7 ⟨rfl, hK, hR, c1⟩
    have a1 := BX.out.at_
    have s3 := K3.out.size
    have K7 := Lib.hid (k6.out.trans hK fun x hx hc => by rcases hc with (hc | hc) | hc <;> omega)
    have c2 : w7.cell? ⟨w3.heap.size, 0, none⟩ = some (.slice lo n lc) := (BX.out.l.keeps hK (by omega)).at_ 0
    have s1 := E2.out.lt
    have s2 := J3.out.size
    have c3 : w7.cell? ⟨w.heap.size, 0, none⟩ = some (.int .i64 en) := (((E2.out.keeps J3.out id).keeps BX.out.keeps id).keeps hK (by omega)).at_ 0
    clear hK a1 s1 s2 s3
    rcases hR with ⟨c4, hne⟩ | ⟨c4, h1, h2⟩
    · have eqn : ((n : Int) == (n : Int)) = true := by simp
      by_cases e1 : 1 ≤ en
      · have e2 : ¬ en ≤ (n : Int) := fun h => hne ⟨e1, h⟩
        clear hne
        go_wp2_with fail
        refine (alive_any9 F9 (HG.out.keeps K7.out id)).mono ?_
        rintro e w8 ⟨rfl, hK⟩
        have K8 := Lib.hid (K7.out.trans hK fun _ _ => id)
        clear hK
        go_wp2_with fail
        go_ret
        exact ⟨rfl, K8.out⟩
      · clear hne
        go_wp2_with fail
        refine (alive_any9 F9 (HG.out.keeps K7.out id)).mono ?_
        rintro e w8 ⟨rfl, hK⟩
        have K8 := Lib.hid (K7.out.trans hK fun _ _ => id)
        clear hK
        go_wp2_with fail
        go_ret
        exact ⟨rfl, K8.out⟩
    · have eqn : (en == en) = true := by simp
      go_wp2_with fail
      refine (alive_any9 F9 (HG.out.keeps K7.out id)).mono ?_
      rintro e w8 ⟨rfl, hK⟩
      have K8 := Lib.hid (K7.out.trans hK fun _ _ => id)
      clear hK
      go_wp2_with fail
      go_ret
      exact ⟨rfl, K8.out⟩
  · rw [decide_eq_false hf] at cf
    clear h hg hf k1
    go_enter Tryd.func5, Tryd.ntmps5
    go_wp2_with fail
    refine cf.out.mono ?_
    rintro e w2 ⟨rfl, hK⟩
    have K2 := Lib.hid (KA.out.trans hK fun _ _ => id)
    clear hK
    go_wp2_with fail
    refine (alive_any9 F9 (HG.out.keeps K2.out id)).mono ?_
    rintro e w8 ⟨rfl, hK⟩
    have K8 := Lib.hid (K2.out.trans hK fun _ _ => id)
    clear hK
    go_wp2_with fail
    go_ret
    exact ⟨rfl, K8.out⟩
end Go.Proofs.YtpmbkeaimdeglaaDoor
