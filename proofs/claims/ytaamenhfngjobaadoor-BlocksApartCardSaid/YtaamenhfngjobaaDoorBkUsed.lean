/-
  blocks: Used and New by contract; concordlaw02.On.
-/
import Derived.Test.YtaamenhfngjobaaDoorBkFree
import Derived.Maps.RangeWalk
namespace Go.Proofs.YtaamenhfngjobaaDoor
open Go.RowKit Go.Extern.Stop Go.Stop Go.Extern

def useOf (B : Blk) : Nat := if B.live then 1 + B.size else 0
/-- How many words live blocks have. -/
def St.used (s : St) : Nat := (s.bs.map useOf).sum

theorem used_nil (w : World) : Calls Tryd.prog 16 #[.pointer none] w fun e w' => e = .returned (.int .i64 0) ∧ w = w' := by
  go_enter Tryd.func16, Tryd.ntmps16
  go_wp2_with (go_at_call 23; refine (none_bk_nil _).mono ?_; rintro e w' ⟨rfl, rfl⟩)
  go_ret
  exact ⟨rfl, rfl⟩

/-- The blocks that are gone over already. -/
def doneSum (bs : List Blk) (left : Int → Bool) : Nat := ((bs.filter fun B => !left B.place).map useOf).sum

theorem doneSum_start (s : St) {n : Nat} (h : s.Ok n) : doneSum s.bs (fun i => (allF s i).isSome) = 0 := by
  have : s.bs.filter (fun B => !(allF s (B.place : Int)).isSome) = [] := by
    rw [List.filter_eq_nil_iff]
    intro B hB
    rw [allF_at, St.at_mem h hB]
    simp
  unfold doneSum
  rw [this]
  rfl

theorem doneSum_end (bs : List Blk) (left : Int → Bool) (h : ∀ i, left i = false) : doneSum bs left = (bs.map useOf).sum := by
  unfold doneSum
  rw [List.filter_eq_self.2 fun B _ => by rw [h]; rfl]

theorem doneSum_step {n : Nat} {s : St} (h : s.Ok n) (left : Int → Bool) (x : Int) (c : BV) (hl : left x = true) (hx : allF s x = some c) :
    ∃ B, B ∈ s.bs ∧ c = B.bv ∧ doneSum s.bs (fun i => left i && !decide (i = x)) = doneSum s.bs left + useOf B := by
  unfold allF at hx
  split at hx
  · rename_i h0
    cases hat : s.at x.toNat with
    | none => rw [hat] at hx; cases hx
    | some B =>
      rw [hat] at hx
      obtain ⟨hB, hp⟩ := St.at_some hat
      refine ⟨B, hB, by injection hx with hx; exact hx.symm, ?_⟩
      have hxp : x = (B.place : Int) := by omega
      subst hxp
      have ho := h.order
      have key : ∀ (l : List Blk), l.Pairwise (fun B C => B.place + 1 + B.size ≤ C.place) → B ∈ l → doneSum l (fun i => left i && !decide (i = (B.place : Int))) = doneSum l left + useOf B := by
        intro l
        induction l with
        | nil => intro _ hm; cases hm
        | cons D r ih =>
          intro hp hm
          obtain ⟨h1, h2⟩ := List.pairwise_cons.1 hp
          by_cases hD : D.place = B.place
          · have hr : ∀ C ∈ r, C.place ≠ B.place := fun C hC e => by have := h1 C hC; omega
            have hDB : D = B := by
              rcases List.mem_cons.1 hm with e | hm
              · exact e.symm
              · exact absurd rfl (hr B hm)
            subst hDB
            have e1 : r.filter (fun C => !(left (C.place : Int) && !decide ((C.place : Int) = (D.place : Int)))) = r.filter fun C => !left (C.place : Int) := by
              refine List.filter_congr fun C hC => ?_
              have : ¬ ((C.place : Int) = (D.place : Int)) := fun e => hr C hC (by omega)
              simp [this]
            unfold doneSum
            rw [List.filter_cons_of_pos (by simp), List.filter_cons_of_neg (by simp [hl]), e1]
            simp only [List.map_cons, List.sum_cons]
            omega
          · have hm' : B ∈ r := by
              rcases List.mem_cons.1 hm with e | hm
              · exact absurd (by rw [e]) hD
              · exact hm
            have e0 : (left (D.place : Int) && !decide ((D.place : Int) = (B.place : Int))) = left (D.place : Int) := by
              have : ¬ ((D.place : Int) = (B.place : Int)) := fun e => hD (by omega)
              simp [this]
            have := ih h2 hm'
            unfold doneSum at this ⊢
            dsimp only at this ⊢
            rw [List.filter_cons, List.filter_cons]
            simp only [e0]
            split
            · simp only [List.map_cons, List.sum_cons]
              rw [this, Nat.add_assoc]
            · exact this
      exact key s.bs ho hB
  · cases hx

theorem useOf_le {n : Nat} {s : St} (h : s.Ok n) : (s.bs.map useOf).sum ≤ s.top := by
  have key : ∀ (l : List Blk) (t : Nat), l.Pairwise (fun B C => B.place + 1 + B.size ≤ C.place) → (∀ B ∈ l, t ≤ B.place ∧ B.place + 1 + B.size ≤ s.top) → t ≤ s.top → (l.map useOf).sum + t ≤ s.top := by
    intro l
    induction l with
    | nil => intro t _ _ ht; simpa using ht
    | cons D r ih =>
      intro t hp hb ht
      obtain ⟨h1, h2⟩ := List.pairwise_cons.1 hp
      have hD := hb D (List.mem_cons_self ..)
      have := ih (D.place + 1 + D.size) h2 (fun B hB => ⟨h1 B hB, (hb B (List.mem_cons_of_mem _ hB)).2⟩) hD.2
      have hu : useOf D ≤ 1 + D.size := by unfold useOf; split <;> omega
      simp only [List.map_cons, List.sum_cons]
      omega
  have := key s.bs 0 h.order (fun B hB => ⟨Nat.zero_le _, (h.fits B hB).2.2.1⟩) (Nat.zero_le _)
  omega

theorem doneSum_le (bs : List Blk) (left : Int → Bool) : doneSum bs left ≤ (bs.map useOf).sum := by
  unfold doneSum
  induction bs with
  | nil => exact Nat.le_refl _
  | cons D r ih =>
    rw [List.filter_cons]
    split <;> simp only [List.map_cons, List.sum_cons] <;> omega

set_option maxRecDepth 100000 in
theorem used_bk {b : Nat} {ws : List Int} {cnt : Nat} {st : St} {X : Nat → Prop} (w : World) (h : Bk w b ws cnt st X) :
    Calls Tryd.prog 16 #[.pointer (some ⟨b, 0, none⟩)] w fun e w' => e = .returned (.int .i64 st.used) ∧ Keeps (fun _ => False) w w' := by
  obtain ⟨a, bw, mb, fb, rows, h⟩ := h
  have c0 : w.cell? ⟨b, 0, none⟩ = some (.pointer (some ⟨a, 0, none⟩)) := h.blk.at_ 0
  have c1 : w.cell? ⟨b, 1, none⟩ = some (.map (some mb)) := h.blk.at_ 1
  have hle := useOf_le h.ok
  have hroom := h.ok.room
  have hlen16 := h.arena.2.2.2
  have hok := Lib.hid h.ok
  have hm := Lib.hid h.all
  have lm := h.all.lt
  clear h
  go_enter Tryd.func16, Tryd.ntmps16
  go_wp2_with (first
    | (go_at_call 23; refine (none_bk _ c0).mono ?_; rintro e w' ⟨rfl, rfl⟩)
    | (at_range; refine wpList_ranging _ rfl _ 61 rfl 3 60 bvE Tryd.underlying3 Tryd.underlying61 mb (allF st) rfl hm.out ?_; intro W cnt0 hR hG hS; have R0 := Lib.hid hR; have K0 := Lib.hid ((Keeps.refl (fun _ => False) w).grown hG (fun _ h _ => by cases h)); clear hR hG hS))
  go_frame
  go_loopw [3] (fun t wr => ∃ (left : Int → Bool) (cn : Nat), t = .int .i64 (doneSum st.bs left : Nat) ∧ Ranging Tryd.prog 3 bvE wr mb w.heap.size (allF st) left cn ∧ Keeps (fun _ => False) w wr) (fun _ wr => wr.rangeLeft mb w.heap.size)
  case atStart => exact ⟨_, cnt0, by rw [doneSum_start st hok.out]; rfl, R0.out, K0.out⟩
  case round =>
    obtain ⟨left, cn, rfl, hR, hK⟩ := hrel
    have R1 := Lib.hid hR
    have K1 := Lib.hid hK
    have hd := doneSum_le st.bs left
    have hd1 : ((doneSum st.bs left : Nat) : Int) ≤ 16384 := by omega
    clear hR hK
    go_wp2_with (first
      | (at_next; refine wpList_next_ranging _ rfl _ rfl 3 bvE Tryd.underlying3 mb w.heap.size (allF st) left cn rfl R1.out ?_ ?_))
    · intro hDone
      have he := Lib.hid (doneSum_end st.bs left hDone)
      clear hDone
      go_wp2
      go_ret
      exact ⟨by rw [he.out]; rfl, K1.out⟩
    · intro x c w1 cnt1 hwx hlx hfx hR1 hlt hg1 hs1 hen
      obtain ⟨B, hB, rfl, hstep⟩ := doneSum_step hok.out left x c hlx hfx
      have hsz := (hok.out.fits B hB).2.1
      have hen2 : (Instr.entry (.pointer (some ⟨w.heap.size, 0, none⟩))).run Tryd.prog w1 = .ok (.tuple #[.int .i64 x, .agg #[.int .i64 B.size, .int .u32 B.gen, .bool B.live]]) w1 := hen
      have R2 := Lib.hid hR1
      have K2 := Lib.hid (K1.out.grown hg1 (fun k hk hlt => by injection hk with hk; omega))
      have st1 := Lib.hid hstep
      have hlt' := Lib.hid hlt
      have hle2 := doneSum_le st.bs (fun i => left i && !decide (i = x))
      clear hwx hlx hfx hR1 hlt hg1 hs1 hen hstep hB
      generalize hdd : doneSum st.bs left = d at *
      cases hlv : B.live with
      | true =>
        have hu : useOf B = 1 + B.size := by unfold useOf; rw [hlv]; rfl
        rw [hlv] at hen2
        have hu' := Lib.hid hu
        have hdd' := Lib.hid hdd
        have hlv' := Lib.hid hlv
        clear hu hdd hlv
        go_wp2
        go_roundw
        case rel => exact ⟨_, cnt1, by rw [st1.out, hu'.out]; go_num, R2.out.alloc _, K2.out.alloc _⟩
        case measure => rw [(R2.out.alloc _).left_eq, R1.out.left_eq]; exact hlt'.out
      | false =>
        have hu : useOf B = 0 := by unfold useOf; rw [hlv]; rfl
        rw [hlv] at hen2
        have hu' := Lib.hid hu
        have hdd' := Lib.hid hdd
        have hlv' := Lib.hid hlv
        clear hu hdd hlv
        go_wp2
        go_roundw
        case rel => exact ⟨_, cnt1, by rw [st1.out, hu'.out]; rfl, R2.out.alloc _, K2.out.alloc _⟩
        case measure => rw [(R2.out.alloc _).left_eq, R1.out.left_eq]; exact hlt'.out
end Go.Proofs.YtaamenhfngjobaaDoor
