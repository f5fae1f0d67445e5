/-
  concordlaw09.ProgCounts by contract.
-/
import Derived.Test.YtpmbkeaimdeglaaDoorPgFace
import Derived.Test.YtpmbkeaimdeglaaDoorPgRef2
import Derived.Test.YtpmbkeaimdeglaaDoorPgColls
import Derived.Test.YtpmbkeaimdeglaaDoorMoInts
namespace Go.Proofs.YtpmbkeaimdeglaaDoor
open Go.RowKit Go.Extern.Stop Go.Stop Go.Extern

theorem up_same {C D : List Int} {P : Int → Prop} (hC : Up C) (hD : Up D) (h1 : ∀ x, x ∈ C ↔ P x) (h2 : ∀ x, x ∈ D ↔ P x) : C = D :=
  Up.unique hC hD ((List.perm_ext_iff_of_nodup hC.nodup hD.nodup).2 fun x => (h1 x).trans (h2 x).symm)

set_option maxRecDepth 100000 in
set_option maxHeartbeats 1000000 in
theorem counts_any9 (F9 : Face9) {w : World} {v : Value} {F : Fo} (h : SlOf w v F) (hg : Glob w) :
    Calls Tryd.prog 4 #[v] w fun e w' => e = .returned (.bool true) ∧ Keeps (fun _ => False) w w' := by
  have cf := Lib.hid (few_any h)
  have HG := Lib.hid hg
  by_cases hf : wt F 0 ≤ 250
  · rw [decide_eq_true hf] at cf
    obtain ⟨f1, f2⟩ := few_says hf
    have C1 := Lib.hid (fun V (k : Keeps (fun _ => False) w V) => F9.size_ (h.same k) (by omega) (by omega))
    have C2 := Lib.hid (fun V (k : Keeps (fun _ => False) w V) => lines_new (h.same k) (by omega) (by omega))
    have C3 := Lib.hid (fun V (k : Keeps (fun _ => False) w V) => F9.deep_ (h.same k) (by omega) (by omega))
    have C4 := Lib.hid (fun V (k : Keeps (fun _ => False) w V) => rdeep_any (h.same k) (by omega) (by omega))
    have C5 := Lib.hid (fun V (k : Keeps (fun _ => False) w V) => F9.colls_ (h.same k) (by omega) (by omega))
    have C6 := Lib.hid (fun V (k : Keeps (fun _ => False) w V) => rcolls_any (h.same k) (by omega) (by omega))
    have C7 := Lib.hid (fun V (k : Keeps (fun _ => False) w V) => F9.waits_ (h.same k) (by omega) (by omega))
    have C8 := Lib.hid (fun V (k : Keeps (fun _ => False) w V) => rwaits_any (h.same k) (by omega) (by omega))
    have hll := lin_len F 1
    generalize F.size = sz at *
    generalize F.deep = dp at *
    generalize waits F = wv at *
    generalize lin F 1 = L at *
    clear h hg hf f2
    go_enter Tryd.func4, Tryd.ntmps4
    go_wp2_with fail
    refine cf.out.mono ?_
    rintro e w1 ⟨rfl, hK⟩
    have K1 := Lib.hid hK
    clear hK
    go_wp2_with fail
    refine (C1.out _ K1.out).mono ?_
    rintro e w2 ⟨rfl, hK⟩
    have K2 := Lib.hid (K1.out.trans hK fun _ _ => id)
    clear hK
    go_wp2_with fail
    refine (C2.out _ K2.out).mono ?_
    rintro e w3 ⟨u, new, rfl, hM, hA, hK⟩
    obtain ⟨o, c, rfl, _⟩ := row_shape hM.1
    have hn : new.length = sz := by rw [hA.len, hll]
    rw [hn]
    have K3 := Lib.hid (K2.out.trans hK fun _ _ => id)
    have q1 : ((sz : Int) == (sz : Int)) = true := by simp
    have q2 : ((dp : Int) == (dp : Int)) = true := by simp
    have q3 : (wv == wv) = true := by cases wv <;> rfl
    clear hK hM hA hn hll
    go_wp2_with fail
    refine (C3.out _ K3.out).mono ?_
    rintro e w4 ⟨rfl, hK⟩
    have K4 := Lib.hid (K3.out.trans hK fun _ _ => id)
    clear hK
    go_wp2_with fail
    refine (C4.out _ K4.out).mono ?_
    rintro e w5 ⟨rfl, hK⟩
    have K5 := Lib.hid (K4.out.trans hK fun _ _ => id)
    clear hK
    go_wp2_with fail
    refine (C5.out _ K5.out).mono ?_
    rintro e w6 ⟨u6, C, rfl, hR, hU, hN, hK⟩
    have R6 := Lib.hid hR
    have U6 := Lib.hid hU
    have N6 := Lib.hid hN
    have K6 := Lib.hid (K5.out.trans hK fun _ _ => id)
    clear hK hR hU hN
    go_wp2_with fail
    refine (C6.out _ K6.out).mono ?_
    rintro e w7 ⟨u7, D, rfl, hR, hU, hN, hl, hK⟩
    have R7 := Lib.hid hR
    have R6' := Lib.hid (ownsRow_keeps R6.out hK fun _ _ => id)
    obtain rfl := up_same U6.out hU N6.out hN
    have hl' := Lib.hid hl
    have K7 := Lib.hid (K6.out.trans hK fun _ _ => id)
    clear hK hR hU hN hl
    go_wp2_with fail
    refine (ni_any R6'.out R7.out (by have := hl'.out; omega)).mono ?_
    rintro e w8 ⟨rfl, hK⟩
    rw [decide_eq_true rfl]
    have K8 := Lib.hid (K7.out.trans hK fun _ _ => id)
    clear hK
    go_wp2_with fail
    refine (C7.out _ K8.out).mono ?_
    rintro e w9 ⟨rfl, hK⟩
    have K9 := Lib.hid (K8.out.trans hK fun _ _ => id)
    clear hK
    go_wp2_with fail
    refine (C8.out _ K9.out).mono ?_
    rintro e w10 ⟨rfl, hK⟩
    have K10 := Lib.hid (K9.out.trans hK fun _ _ => id)
    clear hK
    go_wp2_with fail
    refine (alive_any9 F9 (HG.out.keeps K10.out id)).mono ?_
    rintro e w11 ⟨rfl, hK⟩
    have K11 := Lib.hid (K10.out.trans hK fun _ _ => id)
    clear hK
    go_wp2_with fail
    go_ret
    exact ⟨rfl, K11.out⟩
  · rw [decide_eq_false hf] at cf
    clear h hg hf
    go_enter Tryd.func4, Tryd.ntmps4
    go_wp2_with fail
    refine cf.out.mono ?_
    rintro e w1 ⟨rfl, hK⟩
    have K1 := Lib.hid hK
    clear hK
    go_wp2_with fail
    refine (alive_any9 F9 (HG.out.keeps K1.out id)).mono ?_
    rintro e w2 ⟨rfl, hK⟩
    have K2 := Lib.hid (K1.out.trans hK fun _ _ => id)
    clear hK
    go_wp2_with fail
    go_ret
    exact ⟨rfl, K2.out⟩
end Go.Proofs.YtpmbkeaimdeglaaDoor
