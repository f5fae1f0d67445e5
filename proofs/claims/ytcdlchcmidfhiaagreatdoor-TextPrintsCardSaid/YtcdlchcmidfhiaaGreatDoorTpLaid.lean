/-
  What the nine listed variables give the walks ('GlobT'), and a world that meets the condition: the one that the program's own start leaves.
-/
import Derived.Test.YtcdlchcmidfhiaaGreatDoorTpWord
import Derived.Test.YtcdlchcmidfhiaaGreatDoorRows
import Derived.ProofKit
import Derived.LaidSub
import Derived.LaidLaws
import Derived.LaidHandle
import Derived.LaidMore
import Derived.Lib.LaidTab
import Derived.OpenShut
import Derived.Below
namespace Go.Proofs.YtcdlchcmidfhiaaGreatDoor
open Go.ChangeShapes Go.WideShapes Go.ChangeAt Go.RowKit Go.Extern.Stop Go.Stop Go.Extern
set_option maxRecDepth 100000

def txLaid : List (String × DataW Unit) := [("math/bits.deBruijn32tab", Rows.laid_math_bits_deBruijn32tab), ("math/bits.deBruijn64tab", Rows.laid_math_bits_deBruijn64tab), ("internal/strconv.uint64pow10", Rows.laid_internal_strconv_uint64pow10), ("errors.errorType", Rows.laid_errors_errorType), ("strconv.ErrRange", Rows.laid_strconv_ErrRange), ("strconv.ErrSyntax", Rows.laid_strconv_ErrSyntax), ("unicode.White_Space", Rows.laid_unicode_White_Space), ("strings.asciiSpace", Rows.laid_strings_asciiSpace), ("concord/text.forms", Rows.laid_concord_text_forms)]

/-! ### the list cut to one name -/
theorem tx_one_pow : (txLaid.filter fun x => x.1 == "internal/strconv.uint64pow10") = [("internal/strconv.uint64pow10", Lib.tabData .u64 Lib.pow10Tab)] := by kernel_rfl
theorem tx_one_spc : (txLaid.filter fun x => x.1 == "strings.asciiSpace") = [("strings.asciiSpace", Lib.tabData .u8 Lib.asciiSpaceTab)] := by kernel_rfl
theorem tx_one_ety : (txLaid.filter fun x => x.1 == "errors.errorType") = [("errors.errorType", Rows.laid_errors_errorType)] := by kernel_rfl
theorem tx_one_ran : (txLaid.filter fun x => x.1 == "strconv.ErrRange") = [("strconv.ErrRange", Rows.laid_strconv_ErrRange)] := by kernel_rfl
theorem tx_one_syn : (txLaid.filter fun x => x.1 == "strconv.ErrSyntax") = [("strconv.ErrSyntax", Rows.laid_strconv_ErrSyntax)] := by kernel_rfl
theorem tx_one_frm : (txLaid.filter fun x => x.1 == "concord/text.forms") = [("concord/text.forms", Rows.laid_concord_text_forms)] := by kernel_rfl
theorem tx_cut {W : World} (n : String) {d : DataW Unit} (h : laidMetH Tryz.prog txLaid W) (e : (txLaid.filter fun x => x.1 == n) = [(n, d)]) (hn : d.handleName?.isNone = true) : laidMet Tryz.prog [(n, d)] W := by
  have h1 := laidMetH.filter (fun x => x.1 == n) h
  rw [e] at h1
  rw [MakeChecks.laidMetH_plain _ _ _ (by simp only [List.all_cons, List.all_nil, hn, Bool.and_self])] at h1
  exact h1

/-! ### the tables -/
theorem tx_gP : Tryz.prog.globalNamed "internal/strconv.uint64pow10" = some 5 := by kernel_rfl
theorem tx_gPT : (Tryz.prog.globals[5]?).map (·.type) = some 201 := by kernel_rfl
theorem tx_gS : Tryz.prog.globalNamed "strings.asciiSpace" = some 2 := by kernel_rfl
theorem tx_gST : (Tryz.prog.globals[2]?).map (·.type) = some 159 := by kernel_rfl
theorem tx_pow {W : World} (h : laidMetH Tryz.prog txLaid W) : Lib.TabIs Tryz.prog W "internal/strconv.uint64pow10" .u64 Lib.pow10Tab :=
  Lib.tabIs_of_head tx_gP tx_gPT Tryz.underlying201 Tryz.underlying114 (by kernel_rfl) (by kernel_rfl) (tx_cut "internal/strconv.uint64pow10" h tx_one_pow (by kernel_rfl))
theorem tx_spc {W : World} (h : laidMetH Tryz.prog txLaid W) : Lib.TabIs Tryz.prog W "strings.asciiSpace" .u8 Lib.asciiSpaceTab :=
  Lib.tabIs_of_head tx_gS tx_gST Tryz.underlying159 Tryz.underlying5 (by kernel_rfl) (by kernel_rfl) (tx_cut "strings.asciiSpace" h tx_one_spc (by kernel_rfl))

/-! ### the errors -/
theorem tx_gE : Tryz.prog.globalNamed "errors.errorType" = some 0 := by kernel_rfl
theorem tx_rt : (Tryz.prog.cutTypes.find? (·.1 == "internal/reflectlite.rtype")).map (·.2) = some 130 := by kernel_rfl
theorem tx_oneRow : ((List.range 243).filter fun t => Tryz.prog.rowNamed t [101, 114, 114, 111, 114]) = [26] := by kernel_rfl
theorem tx_size : Tryz.prog.types.size = 243 := by kernel_rfl
theorem tx_ety {W : World} (h : laidMetH Tryz.prog txLaid W) : Glob W := by
  have h1 := laidMetH.filter (fun x => x.1 == "errors.errorType") h
  rw [tx_one_ety] at h1
  have h' : laidMet Tryz.prog [] W ∧ handlesMet Tryz.prog [("errors.errorType", Rows.laid_errors_errorType)] W := h1
  obtain ⟨name, u, ty, e1, e2, e3, e4, e5⟩ := h'.2 _ (List.mem_singleton.2 rfl)
  have en : name = [101, 114, 114, 111, 114] := (Option.some.inj e1).symm
  subst en
  obtain rfl := Option.some.inj (tx_rt.symm.trans e2)
  have hm : ty ∈ (List.range 243).filter fun t => Tryz.prog.rowNamed t [101, 114, 114, 111, 114] := List.mem_filter.2 ⟨List.mem_range.2 (by rw [← tx_size]; exact e3), e4⟩
  rw [tx_oneRow] at hm
  obtain rfl := List.mem_singleton.1 hm
  have hh : typeHandle Tryz.prog 26 = .pointer (some ⟨11, 26, none⟩) := by kernel_rfl
  rw [hh] at e5
  unfold Glob
  simpa using World.var?_cell tx_gE e5 0
theorem tx_iface {W : World} {n : String} {g : Nat} {nm : String} {d : DataW Unit} (hg : Tryz.prog.globalNamed n = some g) (hT : (Tryz.prog.globals[g]?).map (·.type) = some 26)
    (h : laidMet Tryz.prog [(n, .iface nm d)] W) : ∃ te pe, W.cell? ⟨g, 0, none⟩ = some (.iface te pe) := by
  obtain ⟨ps, ⟨g', t', cs, fuel, p, q, hg', ht', hvar, hd, _, _⟩, _⟩ := h
  obtain rfl := Option.some.inj (hg.symm.trans hg')
  obtain rfl := Option.some.inj (hT.symm.trans ht')
  have hc : ∃ te pe, cs.toList = [.iface te pe] := by
    cases fuel with
    | zero => simp [DataW.trod] at hd
    | succ k =>
      unfold DataW.trod at hd
      rw [Tryz.underlying26] at hd
      split at hd <;> simp_all
  obtain ⟨te, pe, hc⟩ := hc
  obtain rfl := Array.eq_one_of_toList hc
  exact ⟨te, pe, by simpa using World.var?_cell hg hvar 0⟩
theorem tx_gY : Tryz.prog.globalNamed "strconv.ErrSyntax" = some 6 := by kernel_rfl
theorem tx_gYT : (Tryz.prog.globals[6]?).map (·.type) = some 26 := by kernel_rfl
theorem tx_gR : Tryz.prog.globalNamed "strconv.ErrRange" = some 7 := by kernel_rfl
theorem tx_gRT : (Tryz.prog.globals[7]?).map (·.type) = some 26 := by kernel_rfl
theorem tx_syn {W : World} (h : laidMetH Tryz.prog txLaid W) : ∃ te pe, W.cell? ⟨6, 0, none⟩ = some (.iface te pe) :=
  tx_iface tx_gY tx_gYT (tx_cut "strconv.ErrSyntax" h tx_one_syn (by kernel_rfl))
theorem tx_ran {W : World} (h : laidMetH Tryz.prog txLaid W) : ∃ te pe, W.cell? ⟨7, 0, none⟩ = some (.iface te pe) :=
  tx_iface tx_gR tx_gRT (tx_cut "strconv.ErrRange" h tx_one_ran (by kernel_rfl))

/-! ### the forms -/
theorem tx_gF : Tryz.prog.globalNamed "concord/text.forms" = some 1 := by kernel_rfl
theorem tx_gFT : (Tryz.prog.globals[1]?).map (·.type) = some 123 := by kernel_rfl
/-- An array of strings that reads as these holds them, cell for cell. -/
theorem cells_of_strs {enc : TypeId × Value → Unit} {w : World} {base : Nat} {sp : Nat → Bool} {held : Bool} {fuel : Nat} {t e : TypeId} {n : Nat} {cs : List Value} {zs : List (List UInt8)} {p : List MemPlace}
    (ht : Tryz.prog.underlying t = some (.array n e)) (he : Tryz.prog.underlying e = some .string) (hce : Tryz.prog.cellsOf e = 1) (hct : Tryz.prog.cellsOf t = n)
    (h : DataW.trod enc Tryz.prog w base sp held fuel t cs = some (.agg (zs.map fun z => .lit (.string z)), p)) (i : Nat) (hi : i < zs.length) : ∃ s : ByteArray, cs[i]? = some (.string s) ∧ some s.data.toList = zs[i]? := by
  cases fuel with
  | zero => simp [DataW.trod] at h
  | succ fuel =>
    simp only [DataW.trod, ht, hce, hct, Nat.mul_one] at h
    split at h
    · rename_i hl
      obtain ⟨xs, hm, hx⟩ := Option.map_eq_some_iff.1 h
      have hxs : xs.map (·.1) = zs.map fun z => (DataW.lit (.string z) : DataW Unit) := by
        have := congrArg Prod.fst hx
        simpa using this
      have hxl : xs.length = n := by simpa using Lib.mapM_length hm
      have hzl : zs.length = n := by
        have := congrArg List.length hxs
        simp at this
        omega
      have hin : i < n := by omega
      obtain ⟨b, hb, hf⟩ := Lib.mapM_at hm i i (by simp [hin])
      obtain ⟨s, hc, rfl, _⟩ := DataW.trod_string he hf
      have h1 : cs[i]? = some (.string s) := by
        have := congrArg (·[0]?) hc
        simpa [List.getElem?_take, List.getElem?_drop] using this
      have h2 : (xs.map (·.1))[i]? = some (DataW.lit (.string s.data.toList) : DataW Unit) := by simp [hb]
      rw [hxs] at h2
      simp only [List.getElem?_map, Option.map_eq_some_iff, DataW.lit.injEq, Lit.string.injEq] at h2
      obtain ⟨z', hz', rfl⟩ := h2
      exact ⟨s, h1, hz'.symm⟩
    · cases h
/-- The forms, in the kinds' order. -/
def frmAll : List (List UInt8) := (List.range 17).map fun k => frmB k
theorem tx_frm_data : (Rows.laid_concord_text_forms : DataW Unit) = .agg (frmAll.map fun z => .lit (.string z)) := by kernel_rfl
theorem tx_frm {W : World} (h : laidMetH Tryz.prog txLaid W) (k : Nat) (hk : k < 17) : W.cell? ⟨1, k, none⟩ = some (.string (mkB (frmB k))) := by
  have h1 := tx_cut "concord/text.forms" h tx_one_frm (by kernel_rfl)
  rw [tx_frm_data] at h1
  obtain ⟨ps, ⟨g', t', cs, fuel, p, q, hg', ht', hvar, hd, _, _⟩, _⟩ := h1
  obtain rfl := Option.some.inj (tx_gF.symm.trans hg')
  obtain rfl := Option.some.inj (tx_gFT.symm.trans ht')
  obtain ⟨s, hs, hz⟩ := cells_of_strs Tryz.underlying123 Tryz.underlying9 (by kernel_rfl) (by kernel_rfl) hd k (by simp [frmAll]; exact hk)
  have hz' : s.data.toList = frmB k := by
    have : frmAll[k]? = some (frmB k) := by simp [frmAll, hk]
    rw [this] at hz
    exact Option.some.inj hz
  have hv := World.var?_cell tx_gF hvar k
  rw [hv, ← Array.getElem?_toList, hs, ← hz']
  have e := mkB_of s
  rw [ByteArray.toList_eq] at e
  exact congrArg (fun x => some (Value.string x)) e.symm

/-- What the nine listed variables give the walks. -/
theorem tx_glob {W : World} (h : laidMetH Tryz.prog txLaid W) : GlobT W :=
  ⟨tx_ety h, ⟨tx_pow h, tx_spc h, tx_syn h, tx_ran h, tx_frm h⟩⟩

/-! ### the program's own start -/
theorem tx_met (os : Os) (args : Array Value) : laidMetH Tryz.prog txLaid ((World.doorLaid Tryz.prog 400 os).forCall (fun _ _ => 0) ⟨#[], args, []⟩).memory :=
  laidMetH_of_parts (laidMet_of_run' 8 (by kernel_rfl) (by kernel_rfl)) (by kernel_rfl)
theorem tx_shaped (os : Os) (args : Array Value) : World.Shaped Tryz.prog ((World.doorLaid Tryz.prog 400 os).forCall (fun _ _ => 0) ⟨#[], args, []⟩) := World.shaped_of_RefB (by kernel_rfl) (by kernel_rfl)
end Go.Proofs.YtcdlchcmidfhiaaGreatDoor
