/-
  Helpers: C2Laid, Tab7.
-/
import Derived.Test.YtpmapdialjdcbaaDoorBunebffe6de244d
import Derived.OpenShut
import Derived.Lib.LaidTab
namespace Go.Proofs.YtpmapdialjdcbaaDoor.C2
open Go.RowKit
set_option maxRecDepth 4000

theorem own : ownKnob Tryd.prog.godebug = none := by kernel_rfl
theorem gTab : Tryd.prog.globalNamed "magpie/code.lasts" = some 0 := by kernel_rfl
theorem gTabType : (Tryd.prog.globals[0]?).map (·.type) = some 117 := by kernel_rfl
theorem cellsTab : Tryd.prog.cellsOf 117 = 48 := by kernel_rfl
theorem cellsRow : Tryd.prog.cellsOf 107 = 3 := by kernel_rfl
theorem cellsInt : Tryd.prog.cellsOf 3 = 1 := by kernel_rfl
def rowT (i : Nat) : List Int := [lastsT.getD (3 * i) 0, lastsT.getD (3 * i + 1) 0, lastsT.getD (3 * i + 2) 0]
theorem laid_rows {H : Type} : (Rows.laid_magpie_code_lasts : DataW H) = .agg ((List.range 16).map fun i => Lib.tabData .i64 (rowT i)) := rfl
theorem table_of {W : World} {rest : List (String × DataW Unit)} {ps : List MemPlace} (h : DataW.LaidVars Tryd.prog W (("magpie/code.lasts", Rows.laid_magpie_code_lasts) :: rest) ps) : Tab W := by
  obtain ⟨g', t', cs, fuel, p, q, hg', ht', hvar, hd, _, _⟩ := h
  obtain rfl := Option.some.inj (gTab.symm.trans hg')
  obtain rfl := Option.some.inj (gTabType.symm.trans ht')
  obtain ⟨xs, m, rfl, hx, hl, hxl, hf⟩ := DataW.trod_array Tryd.underlying117 hd
  have hrows : xs.map (·.1) = (List.range 16).map fun i => Lib.tabData .i64 (rowT i) := by
    have := congrArg Prod.fst hx
    rw [laid_rows] at this
    simpa using this.symm
  intro i hi
  have h1 := hf (i / 3) (by omega)
  rw [cellsRow] at h1
  have hlt : i / 3 < xs.length := by omega
  rw [List.getElem?_eq_getElem hlt] at h1
  have hr : xs[i / 3].1 = Lib.tabData .i64 (rowT (i / 3)) := by
    have e := congrArg (·[i / 3]?) hrows
    simp [hlt, show i / 3 < 16 by omega] at e
    exact e
  have h2 : some xs[i / 3] = some (Lib.tabData .i64 (rowT (i / 3)), xs[i / 3].2) := by rw [← hr]
  have h3 := Lib.cells_of_tab Tryd.underlying107 Tryd.underlying3 cellsInt cellsRow (h1.trans h2)
  have h4 := World.var?_cell gTab hvar i
  rw [h4]
  have e : cs[i]? = ((cs.toList.drop (i / 3 * 3)).take 3)[i % 3]? := by
    rw [List.getElem?_take, if_pos (by omega), List.getElem?_drop, Array.getElem?_toList]
    congr 1
    omega
  rw [e, h3]
  have e3 : lastsT.getD i 0 = lastsT.getD (3 * (i / 3) + i % 3) 0 := by congr 1; omega
  rw [e3]
  rcases (by omega : i % 3 = 0 ∨ i % 3 = 1 ∨ i % 3 = 2) with h | h | h <;> rw [h] <;> simp [rowT]
theorem table {W : World} (h : laidMetH Tryd.prog [("magpie/code.lasts", Rows.laid_magpie_code_lasts)] W) : Tab W := by
  have h' : laidMet Tryd.prog [("magpie/code.lasts", Rows.laid_magpie_code_lasts)] W := h
  obtain ⟨ps, hps, _⟩ := h'
  exact table_of hps
end Go.Proofs.YtpmapdialjdcbaaDoor.C2
namespace Go.Proofs.YtpmapdialjdcbaaDoor
open Go.RowKit

theorem own : ownKnob Tryd.prog.godebug = none := C2.own
theorem table {W : World} (h : laidMetH Tryd.prog [("magpie/code.lasts", Rows.laid_magpie_code_lasts)] W) : C2.Tab W := C2.table h
end Go.Proofs.YtpmapdialjdcbaaDoor
