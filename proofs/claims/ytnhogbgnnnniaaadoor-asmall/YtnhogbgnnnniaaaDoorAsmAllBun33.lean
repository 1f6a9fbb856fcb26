/-
  Helpers: Laid4.
-/
import Derived.Test.YtnhogbgnnnniaaaDoorAsmAllBun5
import Derived.Test.YtnhogbgnnnniaaaDoorAsmAllBun28
import Derived.ChangeSame
namespace Go.Proofs.YtnhogbgnnnniaaaDoor
open Go.RowKit L3
set_option maxRecDepth 4000
open C2 (Tab)

theorem gForms : Tryd.prog.globalNamed "magpie/asm.forms" = some 0 := by kernel_rfl
theorem gFormsType : (Tryd.prog.globals[0]?).map (·.type) = some 121 := by kernel_rfl
theorem cellsForm : Tryd.prog.cellsOf 120 = 2 := by kernel_rfl
theorem cellsStr : Tryd.prog.cellsOf 9 = 1 := by kernel_rfl
def formD {H : Type} (i : Nat) : DataW H := .agg [.lit (.string (wordOf i)), .lit (.int .i64 (opsOf i))]
theorem laid_forms {H : Type} : (Rows.laid_magpie_asm_forms : DataW H) = .agg ((List.range 20).map formD) := rfl
theorem laid_tail {P : Program} {W : World} {x : String × DataW Unit} {rest : List (String × DataW Unit)} {ps : List MemPlace} (h : DataW.LaidVars P W (x :: rest) ps) : ∃ q, DataW.LaidVars P W rest q := by
  obtain ⟨n, d⟩ := x
  obtain ⟨_, _, _, _, _, q, _, _, _, _, hq, _⟩ := h
  exact ⟨q, hq⟩
theorem forms_of {W : World} {rest : List (String × DataW Unit)} {ps : List MemPlace} (h : DataW.LaidVars Tryd.prog W (("magpie/asm.forms", Rows.laid_magpie_asm_forms) :: rest) ps) : FTab W := by
  obtain ⟨g', t', cs, fuel, p, q, hg', ht', hvar, hd, _, _⟩ := h
  obtain rfl := Option.some.inj (gForms.symm.trans hg')
  obtain rfl := Option.some.inj (gFormsType.symm.trans ht')
  obtain ⟨xs, m, rfl, hx, hl, hxl, hf⟩ := DataW.trod_array Tryd.underlying121 hd
  have hrows : xs.map (·.1) = (List.range 20).map formD := by
    have := congrArg Prod.fst hx
    rw [laid_forms] at this
    simpa using this.symm
  intro i hi
  have h1 := hf i (by omega)
  rw [cellsForm] at h1
  have hlt : i < xs.length := by omega
  rw [List.getElem?_eq_getElem hlt] at h1
  have hr : xs[i].1 = formD i := by
    have e := congrArg (·[i]?) hrows
    simp [hlt, hi] at e
    exact e
  obtain ⟨y0, y1, n, e, hcs, h2, h3⟩ := ChangeShapes.trod_struct2 Tryd.underlying120 h1
  obtain ⟨s, es, ex, _⟩ := DataW.trod_string Tryd.underlying9 h2
  obtain ⟨z, ez, ey, _⟩ := DataW.trod_int Tryd.underlying3 h3
  have e1 : formD i = (.agg [y0.1, y1.1] : DataW Unit) := by rw [← hr, e]
  rw [ex, ey] at e1
  simp only [formD, DataW.agg.injEq, List.cons.injEq, DataW.lit.injEq, Lit.string.injEq, Lit.int.injEq, and_true, true_and] at e1
  obtain ⟨e2, e3⟩ := e1
  have h4 := World.var?_cell gForms hvar
  have q0 : cs[i * 2]? = some (.string s) := by
    have := congrArg (·[0]?) es
    simpa [cellsStr] using this
  have q1 : cs[i * 2 + 1]? = some (.int .i64 z) := by
    have := congrArg (·[0]?) ez
    simpa [C2.cellsInt] using this
  refine ⟨?_, ?_⟩
  · rw [h4 (i * 2), q0, e2, strB_of]
  · rw [h4 (i * 2 + 1), q1, e3]
theorem own : ownKnob Tryd.prog.godebug = none := C2.own
/-- the table's cells -/
def formsV : Array Value := (formsT.flatMap fun p => [Value.string (strB p.1), .int .i64 p.2]).toArray
theorem tables2 {W : World} (h : laidMetH Tryd.prog [("magpie/code.lasts", Rows.laid_magpie_code_lasts), ("magpie/asm.forms", Rows.laid_magpie_asm_forms)] W) : Tab W ∧ FTab W := by
  have h' : laidMet Tryd.prog [("magpie/code.lasts", Rows.laid_magpie_code_lasts), ("magpie/asm.forms", Rows.laid_magpie_asm_forms)] W := h
  obtain ⟨ps, hps, _⟩ := h'
  obtain ⟨q, hq⟩ := laid_tail hps
  exact ⟨C2.table_of hps, forms_of hq⟩
end Go.Proofs.YtnhogbgnnnniaaaDoor
