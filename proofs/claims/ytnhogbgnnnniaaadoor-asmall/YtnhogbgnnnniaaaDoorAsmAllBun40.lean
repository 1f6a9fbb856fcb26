/-
  Helpers: Laid5.
-/
import Derived.Test.YtnhogbgnnnniaaaDoorAsmAllBun33
import Derived.Test.YtnhogbgnnnniaaaDoorAsmAllBun39
import Derived.Lib.LaidTab
import Derived.Stop.LaidErr
namespace Go.Proofs.YtnhogbgnnnniaaaDoor
open Go.RowKit L3
set_option maxRecDepth 4000
open C2 (Tab)

def brui32 : Array Value := (([0, 1, 28, 2, 29, 14, 24, 3, 30, 22, 20, 15, 25, 17, 4, 8, 31, 27, 13, 23, 21, 19, 16, 7, 26, 12, 18, 6, 11, 5, 10, 9] : List Int).map (Value.int .u8)).toArray
def brui64 : Array Value := (([0, 1, 56, 2, 57, 49, 28, 3, 61, 58, 42, 50, 38, 29, 17, 4, 62, 47, 59, 36, 45, 43, 51, 22, 53, 39, 33, 30, 24, 18, 12, 5, 63, 55, 48, 27, 60, 41, 37, 16, 46, 35, 44, 21, 52, 32, 23, 11, 54, 26, 40, 15, 34, 20, 31, 10, 25, 14, 19, 9, 13, 8, 7, 6] : List Int).map (Value.int .u8)).toArray
theorem met_tail {P : Program} {W : World} {x : String × DataW Unit} {rest : List (String × DataW Unit)} (h : laidMet P (x :: rest) W) : laidMet P rest W := laidMet.tail h
theorem pow_of {W : World} {rest : List (String × DataW Unit)} (h : laidMet Tryd.prog (("internal/strconv.uint64pow10", Rows.laid_internal_strconv_uint64pow10) :: rest) W) : PTab W :=
  Lib.tabIs_of_head gPow (t := 152) (e := 146) (n := 20) (by kernel_rfl) Tryd.underlying152 Tryd.underlying146 (by kernel_rfl) (by kernel_rfl) h
theorem tables5 {W : World} (h : laidMetH Tryd.prog [("magpie/code.lasts", Rows.laid_magpie_code_lasts), ("math/bits.deBruijn32tab", Rows.laid_math_bits_deBruijn32tab), ("math/bits.deBruijn64tab", Rows.laid_math_bits_deBruijn64tab), ("internal/strconv.uint64pow10", Rows.laid_internal_strconv_uint64pow10), ("magpie/asm.forms", Rows.laid_magpie_asm_forms)] W) : Tab W ∧ FTab W ∧ PTab W := by
  have h' : laidMet Tryd.prog [("magpie/code.lasts", Rows.laid_magpie_code_lasts), ("math/bits.deBruijn32tab", Rows.laid_math_bits_deBruijn32tab), ("math/bits.deBruijn64tab", Rows.laid_math_bits_deBruijn64tab), ("internal/strconv.uint64pow10", Rows.laid_internal_strconv_uint64pow10), ("magpie/asm.forms", Rows.laid_magpie_asm_forms)] W := h
  have h4 := met_tail (met_tail (met_tail h'))
  have h5 := met_tail h4
  obtain ⟨ps, hps, _⟩ := h'
  obtain ⟨qs, hqs, _⟩ := h5
  exact ⟨C2.table_of hps, forms_of hqs, pow_of h4⟩
end Go.Proofs.YtnhogbgnnnniaaaDoor
