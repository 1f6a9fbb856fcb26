/-
  NARROWER THAN 'FOR EVERY INPUT', by the rows' own cells (each row's printed sentence says how): AsmAll: laid · ValidAll: laid · ValidSpoilt: laid · ValidCounts: laid.
  DERIVED. THE GIVEN ROWS OF THIS SEAT. 4 by the template 'for every input the law returns true; each argument reads behind the call as it read before'; 0 by the template 'total and deterministic' (their statements: YtnhogbgnnnniaaaDoorTotals.lean).
  GIVEN WITH THE SEED: the statements are not yours to turn. If you find one false, say at which input.
  Laid BY PROGRAM, IN A SANDBOX (cutbox-rows.mjs): the forced cells as the released guide's own fill.sh prints them over the translation f6131efb75f91cab… (all of the seat's roots in one cut). By AI agents, Wed Nov 11 2026. No macro, syntax, notation, axiom, sorry.
-/
import Derived.Test.YtnhogbgnnnniaaaDoorChecked
import GoSem.Claim
import GoSem.ClaimJoined
import GoSem.ClaimMapViews
import Derived.JoinedTies
import Derived.KernelRfl
namespace Go.Proofs.YtnhogbgnnnniaaaDoor
/- THE CELL 'sum', in the pinned program and in every row, IS THE sha256 OF THE DUMP (.gsa) THAT YtnhogbgnnnniaaaDoorProg.lean LOADS. Nothing in Lean hashes anything: it is a label: what it is worth is what the hold of that sum in a sandbox is worth. -/
noncomputable def Tryd.pinned : Pinned := { name := "ytnhogbgnnnniaaadoor", sum := "f6131efb75f91cabf2206fb17660f924afa9ad79b921656601115b214a820c5d", checked := Tryd.checked }
namespace Rows
def none {H : Type} : Left H := { results := [], args := [] }

/- WHAT THE LISTED PACKAGE-LEVEL VARIABLES READ AS WHEN THE CALL BEGINS. Each datum BY PROGRAM (the guide's laid-datum.mjs) off the statement by which the dump's own 'gosem.cut.vars' lays the variable. In a bare row this is a premise. The card (YtnhogbgnnnniaaaDoorCards.lean) ties it to the program's text. -/
def laid_magpie_code_lasts {H : Type} : DataW H := .agg [.agg [.lit (.int .i64 0), .lit (.int .i64 0), .lit (.int .i64 0)], .agg [.lit (.int .i64 7), .lit (.int .i64 2147483647), .lit (.int .i64 0)], .agg [.lit (.int .i64 7), .lit (.int .i64 7), .lit (.int .i64 7)], .agg [.lit (.int .i64 7), .lit (.int .i64 7), .lit (.int .i64 7)], .agg [.lit (.int .i64 7), .lit (.int .i64 7), .lit (.int .i64 7)], .agg [.lit (.int .i64 7), .lit (.int .i64 7), .lit (.int .i64 7)], .agg [.lit (.int .i64 7), .lit (.int .i64 7), .lit (.int .i64 7)], .agg [.lit (.int .i64 39), .lit (.int .i64 0), .lit (.int .i64 0)], .agg [.lit (.int .i64 7), .lit (.int .i64 39), .lit (.int .i64 0)], .agg [.lit (.int .i64 3), .lit (.int .i64 11), .lit (.int .i64 7)], .agg [.lit (.int .i64 7), .lit (.int .i64 3), .lit (.int .i64 0)], .agg [.lit (.int .i64 15), .lit (.int .i64 7), .lit (.int .i64 0)], .agg [.lit (.int .i64 7), .lit (.int .i64 15), .lit (.int .i64 0)], .agg [.lit (.int .i64 3), .lit (.int .i64 0), .lit (.int .i64 0)], .agg [.lit (.int .i64 0), .lit (.int .i64 0), .lit (.int .i64 0)], .agg [.lit (.int .i64 7), .lit (.int .i64 0), .lit (.int .i64 0)]]
def laid_math_bits_deBruijn32tab {H : Type} : DataW H := .agg [.lit (.int .u8 0), .lit (.int .u8 1), .lit (.int .u8 28), .lit (.int .u8 2), .lit (.int .u8 29), .lit (.int .u8 14), .lit (.int .u8 24), .lit (.int .u8 3), .lit (.int .u8 30), .lit (.int .u8 22), .lit (.int .u8 20), .lit (.int .u8 15), .lit (.int .u8 25), .lit (.int .u8 17), .lit (.int .u8 4), .lit (.int .u8 8), .lit (.int .u8 31), .lit (.int .u8 27), .lit (.int .u8 13), .lit (.int .u8 23), .lit (.int .u8 21), .lit (.int .u8 19), .lit (.int .u8 16), .lit (.int .u8 7), .lit (.int .u8 26), .lit (.int .u8 12), .lit (.int .u8 18), .lit (.int .u8 6), .lit (.int .u8 11), .lit (.int .u8 5), .lit (.int .u8 10), .lit (.int .u8 9)]
def laid_math_bits_deBruijn64tab {H : Type} : DataW H := .agg [.lit (.int .u8 0), .lit (.int .u8 1), .lit (.int .u8 56), .lit (.int .u8 2), .lit (.int .u8 57), .lit (.int .u8 49), .lit (.int .u8 28), .lit (.int .u8 3), .lit (.int .u8 61), .lit (.int .u8 58), .lit (.int .u8 42), .lit (.int .u8 50), .lit (.int .u8 38), .lit (.int .u8 29), .lit (.int .u8 17), .lit (.int .u8 4), .lit (.int .u8 62), .lit (.int .u8 47), .lit (.int .u8 59), .lit (.int .u8 36), .lit (.int .u8 45), .lit (.int .u8 43), .lit (.int .u8 51), .lit (.int .u8 22), .lit (.int .u8 53), .lit (.int .u8 39), .lit (.int .u8 33), .lit (.int .u8 30), .lit (.int .u8 24), .lit (.int .u8 18), .lit (.int .u8 12), .lit (.int .u8 5), .lit (.int .u8 63), .lit (.int .u8 55), .lit (.int .u8 48), .lit (.int .u8 27), .lit (.int .u8 60), .lit (.int .u8 41), .lit (.int .u8 37), .lit (.int .u8 16), .lit (.int .u8 46), .lit (.int .u8 35), .lit (.int .u8 44), .lit (.int .u8 21), .lit (.int .u8 52), .lit (.int .u8 32), .lit (.int .u8 23), .lit (.int .u8 11), .lit (.int .u8 54), .lit (.int .u8 26), .lit (.int .u8 40), .lit (.int .u8 15), .lit (.int .u8 34), .lit (.int .u8 20), .lit (.int .u8 31), .lit (.int .u8 10), .lit (.int .u8 25), .lit (.int .u8 14), .lit (.int .u8 19), .lit (.int .u8 9), .lit (.int .u8 13), .lit (.int .u8 8), .lit (.int .u8 7), .lit (.int .u8 6)]
def laid_internal_strconv_uint64pow10 {H : Type} : DataW H := .agg [.lit (.int .u64 1), .lit (.int .u64 10), .lit (.int .u64 100), .lit (.int .u64 1000), .lit (.int .u64 10000), .lit (.int .u64 100000), .lit (.int .u64 1000000), .lit (.int .u64 10000000), .lit (.int .u64 100000000), .lit (.int .u64 1000000000), .lit (.int .u64 10000000000), .lit (.int .u64 100000000000), .lit (.int .u64 1000000000000), .lit (.int .u64 10000000000000), .lit (.int .u64 100000000000000), .lit (.int .u64 1000000000000000), .lit (.int .u64 10000000000000000), .lit (.int .u64 100000000000000000), .lit (.int .u64 1000000000000000000), .lit (.int .u64 10000000000000000000)]
def laid_magpie_asm_forms {H : Type} : DataW H := .agg [.agg [.lit (.string []), .lit (.int .i64 0)], .agg [.lit (.string [99, 111, 110, 115, 116]), .lit (.int .i64 2)], .agg [.lit (.string [97, 100, 100]), .lit (.int .i64 3)], .agg [.lit (.string [115, 117, 98]), .lit (.int .i64 3)], .agg [.lit (.string [109, 117, 108]), .lit (.int .i64 3)], .agg [.lit (.string [100, 105, 118]), .lit (.int .i64 3)], .agg [.lit (.string [108, 101, 115, 115]), .lit (.int .i64 3)], .agg [.lit (.string [106, 117, 109, 112]), .lit (.int .i64 1)], .agg [.lit (.string [122, 101, 114, 111]), .lit (.int .i64 2)], .agg [.lit (.string [102, 111, 114, 107]), .lit (.int .i64 3)], .agg [.lit (.string [106, 111, 105, 110]), .lit (.int .i64 2)], .agg [.lit (.string [115, 101, 116]), .lit (.int .i64 2)], .agg [.lit (.string [103, 101, 116]), .lit (.int .i64 2)], .agg [.lit (.string [99, 97, 110, 99, 101, 108]), .lit (.int .i64 1)], .agg [.lit (.string [121, 105, 101, 108, 100]), .lit (.int .i64 0)], .agg [.lit (.string [114, 101, 116]), .lit (.int .i64 1)], .agg [.lit (.string [102, 117, 116, 117, 114, 101, 115]), .lit (.int .i64 1)], .agg [.lit (.string [100, 101, 112, 116, 104]), .lit (.int .i64 1)], .agg [.lit (.string [102, 117, 101, 108]), .lit (.int .i64 1)], .agg [.lit (.string [102, 117, 110, 99, 116, 105, 111, 110]), .lit (.int .i64 0)]]

/-- 'magpielaw04.AsmAll': WHATEVER THE INPUT: true; the input reads as it did. -/
def asmAllSpec : ChangeSpec := { name := "asmAll", fn := fun _ => fun
  | [d1, d2] => { results := [.lit (.bool true)], args := [d1, d2] }
  | _ => none }
def asmAllRow : OpenClaim := { program := "ytnhogbgnnnniaaadoor", sum := "f6131efb75f91cabf2206fb17660f924afa9ad79b921656601115b214a820c5d", func := "magpie/magpielaw04.AsmAll", spec := "asmAll", inPlace := ["internal/abi.NoEscape"], recurses := true, named := ["magpie/asm.forms", "magpie/code.lasts", "internal/strconv.uint64pow10", "math/bits.deBruijn32tab", "math/bits.deBruijn64tab"], apart := false, laid := [("magpie/code.lasts", laid_magpie_code_lasts), ("math/bits.deBruijn32tab", laid_math_bits_deBruijn32tab), ("math/bits.deBruijn64tab", laid_math_bits_deBruijn64tab), ("internal/strconv.uint64pow10", laid_internal_strconv_uint64pow10), ("magpie/asm.forms", laid_magpie_asm_forms)] }
def AsmAllSaid : Prop := asmAllRow.holds Tryd.pinned (OpenSpec.ofChange asmAllSpec)

/-- ITS FALSE NEIGHBOUR: 'it returns false'. Refute it at one input. -/
def asmAllWrong : ChangeSpec := { name := "asmAll", fn := fun _ => fun
  | [d1, d2] => { results := [.lit (.bool false)], args := [d1, d2] }
  | _ => none }
def AsmAllWrongFalsely : Prop := asmAllRow.holds Tryd.pinned (OpenSpec.ofChange asmAllWrong)

/-- 'magpielaw05.ValidAll': WHATEVER THE INPUT: true; the input reads as it did. -/
def validAllSpec : ChangeSpec := { name := "validAll", fn := fun _ => fun
  | [d] => { results := [.lit (.bool true)], args := [d] }
  | _ => none }
def validAllRow : OpenClaim := { program := "ytnhogbgnnnniaaadoor", sum := "f6131efb75f91cabf2206fb17660f924afa9ad79b921656601115b214a820c5d", func := "magpie/magpielaw05.ValidAll", spec := "validAll", unfollowed := true, recurses := true, named := ["magpie/code.lasts"], apart := false, laid := [("magpie/code.lasts", laid_magpie_code_lasts)] }
def ValidAllSaid : Prop := validAllRow.holds Tryd.pinned (OpenSpec.ofChange validAllSpec)

/-- ITS FALSE NEIGHBOUR: 'it returns false'. Refute it at one input. -/
def validAllWrong : ChangeSpec := { name := "validAll", fn := fun _ => fun
  | [d] => { results := [.lit (.bool false)], args := [d] }
  | _ => none }
def ValidAllWrongFalsely : Prop := validAllRow.holds Tryd.pinned (OpenSpec.ofChange validAllWrong)

/-- 'magpielaw05.ValidSpoilt': WHATEVER THE INPUT: true; the input reads as it did. -/
def validSpoiltSpec : ChangeSpec := { name := "validSpoilt", fn := fun _ => fun
  | [d1, d2, d3] => { results := [.lit (.bool true)], args := [d1, d2, d3] }
  | _ => none }
def validSpoiltRow : OpenClaim := { program := "ytnhogbgnnnniaaadoor", sum := "f6131efb75f91cabf2206fb17660f924afa9ad79b921656601115b214a820c5d", func := "magpie/magpielaw05.ValidSpoilt", spec := "validSpoilt", unfollowed := true, recurses := true, named := ["magpie/code.lasts"], apart := false, laid := [("magpie/code.lasts", laid_magpie_code_lasts)] }
def ValidSpoiltSaid : Prop := validSpoiltRow.holds Tryd.pinned (OpenSpec.ofChange validSpoiltSpec)

/-- ITS FALSE NEIGHBOUR: 'it returns false'. Refute it at one input. -/
def validSpoiltWrong : ChangeSpec := { name := "validSpoilt", fn := fun _ => fun
  | [d1, d2, d3] => { results := [.lit (.bool false)], args := [d1, d2, d3] }
  | _ => none }
def ValidSpoiltWrongFalsely : Prop := validSpoiltRow.holds Tryd.pinned (OpenSpec.ofChange validSpoiltWrong)

/-- 'magpielaw05.ValidCounts': WHATEVER THE INPUT: true; the input reads as it did. -/
def validCountsSpec : ChangeSpec := { name := "validCounts", fn := fun _ => fun
  | [d1, d2] => { results := [.lit (.bool true)], args := [d1, d2] }
  | _ => none }
def validCountsRow : OpenClaim := { program := "ytnhogbgnnnniaaadoor", sum := "f6131efb75f91cabf2206fb17660f924afa9ad79b921656601115b214a820c5d", func := "magpie/magpielaw05.ValidCounts", spec := "validCounts", unfollowed := true, recurses := true, named := ["magpie/code.lasts"], apart := false, laid := [("magpie/code.lasts", laid_magpie_code_lasts)] }
def ValidCountsSaid : Prop := validCountsRow.holds Tryd.pinned (OpenSpec.ofChange validCountsSpec)

/-- ITS FALSE NEIGHBOUR: 'it returns false'. Refute it at one input. -/
def validCountsWrong : ChangeSpec := { name := "validCounts", fn := fun _ => fun
  | [d1, d2] => { results := [.lit (.bool false)], args := [d1, d2] }
  | _ => none }
def ValidCountsWrongFalsely : Prop := validCountsRow.holds Tryd.pinned (OpenSpec.ofChange validCountsWrong)

/- THE SECOND FORM. 'bulk': how many values and letters a reading holds, each counted each time it is reached (what is shared counts as often as it is met; a slice's spare places count too). A statement '..UptoSaid' is the law's where the arguments, and the package variables that the reading takes, are together of bulk at most 1048576: NARROWER than '..Said'. Prove '..Said' where nothing that the law and all that it calls make is longer than what came in: it says more and counts as full. Else prove '..UptoSaid'. A law counts once. -/
mutual
def uptoBulk {H : Type} : DataW H → Nat
  | .lit (.string bytes) => bytes.length + 1
  | .lit _ => 1
  | .nil => 1
  | .ptr d => uptoBulk d + 1
  | .slice elems spare => uptoBulkAll elems + uptoBulkAll spare + 1
  | .agg parts => uptoBulkAll parts + 1
  | .iface _ d => uptoBulk d + 1
  | .map entries => uptoBulkEntries entries + 1
  | .held _ => 1
def uptoBulkAll {H : Type} : List (DataW H) → Nat
  | [] => 0
  | d :: r => uptoBulk d + uptoBulkAll r
def uptoBulkEntries {H : Type} : List (Lit × DataW H) → Nat
  | [] => 0
  | x :: r => uptoBulkEntry x + uptoBulkEntries r
def uptoBulkEntry {H : Type} : Lit × DataW H → Nat
  | (.string bytes, d) => bytes.length + uptoBulk d + 1
  | (_, d) => uptoBulk d + 1
 end
def uptoSmall : (H : Type) → List (DataW H) → Bool := fun _ ds => decide (uptoBulkAll ds ≤ 1048576)
def OpenSpec.upto (s : _root_.Go.ChangeSpec) : _root_.Go.OpenSpec := { _root_.Go.OpenSpec.ofChange s with cond := some uptoSmall }

/-- 'magpielaw04.AsmAll', WHERE WHAT IT READS IS OF BULK AT MOST 1048576: true; the input reads as it did. -/
def asmAllUptoRow : OpenClaim := { program := "ytnhogbgnnnniaaadoor", sum := "f6131efb75f91cabf2206fb17660f924afa9ad79b921656601115b214a820c5d", func := "magpie/magpielaw04.AsmAll", spec := "asmAll", inPlace := ["internal/abi.NoEscape"], recurses := true, named := ["magpie/asm.forms", "magpie/code.lasts", "internal/strconv.uint64pow10", "math/bits.deBruijn32tab", "math/bits.deBruijn64tab"], apart := false, laid := [("magpie/code.lasts", laid_magpie_code_lasts), ("math/bits.deBruijn32tab", laid_math_bits_deBruijn32tab), ("math/bits.deBruijn64tab", laid_math_bits_deBruijn64tab), ("internal/strconv.uint64pow10", laid_internal_strconv_uint64pow10), ("magpie/asm.forms", laid_magpie_asm_forms)], narrowed := true }
def AsmAllUptoSaid : Prop := asmAllUptoRow.holds Tryd.pinned (OpenSpec.upto asmAllSpec)

/-- 'magpielaw05.ValidAll', WHERE WHAT IT READS IS OF BULK AT MOST 1048576: true; the input reads as it did. -/
def validAllUptoRow : OpenClaim := { program := "ytnhogbgnnnniaaadoor", sum := "f6131efb75f91cabf2206fb17660f924afa9ad79b921656601115b214a820c5d", func := "magpie/magpielaw05.ValidAll", spec := "validAll", unfollowed := true, recurses := true, named := ["magpie/code.lasts"], apart := false, laid := [("magpie/code.lasts", laid_magpie_code_lasts)], narrowed := true }
def ValidAllUptoSaid : Prop := validAllUptoRow.holds Tryd.pinned (OpenSpec.upto validAllSpec)

/-- 'magpielaw05.ValidSpoilt', WHERE WHAT IT READS IS OF BULK AT MOST 1048576: true; the input reads as it did. -/
def validSpoiltUptoRow : OpenClaim := { program := "ytnhogbgnnnniaaadoor", sum := "f6131efb75f91cabf2206fb17660f924afa9ad79b921656601115b214a820c5d", func := "magpie/magpielaw05.ValidSpoilt", spec := "validSpoilt", unfollowed := true, recurses := true, named := ["magpie/code.lasts"], apart := false, laid := [("magpie/code.lasts", laid_magpie_code_lasts)], narrowed := true }
def ValidSpoiltUptoSaid : Prop := validSpoiltUptoRow.holds Tryd.pinned (OpenSpec.upto validSpoiltSpec)

/-- 'magpielaw05.ValidCounts', WHERE WHAT IT READS IS OF BULK AT MOST 1048576: true; the input reads as it did. -/
def validCountsUptoRow : OpenClaim := { program := "ytnhogbgnnnniaaadoor", sum := "f6131efb75f91cabf2206fb17660f924afa9ad79b921656601115b214a820c5d", func := "magpie/magpielaw05.ValidCounts", spec := "validCounts", unfollowed := true, recurses := true, named := ["magpie/code.lasts"], apart := false, laid := [("magpie/code.lasts", laid_magpie_code_lasts)], narrowed := true }
def ValidCountsUptoSaid : Prop := validCountsUptoRow.holds Tryd.pinned (OpenSpec.upto validCountsSpec)

end Rows
end Go.Proofs.YtnhogbgnnnniaaaDoor
