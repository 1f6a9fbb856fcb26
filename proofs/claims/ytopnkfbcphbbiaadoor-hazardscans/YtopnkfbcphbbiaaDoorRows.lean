/-
  NARROWER THAN 'FOR EVERY INPUT', by the rows' own cells (each row's printed sentence says how): HazardScans: laid · HazardKeeps: laid · HazardWords: laid · HazardTwice: laid · HazardOthers: laid.
  DERIVED. THE GIVEN ROWS OF THIS SEAT. 5 by the template 'for every input the law returns true; each argument reads behind the call as it read before'; 0 by the template 'total and deterministic' (their statements: YtopnkfbcphbbiaaDoorTotals.lean).
  GIVEN WITH THE SEED: the statements are not yours to turn. If you find one false, say at which input.
  Laid BY PROGRAM, IN A SANDBOX (cutbox-rows.mjs): the forced cells as the released guide's own fill.sh prints them over the translation b6602e369df8c0da… (all of the seat's roots in one cut). By AI agents, Wed Nov 11 2026. No macro, syntax, notation, axiom, sorry.
-/
import Derived.Test.YtopnkfbcphbbiaaDoorChecked
import GoSem.Claim
import GoSem.ClaimJoined
import GoSem.ClaimMapViews
import Derived.JoinedTies
import Derived.KernelRfl
namespace Go.Proofs.YtopnkfbcphbbiaaDoor
/- THE CELL 'sum', in the pinned program and in every row, IS THE sha256 OF THE DUMP (.gsa) THAT YtopnkfbcphbbiaaDoorProg.lean LOADS. Nothing in Lean hashes anything: it is a label: what it is worth is what the hold of that sum in a sandbox is worth. -/
noncomputable def Tryd.pinned : Pinned := { name := "ytopnkfbcphbbiaadoor", sum := "b6602e369df8c0daab874d1c7ef0bc61aa66d3cf2f31907b0c9b788a2cf29b71", checked := Tryd.checked }
namespace Rows
def none {H : Type} : Left H := { results := [], args := [] }

/- WHAT THE LISTED PACKAGE-LEVEL VARIABLES READ AS WHEN THE CALL BEGINS. Each datum BY PROGRAM (the guide's laid-datum.mjs) off the statement by which the dump's own 'gosem.cut.vars' lays the variable. In a bare row this is a premise. The card (YtopnkfbcphbbiaaDoorCards.lean) ties it to the program's text. -/
def laid_magpie_handle_sizes {H : Type} : DataW H := .agg [.lit (.int .i64 8), .lit (.int .i64 16), .lit (.int .i64 32), .lit (.int .i64 64)]
def laid_magpie_handle_fields {H : Type} : DataW H := .agg [.agg [.lit (.int .i64 32), .lit (.int .i64 0), .lit (.int .i64 65535)], .agg [.lit (.int .i64 2), .lit (.int .i64 1), .lit (.int .i64 1073741823)], .agg [.lit (.int .i64 0), .lit (.int .i64 0), .lit (.int .i64 3)]]

/-- 'magpielaw12.HazardScans': WHATEVER THE INPUT: true; the input reads as it did. -/
def hazardScansSpec : ChangeSpec := { name := "hazardScans", fn := fun _ => fun
  | [d1, d2, d3, d4] => { results := [.lit (.bool true)], args := [d1, d2, d3, d4] }
  | _ => none }
def hazardScansRow : OpenClaim := { program := "ytopnkfbcphbbiaadoor", sum := "b6602e369df8c0daab874d1c7ef0bc61aa66d3cf2f31907b0c9b788a2cf29b71", func := "magpie/magpielaw12.HazardScans", spec := "hazardScans", unfollowed := true, recurses := true, named := ["magpie/handle.sizes", "magpie/handle.fields"], apart := false, laid := [("magpie/handle.sizes", laid_magpie_handle_sizes), ("magpie/handle.fields", laid_magpie_handle_fields)] }
def HazardScansSaid : Prop := hazardScansRow.holds Tryd.pinned (OpenSpec.ofChange hazardScansSpec)

/-- ITS FALSE NEIGHBOUR: 'it returns false'. Refute it at one input. -/
def hazardScansWrong : ChangeSpec := { name := "hazardScans", fn := fun _ => fun
  | [d1, d2, d3, d4] => { results := [.lit (.bool false)], args := [d1, d2, d3, d4] }
  | _ => none }
def HazardScansWrongFalsely : Prop := hazardScansRow.holds Tryd.pinned (OpenSpec.ofChange hazardScansWrong)

/-- 'magpielaw12.HazardKeeps': WHATEVER THE INPUT: true; the input reads as it did. -/
def hazardKeepsSpec : ChangeSpec := { name := "hazardKeeps", fn := fun _ => fun
  | [d1, d2] => { results := [.lit (.bool true)], args := [d1, d2] }
  | _ => none }
def hazardKeepsRow : OpenClaim := { program := "ytopnkfbcphbbiaadoor", sum := "b6602e369df8c0daab874d1c7ef0bc61aa66d3cf2f31907b0c9b788a2cf29b71", func := "magpie/magpielaw12.HazardKeeps", spec := "hazardKeeps", unfollowed := true, recurses := true, named := ["magpie/handle.fields", "magpie/handle.sizes"], apart := false, laid := [("magpie/handle.sizes", laid_magpie_handle_sizes), ("magpie/handle.fields", laid_magpie_handle_fields)] }
def HazardKeepsSaid : Prop := hazardKeepsRow.holds Tryd.pinned (OpenSpec.ofChange hazardKeepsSpec)

/-- ITS FALSE NEIGHBOUR: 'it returns false'. Refute it at one input. -/
def hazardKeepsWrong : ChangeSpec := { name := "hazardKeeps", fn := fun _ => fun
  | [d1, d2] => { results := [.lit (.bool false)], args := [d1, d2] }
  | _ => none }
def HazardKeepsWrongFalsely : Prop := hazardKeepsRow.holds Tryd.pinned (OpenSpec.ofChange hazardKeepsWrong)

/-- 'magpielaw12.HazardWords': WHATEVER THE INPUT: true; the input reads as it did. -/
def hazardWordsSpec : ChangeSpec := { name := "hazardWords", fn := fun _ => fun
  | [d1, d2, d3, d4] => { results := [.lit (.bool true)], args := [d1, d2, d3, d4] }
  | _ => none }
def hazardWordsRow : OpenClaim := { program := "ytopnkfbcphbbiaadoor", sum := "b6602e369df8c0daab874d1c7ef0bc61aa66d3cf2f31907b0c9b788a2cf29b71", func := "magpie/magpielaw12.HazardWords", spec := "hazardWords", unfollowed := true, recurses := true, named := ["magpie/handle.sizes"], apart := false, laid := [("magpie/handle.sizes", laid_magpie_handle_sizes)] }
def HazardWordsSaid : Prop := hazardWordsRow.holds Tryd.pinned (OpenSpec.ofChange hazardWordsSpec)

/-- ITS FALSE NEIGHBOUR: 'it returns false'. Refute it at one input. -/
def hazardWordsWrong : ChangeSpec := { name := "hazardWords", fn := fun _ => fun
  | [d1, d2, d3, d4] => { results := [.lit (.bool false)], args := [d1, d2, d3, d4] }
  | _ => none }
def HazardWordsWrongFalsely : Prop := hazardWordsRow.holds Tryd.pinned (OpenSpec.ofChange hazardWordsWrong)

/-- 'magpielaw12.HazardTwice': WHATEVER THE INPUT: true; the input reads as it did. -/
def hazardTwiceSpec : ChangeSpec := { name := "hazardTwice", fn := fun _ => fun
  | [d1, d2, d3, d4] => { results := [.lit (.bool true)], args := [d1, d2, d3, d4] }
  | _ => none }
def hazardTwiceRow : OpenClaim := { program := "ytopnkfbcphbbiaadoor", sum := "b6602e369df8c0daab874d1c7ef0bc61aa66d3cf2f31907b0c9b788a2cf29b71", func := "magpie/magpielaw12.HazardTwice", spec := "hazardTwice", unfollowed := true, recurses := true, named := ["magpie/handle.sizes"], apart := false, laid := [("magpie/handle.sizes", laid_magpie_handle_sizes)] }
def HazardTwiceSaid : Prop := hazardTwiceRow.holds Tryd.pinned (OpenSpec.ofChange hazardTwiceSpec)

/-- ITS FALSE NEIGHBOUR: 'it returns false'. Refute it at one input. -/
def hazardTwiceWrong : ChangeSpec := { name := "hazardTwice", fn := fun _ => fun
  | [d1, d2, d3, d4] => { results := [.lit (.bool false)], args := [d1, d2, d3, d4] }
  | _ => none }
def HazardTwiceWrongFalsely : Prop := hazardTwiceRow.holds Tryd.pinned (OpenSpec.ofChange hazardTwiceWrong)

/-- 'magpielaw12.HazardOthers': WHATEVER THE INPUT: true; the input reads as it did. -/
def hazardOthersSpec : ChangeSpec := { name := "hazardOthers", fn := fun _ => fun
  | [d1, d2] => { results := [.lit (.bool true)], args := [d1, d2] }
  | _ => none }
def hazardOthersRow : OpenClaim := { program := "ytopnkfbcphbbiaadoor", sum := "b6602e369df8c0daab874d1c7ef0bc61aa66d3cf2f31907b0c9b788a2cf29b71", func := "magpie/magpielaw12.HazardOthers", spec := "hazardOthers", unfollowed := true, recurses := true, named := ["magpie/handle.sizes"], apart := false, laid := [("magpie/handle.sizes", laid_magpie_handle_sizes)] }
def HazardOthersSaid : Prop := hazardOthersRow.holds Tryd.pinned (OpenSpec.ofChange hazardOthersSpec)

/-- ITS FALSE NEIGHBOUR: 'it returns false'. Refute it at one input. -/
def hazardOthersWrong : ChangeSpec := { name := "hazardOthers", fn := fun _ => fun
  | [d1, d2] => { results := [.lit (.bool false)], args := [d1, d2] }
  | _ => none }
def HazardOthersWrongFalsely : Prop := hazardOthersRow.holds Tryd.pinned (OpenSpec.ofChange hazardOthersWrong)

/- THE SECOND FORM. 'bulk': how many values and letters a reading holds, each counted each time it is reached (what is shared counts as often as it is met; a slice's spare places count too). A statement '..UptoSaid' is the law's where the arguments, and the package variables that the reading takes, are together of bulk at most 1048576: NARROWER than '..Said'. Prove '..Said' where nothing that the law and all that it calls make is longer than what came in: it says more and counts as full. Else prove '..UptoSaid'. A law counts once. -/
mutual
def uptoBulk {H : Type} : DataW H → Nat
  | .lit (.string bytes) => bytes.length + 1
  | .lit _ => 1
  | .nil => 1
  | .ptr d => uptoBulk d + 1
  | .slice elems spare => uptoBulkAll elems + uptoBulkAll spare + 1
  | .agg parts => uptoBulkAll parts + 1
  | .iface _ d => uptoBulk d + 1
  | .map entries => uptoBulkEntries entries + 1
  | .held _ => 1
def uptoBulkAll {H : Type} : List (DataW H) → Nat
  | [] => 0
  | d :: r => uptoBulk d + uptoBulkAll r
def uptoBulkEntries {H : Type} : List (Lit × DataW H) → Nat
  | [] => 0
  | x :: r => uptoBulkEntry x + uptoBulkEntries r
def uptoBulkEntry {H : Type} : Lit × DataW H → Nat
  | (.string bytes, d) => bytes.length + uptoBulk d + 1
  | (_, d) => uptoBulk d + 1
 end
def uptoSmall : (H : Type) → List (DataW H) → Bool := fun _ ds => decide (uptoBulkAll ds ≤ 1048576)
def OpenSpec.upto (s : _root_.Go.ChangeSpec) : _root_.Go.OpenSpec := { _root_.Go.OpenSpec.ofChange s with cond := some uptoSmall }

/-- 'magpielaw12.HazardScans', WHERE WHAT IT READS IS OF BULK AT MOST 1048576: true; the input reads as it did. -/
def hazardScansUptoRow : OpenClaim := { program := "ytopnkfbcphbbiaadoor", sum := "b6602e369df8c0daab874d1c7ef0bc61aa66d3cf2f31907b0c9b788a2cf29b71", func := "magpie/magpielaw12.HazardScans", spec := "hazardScans", unfollowed := true, recurses := true, named := ["magpie/handle.sizes", "magpie/handle.fields"], apart := false, laid := [("magpie/handle.sizes", laid_magpie_handle_sizes), ("magpie/handle.fields", laid_magpie_handle_fields)], narrowed := true }
def HazardScansUptoSaid : Prop := hazardScansUptoRow.holds Tryd.pinned (OpenSpec.upto hazardScansSpec)

/-- 'magpielaw12.HazardKeeps', WHERE WHAT IT READS IS OF BULK AT MOST 1048576: true; the input reads as it did. -/
def hazardKeepsUptoRow : OpenClaim := { program := "ytopnkfbcphbbiaadoor", sum := "b6602e369df8c0daab874d1c7ef0bc61aa66d3cf2f31907b0c9b788a2cf29b71", func := "magpie/magpielaw12.HazardKeeps", spec := "hazardKeeps", unfollowed := true, recurses := true, named := ["magpie/handle.fields", "magpie/handle.sizes"], apart := false, laid := [("magpie/handle.sizes", laid_magpie_handle_sizes), ("magpie/handle.fields", laid_magpie_handle_fields)], narrowed := true }
def HazardKeepsUptoSaid : Prop := hazardKeepsUptoRow.holds Tryd.pinned (OpenSpec.upto hazardKeepsSpec)

/-- 'magpielaw12.HazardWords', WHERE WHAT IT READS IS OF BULK AT MOST 1048576: true; the input reads as it did. -/
def hazardWordsUptoRow : OpenClaim := { program := "ytopnkfbcphbbiaadoor", sum := "b6602e369df8c0daab874d1c7ef0bc61aa66d3cf2f31907b0c9b788a2cf29b71", func := "magpie/magpielaw12.HazardWords", spec := "hazardWords", unfollowed := true, recurses := true, named := ["magpie/handle.sizes"], apart := false, laid := [("magpie/handle.sizes", laid_magpie_handle_sizes)], narrowed := true }
def HazardWordsUptoSaid : Prop := hazardWordsUptoRow.holds Tryd.pinned (OpenSpec.upto hazardWordsSpec)

/-- 'magpielaw12.HazardTwice', WHERE WHAT IT READS IS OF BULK AT MOST 1048576: true; the input reads as it did. -/
def hazardTwiceUptoRow : OpenClaim := { program := "ytopnkfbcphbbiaadoor", sum := "b6602e369df8c0daab874d1c7ef0bc61aa66d3cf2f31907b0c9b788a2cf29b71", func := "magpie/magpielaw12.HazardTwice", spec := "hazardTwice", unfollowed := true, recurses := true, named := ["magpie/handle.sizes"], apart := false, laid := [("magpie/handle.sizes", laid_magpie_handle_sizes)], narrowed := true }
def HazardTwiceUptoSaid : Prop := hazardTwiceUptoRow.holds Tryd.pinned (OpenSpec.upto hazardTwiceSpec)

/-- 'magpielaw12.HazardOthers', WHERE WHAT IT READS IS OF BULK AT MOST 1048576: true; the input reads as it did. -/
def hazardOthersUptoRow : OpenClaim := { program := "ytopnkfbcphbbiaadoor", sum := "b6602e369df8c0daab874d1c7ef0bc61aa66d3cf2f31907b0c9b788a2cf29b71", func := "magpie/magpielaw12.HazardOthers", spec := "hazardOthers", unfollowed := true, recurses := true, named := ["magpie/handle.sizes"], apart := false, laid := [("magpie/handle.sizes", laid_magpie_handle_sizes)], narrowed := true }
def HazardOthersUptoSaid : Prop := hazardOthersUptoRow.holds Tryd.pinned (OpenSpec.upto hazardOthersSpec)

end Rows
end Go.Proofs.YtopnkfbcphbbiaaDoor
