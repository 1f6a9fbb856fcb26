/-
  NARROWER THAN 'FOR EVERY INPUT', by the rows' own cells (each row's printed sentence says how): SlabOne: laid · SlabMixes: laid · SlabAgain: laid · SlabFull: laid.
  DERIVED. THE GIVEN ROWS OF THIS SEAT. 4 by the template 'for every input the law returns true; each argument reads behind the call as it read before'; 0 by the template 'total and deterministic' (their statements: YtiedoeifpmfbbaaDoorTotals.lean).
  GIVEN WITH THE SEED: the statements are not yours to turn. If you find one false, say at which input.
  Laid BY PROGRAM, IN A SANDBOX (cutbox-rows.mjs): the forced cells as the released guide's own fill.sh prints them over the translation cd46daf59aa980ca… (all of the seat's roots in one cut). By AI agents, Wed Nov 11 2026. No macro, syntax, notation, axiom, sorry.
-/
import Derived.Test.YtiedoeifpmfbbaaDoorChecked
import GoSem.Claim
import GoSem.ClaimJoined
import GoSem.ClaimMapViews
import Derived.JoinedTies
import Derived.KernelRfl
namespace Go.Proofs.YtiedoeifpmfbbaaDoor
/- THE CELL 'sum', in the pinned program and in every row, IS THE sha256 OF THE DUMP (.gsa) THAT YtiedoeifpmfbbaaDoorProg.lean LOADS. Nothing in Lean hashes anything: it is a label: what it is worth is what the hold of that sum in a sandbox is worth. -/
noncomputable def Tryd.pinned : Pinned := { name := "ytiedoeifpmfbbaadoor", sum := "cd46daf59aa980ca42374d766a71d147b1369cc1d8a051def31df61b95286b5f", checked := Tryd.checked }
namespace Rows
def none {H : Type} : Left H := { results := [], args := [] }

/- WHAT THE LISTED PACKAGE-LEVEL VARIABLES READ AS WHEN THE CALL BEGINS. Each datum BY PROGRAM (the guide's laid-datum.mjs) off the statement by which the dump's own 'gosem.cut.vars' lays the variable. In a bare row this is a premise. The card (YtiedoeifpmfbbaaDoorCards.lean) ties it to the program's text. -/
def laid_magpie_handle_sizes {H : Type} : DataW H := .agg [.lit (.int .i64 8), .lit (.int .i64 16), .lit (.int .i64 32), .lit (.int .i64 64)]
def laid_magpie_handle_fields {H : Type} : DataW H := .agg [.agg [.lit (.int .i64 32), .lit (.int .i64 0), .lit (.int .i64 65535)], .agg [.lit (.int .i64 2), .lit (.int .i64 1), .lit (.int .i64 1073741823)], .agg [.lit (.int .i64 0), .lit (.int .i64 0), .lit (.int .i64 3)]]

/-- 'magpielaw11.SlabOne': WHATEVER THE INPUT: true; the input reads as it did. -/
def slabOneSpec : ChangeSpec := { name := "slabOne", fn := fun _ => fun
  | [d1, d2, d3] => { results := [.lit (.bool true)], args := [d1, d2, d3] }
  | _ => none }
def slabOneRow : OpenClaim := { program := "ytiedoeifpmfbbaadoor", sum := "cd46daf59aa980ca42374d766a71d147b1369cc1d8a051def31df61b95286b5f", func := "magpie/magpielaw11.SlabOne", spec := "slabOne", unfollowed := true, recurses := true, named := ["magpie/handle.fields", "magpie/handle.sizes"], apart := false, laid := [("magpie/handle.sizes", laid_magpie_handle_sizes), ("magpie/handle.fields", laid_magpie_handle_fields)] }
def SlabOneSaid : Prop := slabOneRow.holds Tryd.pinned (OpenSpec.ofChange slabOneSpec)

/-- ITS FALSE NEIGHBOUR: 'it returns false'. Refute it at one input. -/
def slabOneWrong : ChangeSpec := { name := "slabOne", fn := fun _ => fun
  | [d1, d2, d3] => { results := [.lit (.bool false)], args := [d1, d2, d3] }
  | _ => none }
def SlabOneWrongFalsely : Prop := slabOneRow.holds Tryd.pinned (OpenSpec.ofChange slabOneWrong)

/-- 'magpielaw11.SlabMixes': WHATEVER THE INPUT: true; the input reads as it did. -/
def slabMixesSpec : ChangeSpec := { name := "slabMixes", fn := fun _ => fun
  | [d1, d2, d3] => { results := [.lit (.bool true)], args := [d1, d2, d3] }
  | _ => none }
def slabMixesRow : OpenClaim := { program := "ytiedoeifpmfbbaadoor", sum := "cd46daf59aa980ca42374d766a71d147b1369cc1d8a051def31df61b95286b5f", func := "magpie/magpielaw11.SlabMixes", spec := "slabMixes", unfollowed := true, recurses := true, named := ["magpie/handle.fields", "magpie/handle.sizes"], apart := false, laid := [("magpie/handle.sizes", laid_magpie_handle_sizes), ("magpie/handle.fields", laid_magpie_handle_fields)] }
def SlabMixesSaid : Prop := slabMixesRow.holds Tryd.pinned (OpenSpec.ofChange slabMixesSpec)

/-- ITS FALSE NEIGHBOUR: 'it returns false'. Refute it at one input. -/
def slabMixesWrong : ChangeSpec := { name := "slabMixes", fn := fun _ => fun
  | [d1, d2, d3] => { results := [.lit (.bool false)], args := [d1, d2, d3] }
  | _ => none }
def SlabMixesWrongFalsely : Prop := slabMixesRow.holds Tryd.pinned (OpenSpec.ofChange slabMixesWrong)

/-- 'magpielaw11.SlabAgain': WHATEVER THE INPUT: true; the input reads as it did. -/
def slabAgainSpec : ChangeSpec := { name := "slabAgain", fn := fun _ => fun
  | [d1, d2, d3, d4, d5] => { results := [.lit (.bool true)], args := [d1, d2, d3, d4, d5] }
  | _ => none }
def slabAgainRow : OpenClaim := { program := "ytiedoeifpmfbbaadoor", sum := "cd46daf59aa980ca42374d766a71d147b1369cc1d8a051def31df61b95286b5f", func := "magpie/magpielaw11.SlabAgain", spec := "slabAgain", unfollowed := true, recurses := true, named := ["magpie/handle.sizes", "magpie/handle.fields"], apart := false, laid := [("magpie/handle.sizes", laid_magpie_handle_sizes), ("magpie/handle.fields", laid_magpie_handle_fields)] }
def SlabAgainSaid : Prop := slabAgainRow.holds Tryd.pinned (OpenSpec.ofChange slabAgainSpec)

/-- ITS FALSE NEIGHBOUR: 'it returns false'. Refute it at one input. -/
def slabAgainWrong : ChangeSpec := { name := "slabAgain", fn := fun _ => fun
  | [d1, d2, d3, d4, d5] => { results := [.lit (.bool false)], args := [d1, d2, d3, d4, d5] }
  | _ => none }
def SlabAgainWrongFalsely : Prop := slabAgainRow.holds Tryd.pinned (OpenSpec.ofChange slabAgainWrong)

/-- 'magpielaw11.SlabFull': WHATEVER THE INPUT: true; the input reads as it did. -/
def slabFullSpec : ChangeSpec := { name := "slabFull", fn := fun _ => fun
  | [d1, d2] => { results := [.lit (.bool true)], args := [d1, d2] }
  | _ => none }
def slabFullRow : OpenClaim := { program := "ytiedoeifpmfbbaadoor", sum := "cd46daf59aa980ca42374d766a71d147b1369cc1d8a051def31df61b95286b5f", func := "magpie/magpielaw11.SlabFull", spec := "slabFull", unfollowed := true, recurses := true, named := ["magpie/handle.sizes", "magpie/handle.fields"], apart := false, laid := [("magpie/handle.sizes", laid_magpie_handle_sizes), ("magpie/handle.fields", laid_magpie_handle_fields)] }
def SlabFullSaid : Prop := slabFullRow.holds Tryd.pinned (OpenSpec.ofChange slabFullSpec)

/-- ITS FALSE NEIGHBOUR: 'it returns false'. Refute it at one input. -/
def slabFullWrong : ChangeSpec := { name := "slabFull", fn := fun _ => fun
  | [d1, d2] => { results := [.lit (.bool false)], args := [d1, d2] }
  | _ => none }
def SlabFullWrongFalsely : Prop := slabFullRow.holds Tryd.pinned (OpenSpec.ofChange slabFullWrong)

/- THE SECOND FORM. 'bulk': how many values and letters a reading holds, each counted each time it is reached (what is shared counts as often as it is met; a slice's spare places count too). A statement '..UptoSaid' is the law's where the arguments, and the package variables that the reading takes, are together of bulk at most 1048576: NARROWER than '..Said'. Prove '..Said' where nothing that the law and all that it calls make is longer than what came in: it says more and counts as full. Else prove '..UptoSaid'. A law counts once. -/
mutual
def uptoBulk {H : Type} : DataW H → Nat
  | .lit (.string bytes) => bytes.length + 1
  | .lit _ => 1
  | .nil => 1
  | .ptr d => uptoBulk d + 1
  | .slice elems spare => uptoBulkAll elems + uptoBulkAll spare + 1
  | .agg parts => uptoBulkAll parts + 1
  | .iface _ d => uptoBulk d + 1
  | .map entries => uptoBulkEntries entries + 1
  | .held _ => 1
def uptoBulkAll {H : Type} : List (DataW H) → Nat
  | [] => 0
  | d :: r => uptoBulk d + uptoBulkAll r
def uptoBulkEntries {H : Type} : List (Lit × DataW H) → Nat
  | [] => 0
  | x :: r => uptoBulkEntry x + uptoBulkEntries r
def uptoBulkEntry {H : Type} : Lit × DataW H → Nat
  | (.string bytes, d) => bytes.length + uptoBulk d + 1
  | (_, d) => uptoBulk d + 1
 end
def uptoSmall : (H : Type) → List (DataW H) → Bool := fun _ ds => decide (uptoBulkAll ds ≤ 1048576)
def OpenSpec.upto (s : _root_.Go.ChangeSpec) : _root_.Go.OpenSpec := { _root_.Go.OpenSpec.ofChange s with cond := some uptoSmall }

/-- 'magpielaw11.SlabOne', WHERE WHAT IT READS IS OF BULK AT MOST 1048576: true; the input reads as it did. -/
def slabOneUptoRow : OpenClaim := { program := "ytiedoeifpmfbbaadoor", sum := "cd46daf59aa980ca42374d766a71d147b1369cc1d8a051def31df61b95286b5f", func := "magpie/magpielaw11.SlabOne", spec := "slabOne", unfollowed := true, recurses := true, named := ["magpie/handle.fields", "magpie/handle.sizes"], apart := false, laid := [("magpie/handle.sizes", laid_magpie_handle_sizes), ("magpie/handle.fields", laid_magpie_handle_fields)], narrowed := true }
def SlabOneUptoSaid : Prop := slabOneUptoRow.holds Tryd.pinned (OpenSpec.upto slabOneSpec)

/-- 'magpielaw11.SlabMixes', WHERE WHAT IT READS IS OF BULK AT MOST 1048576: true; the input reads as it did. -/
def slabMixesUptoRow : OpenClaim := { program := "ytiedoeifpmfbbaadoor", sum := "cd46daf59aa980ca42374d766a71d147b1369cc1d8a051def31df61b95286b5f", func := "magpie/magpielaw11.SlabMixes", spec := "slabMixes", unfollowed := true, recurses := true, named := ["magpie/handle.fields", "magpie/handle.sizes"], apart := false, laid := [("magpie/handle.sizes", laid_magpie_handle_sizes), ("magpie/handle.fields", laid_magpie_handle_fields)], narrowed := true }
def SlabMixesUptoSaid : Prop := slabMixesUptoRow.holds Tryd.pinned (OpenSpec.upto slabMixesSpec)

/-- 'magpielaw11.SlabAgain', WHERE WHAT IT READS IS OF BULK AT MOST 1048576: true; the input reads as it did. -/
def slabAgainUptoRow : OpenClaim := { program := "ytiedoeifpmfbbaadoor", sum := "cd46daf59aa980ca42374d766a71d147b1369cc1d8a051def31df61b95286b5f", func := "magpie/magpielaw11.SlabAgain", spec := "slabAgain", unfollowed := true, recurses := true, named := ["magpie/handle.sizes", "magpie/handle.fields"], apart := false, laid := [("magpie/handle.sizes", laid_magpie_handle_sizes), ("magpie/handle.fields", laid_magpie_handle_fields)], narrowed := true }
def SlabAgainUptoSaid : Prop := slabAgainUptoRow.holds Tryd.pinned (OpenSpec.upto slabAgainSpec)

/-- 'magpielaw11.SlabFull', WHERE WHAT IT READS IS OF BULK AT MOST 1048576: true; the input reads as it did. -/
def slabFullUptoRow : OpenClaim := { program := "ytiedoeifpmfbbaadoor", sum := "cd46daf59aa980ca42374d766a71d147b1369cc1d8a051def31df61b95286b5f", func := "magpie/magpielaw11.SlabFull", spec := "slabFull", unfollowed := true, recurses := true, named := ["magpie/handle.sizes", "magpie/handle.fields"], apart := false, laid := [("magpie/handle.sizes", laid_magpie_handle_sizes), ("magpie/handle.fields", laid_magpie_handle_fields)], narrowed := true }
def SlabFullUptoSaid : Prop := slabFullUptoRow.holds Tryd.pinned (OpenSpec.upto slabFullSpec)

end Rows
end Go.Proofs.YtiedoeifpmfbbaaDoor
