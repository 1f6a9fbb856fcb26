/-
  NARROWER THAN 'FOR EVERY INPUT', by the rows' own cells (each row's printed sentence says how): EvalRuns: laid · HandleBack: laid · HandleOrder: laid · HandleNone: laid.
  DERIVED. THE GIVEN ROWS OF THIS SEAT. 4 by the template 'for every input the law returns true; each argument reads behind the call as it read before'; 0 by the template 'total and deterministic' (their statements: YtpmapdialjdcbabDoorTotals.lean).
  GIVEN WITH THE SEED: the statements are not yours to turn. If you find one false, say at which input.
  Laid BY PROGRAM, IN A SANDBOX (cutbox-rows.mjs): the forced cells as the released guide's own fill.sh prints them over the translation beebb0f198e7a18d… (all of the seat's roots in one cut). By AI agents, Wed Nov 11 2026. No macro, syntax, notation, axiom, sorry.
-/
import Derived.Test.YtpmapdialjdcbabDoorChecked
import GoSem.Claim
import GoSem.ClaimJoined
import GoSem.ClaimMapViews
import Derived.JoinedTies
import Derived.KernelRfl
namespace Go.Proofs.YtpmapdialjdcbabDoor
/- THE CELL 'sum', in the pinned program and in every row, IS THE sha256 OF THE DUMP (.gsa) THAT YtpmapdialjdcbabDoorProg.lean LOADS. Nothing in Lean hashes anything: it is a label: what it is worth is what the hold of that sum in a sandbox is worth. -/
noncomputable def Tryd.pinned : Pinned := { name := "ytpmapdialjdcbabdoor", sum := "beebb0f198e7a18d866e4d1e4753a6c463e9b30a14aa8b802c306627d98d8f66", checked := Tryd.checked }
namespace Rows
def none {H : Type} : Left H := { results := [], args := [] }

/- WHAT THE LISTED PACKAGE-LEVEL VARIABLES READ AS WHEN THE CALL BEGINS. Each datum BY PROGRAM (the guide's laid-datum.mjs) off the statement by which the dump's own 'gosem.cut.vars' lays the variable. In a bare row this is a premise. The card (YtpmapdialjdcbabDoorCards.lean) ties it to the program's text. -/
def laid_magpie_code_lasts {H : Type} : DataW H := .agg [.agg [.lit (.int .i64 0), .lit (.int .i64 0), .lit (.int .i64 0)], .agg [.lit (.int .i64 7), .lit (.int .i64 2147483647), .lit (.int .i64 0)], .agg [.lit (.int .i64 7), .lit (.int .i64 7), .lit (.int .i64 7)], .agg [.lit (.int .i64 7), .lit (.int .i64 7), .lit (.int .i64 7)], .agg [.lit (.int .i64 7), .lit (.int .i64 7), .lit (.int .i64 7)], .agg [.lit (.int .i64 7), .lit (.int .i64 7), .lit (.int .i64 7)], .agg [.lit (.int .i64 7), .lit (.int .i64 7), .lit (.int .i64 7)], .agg [.lit (.int .i64 39), .lit (.int .i64 0), .lit (.int .i64 0)], .agg [.lit (.int .i64 7), .lit (.int .i64 39), .lit (.int .i64 0)], .agg [.lit (.int .i64 3), .lit (.int .i64 11), .lit (.int .i64 7)], .agg [.lit (.int .i64 7), .lit (.int .i64 3), .lit (.int .i64 0)], .agg [.lit (.int .i64 15), .lit (.int .i64 7), .lit (.int .i64 0)], .agg [.lit (.int .i64 7), .lit (.int .i64 15), .lit (.int .i64 0)], .agg [.lit (.int .i64 3), .lit (.int .i64 0), .lit (.int .i64 0)], .agg [.lit (.int .i64 0), .lit (.int .i64 0), .lit (.int .i64 0)], .agg [.lit (.int .i64 7), .lit (.int .i64 0), .lit (.int .i64 0)]]
def laid_magpie_handle_sizes {H : Type} : DataW H := .agg [.lit (.int .i64 8), .lit (.int .i64 16), .lit (.int .i64 32), .lit (.int .i64 64)]
def laid_magpie_handle_fields {H : Type} : DataW H := .agg [.agg [.lit (.int .i64 32), .lit (.int .i64 0), .lit (.int .i64 65535)], .agg [.lit (.int .i64 2), .lit (.int .i64 1), .lit (.int .i64 1073741823)], .agg [.lit (.int .i64 0), .lit (.int .i64 0), .lit (.int .i64 3)]]

/-- 'magpielaw07.EvalRuns': WHATEVER THE INPUT: true; the input reads as it did. -/
def evalRunsSpec : ChangeSpec := { name := "evalRuns", fn := fun _ => fun
  | [d1, d2, d3] => { results := [.lit (.bool true)], args := [d1, d2, d3] }
  | _ => none }
def evalRunsRow : OpenClaim := { program := "ytpmapdialjdcbabdoor", sum := "beebb0f198e7a18d866e4d1e4753a6c463e9b30a14aa8b802c306627d98d8f66", func := "magpie/magpielaw07.EvalRuns", spec := "evalRuns", unfollowed := true, recurses := true, named := ["magpie/code.lasts"], apart := false, laid := [("magpie/code.lasts", laid_magpie_code_lasts)] }
def EvalRunsSaid : Prop := evalRunsRow.holds Tryd.pinned (OpenSpec.ofChange evalRunsSpec)

/-- ITS FALSE NEIGHBOUR: 'it returns false'. Refute it at one input. -/
def evalRunsWrong : ChangeSpec := { name := "evalRuns", fn := fun _ => fun
  | [d1, d2, d3] => { results := [.lit (.bool false)], args := [d1, d2, d3] }
  | _ => none }
def EvalRunsWrongFalsely : Prop := evalRunsRow.holds Tryd.pinned (OpenSpec.ofChange evalRunsWrong)

/-- 'magpielaw08.HandleBack': WHATEVER THE INPUT: true; the input reads as it did. -/
def handleBackSpec : ChangeSpec := { name := "handleBack", fn := fun _ => fun
  | [d1, d2, d3, d4, d5, d6] => { results := [.lit (.bool true)], args := [d1, d2, d3, d4, d5, d6] }
  | _ => none }
def handleBackRow : OpenClaim := { program := "ytpmapdialjdcbabdoor", sum := "beebb0f198e7a18d866e4d1e4753a6c463e9b30a14aa8b802c306627d98d8f66", func := "magpie/magpielaw08.HandleBack", spec := "handleBack", named := ["magpie/handle.fields", "magpie/handle.sizes"], apart := false, laid := [("magpie/handle.sizes", laid_magpie_handle_sizes), ("magpie/handle.fields", laid_magpie_handle_fields)] }
def HandleBackSaid : Prop := handleBackRow.holds Tryd.pinned (OpenSpec.ofChange handleBackSpec)

/-- ITS FALSE NEIGHBOUR: 'it returns false'. Refute it at one input. -/
def handleBackWrong : ChangeSpec := { name := "handleBack", fn := fun _ => fun
  | [d1, d2, d3, d4, d5, d6] => { results := [.lit (.bool false)], args := [d1, d2, d3, d4, d5, d6] }
  | _ => none }
def HandleBackWrongFalsely : Prop := handleBackRow.holds Tryd.pinned (OpenSpec.ofChange handleBackWrong)

/-- 'magpielaw08.HandleOrder': WHATEVER THE INPUT: true; the input reads as it did. -/
def handleOrderSpec : ChangeSpec := { name := "handleOrder", fn := fun _ => fun
  | [d1, d2, d3] => { results := [.lit (.bool true)], args := [d1, d2, d3] }
  | _ => none }
def handleOrderRow : OpenClaim := { program := "ytpmapdialjdcbabdoor", sum := "beebb0f198e7a18d866e4d1e4753a6c463e9b30a14aa8b802c306627d98d8f66", func := "magpie/magpielaw08.HandleOrder", spec := "handleOrder", named := ["magpie/handle.fields", "magpie/handle.sizes"], apart := false, laid := [("magpie/handle.sizes", laid_magpie_handle_sizes), ("magpie/handle.fields", laid_magpie_handle_fields)] }
def HandleOrderSaid : Prop := handleOrderRow.holds Tryd.pinned (OpenSpec.ofChange handleOrderSpec)

/-- ITS FALSE NEIGHBOUR: 'it returns false'. Refute it at one input. -/
def handleOrderWrong : ChangeSpec := { name := "handleOrder", fn := fun _ => fun
  | [d1, d2, d3] => { results := [.lit (.bool false)], args := [d1, d2, d3] }
  | _ => none }
def HandleOrderWrongFalsely : Prop := handleOrderRow.holds Tryd.pinned (OpenSpec.ofChange handleOrderWrong)

/-- 'magpielaw08.HandleNone': WHATEVER THE INPUT: true; the input reads as it did. -/
def handleNoneSpec : ChangeSpec := { name := "handleNone", fn := fun _ => fun
  | [d1, d2, d3, d4] => { results := [.lit (.bool true)], args := [d1, d2, d3, d4] }
  | _ => none }
def handleNoneRow : OpenClaim := { program := "ytpmapdialjdcbabdoor", sum := "beebb0f198e7a18d866e4d1e4753a6c463e9b30a14aa8b802c306627d98d8f66", func := "magpie/magpielaw08.HandleNone", spec := "handleNone", named := ["magpie/handle.fields", "magpie/handle.sizes"], apart := false, laid := [("magpie/handle.sizes", laid_magpie_handle_sizes), ("magpie/handle.fields", laid_magpie_handle_fields)] }
def HandleNoneSaid : Prop := handleNoneRow.holds Tryd.pinned (OpenSpec.ofChange handleNoneSpec)

/-- ITS FALSE NEIGHBOUR: 'it returns false'. Refute it at one input. -/
def handleNoneWrong : ChangeSpec := { name := "handleNone", fn := fun _ => fun
  | [d1, d2, d3, d4] => { results := [.lit (.bool false)], args := [d1, d2, d3, d4] }
  | _ => none }
def HandleNoneWrongFalsely : Prop := handleNoneRow.holds Tryd.pinned (OpenSpec.ofChange handleNoneWrong)

/- THE SECOND FORM. 'bulk': how many values and letters a reading holds, each counted each time it is reached (what is shared counts as often as it is met; a slice's spare places count too). A statement '..UptoSaid' is the law's where the arguments, and the package variables that the reading takes, are together of bulk at most 1048576: NARROWER than '..Said'. Prove '..Said' where nothing that the law and all that it calls make is longer than what came in: it says more and counts as full. Else prove '..UptoSaid'. A law counts once. -/
mutual
def uptoBulk {H : Type} : DataW H → Nat
  | .lit (.string bytes) => bytes.length + 1
  | .lit _ => 1
  | .nil => 1
  | .ptr d => uptoBulk d + 1
  | .slice elems spare => uptoBulkAll elems + uptoBulkAll spare + 1
  | .agg parts => uptoBulkAll parts + 1
  | .iface _ d => uptoBulk d + 1
  | .map entries => uptoBulkEntries entries + 1
  | .held _ => 1
def uptoBulkAll {H : Type} : List (DataW H) → Nat
  | [] => 0
  | d :: r => uptoBulk d + uptoBulkAll r
def uptoBulkEntries {H : Type} : List (Lit × DataW H) → Nat
  | [] => 0
  | x :: r => uptoBulkEntry x + uptoBulkEntries r
def uptoBulkEntry {H : Type} : Lit × DataW H → Nat
  | (.string bytes, d) => bytes.length + uptoBulk d + 1
  | (_, d) => uptoBulk d + 1
 end
def uptoSmall : (H : Type) → List (DataW H) → Bool := fun _ ds => decide (uptoBulkAll ds ≤ 1048576)
def OpenSpec.upto (s : _root_.Go.ChangeSpec) : _root_.Go.OpenSpec := { _root_.Go.OpenSpec.ofChange s with cond := some uptoSmall }

/-- 'magpielaw07.EvalRuns', WHERE WHAT IT READS IS OF BULK AT MOST 1048576: true; the input reads as it did. -/
def evalRunsUptoRow : OpenClaim := { program := "ytpmapdialjdcbabdoor", sum := "beebb0f198e7a18d866e4d1e4753a6c463e9b30a14aa8b802c306627d98d8f66", func := "magpie/magpielaw07.EvalRuns", spec := "evalRuns", unfollowed := true, recurses := true, named := ["magpie/code.lasts"], apart := false, laid := [("magpie/code.lasts", laid_magpie_code_lasts)], narrowed := true }
def EvalRunsUptoSaid : Prop := evalRunsUptoRow.holds Tryd.pinned (OpenSpec.upto evalRunsSpec)

/-- 'magpielaw08.HandleBack', WHERE WHAT IT READS IS OF BULK AT MOST 1048576: true; the input reads as it did. -/
def handleBackUptoRow : OpenClaim := { program := "ytpmapdialjdcbabdoor", sum := "beebb0f198e7a18d866e4d1e4753a6c463e9b30a14aa8b802c306627d98d8f66", func := "magpie/magpielaw08.HandleBack", spec := "handleBack", named := ["magpie/handle.fields", "magpie/handle.sizes"], apart := false, laid := [("magpie/handle.sizes", laid_magpie_handle_sizes), ("magpie/handle.fields", laid_magpie_handle_fields)], narrowed := true }
def HandleBackUptoSaid : Prop := handleBackUptoRow.holds Tryd.pinned (OpenSpec.upto handleBackSpec)

/-- 'magpielaw08.HandleOrder', WHERE WHAT IT READS IS OF BULK AT MOST 1048576: true; the input reads as it did. -/
def handleOrderUptoRow : OpenClaim := { program := "ytpmapdialjdcbabdoor", sum := "beebb0f198e7a18d866e4d1e4753a6c463e9b30a14aa8b802c306627d98d8f66", func := "magpie/magpielaw08.HandleOrder", spec := "handleOrder", named := ["magpie/handle.fields", "magpie/handle.sizes"], apart := false, laid := [("magpie/handle.sizes", laid_magpie_handle_sizes), ("magpie/handle.fields", laid_magpie_handle_fields)], narrowed := true }
def HandleOrderUptoSaid : Prop := handleOrderUptoRow.holds Tryd.pinned (OpenSpec.upto handleOrderSpec)

/-- 'magpielaw08.HandleNone', WHERE WHAT IT READS IS OF BULK AT MOST 1048576: true; the input reads as it did. -/
def handleNoneUptoRow : OpenClaim := { program := "ytpmapdialjdcbabdoor", sum := "beebb0f198e7a18d866e4d1e4753a6c463e9b30a14aa8b802c306627d98d8f66", func := "magpie/magpielaw08.HandleNone", spec := "handleNone", named := ["magpie/handle.fields", "magpie/handle.sizes"], apart := false, laid := [("magpie/handle.sizes", laid_magpie_handle_sizes), ("magpie/handle.fields", laid_magpie_handle_fields)], narrowed := true }
def HandleNoneUptoSaid : Prop := handleNoneUptoRow.holds Tryd.pinned (OpenSpec.upto handleNoneSpec)

end Rows
end Go.Proofs.YtpmapdialjdcbabDoor
