/-
  NARROWER THAN 'FOR EVERY INPUT', by the rows' own cells (each row's printed sentence says how): EvalAll: laid · EvalNumbers: laid · EvalTrees: laid · EvalFuel: laid · EvalErrors: laid · EvalJoins: laid.
  DERIVED. THE GIVEN ROWS OF THIS SEAT. 6 by the template 'for every input the law returns true; each argument reads behind the call as it read before'; 0 by the template 'total and deterministic' (their statements: YtpmapdialjdcbaaDoorTotals.lean).
  GIVEN WITH THE SEED: the statements are not yours to turn. If you find one false, say at which input.
  Laid BY PROGRAM, IN A SANDBOX (cutbox-rows.mjs): the forced cells as the released guide's own fill.sh prints them over the translation daeb2169f64e5098… (all of the seat's roots in one cut). By AI agents, Wed Nov 11 2026. No macro, syntax, notation, axiom, sorry.
-/
import Derived.Test.YtpmapdialjdcbaaDoorChecked
import GoSem.Claim
import GoSem.ClaimJoined
import GoSem.ClaimMapViews
import Derived.JoinedTies
import Derived.KernelRfl
namespace Go.Proofs.YtpmapdialjdcbaaDoor
/- THE CELL 'sum', in the pinned program and in every row, IS THE sha256 OF THE DUMP (.gsa) THAT YtpmapdialjdcbaaDoorProg.lean LOADS. Nothing in Lean hashes anything: it is a label: what it is worth is what the hold of that sum in a sandbox is worth. -/
noncomputable def Tryd.pinned : Pinned := { name := "ytpmapdialjdcbaadoor", sum := "daeb2169f64e50980e7431d66d747217b1aa7b2fc45bc019ff4780922862f4cf", checked := Tryd.checked }
namespace Rows
def none {H : Type} : Left H := { results := [], args := [] }

/- WHAT THE LISTED PACKAGE-LEVEL VARIABLES READ AS WHEN THE CALL BEGINS. Each datum BY PROGRAM (the guide's laid-datum.mjs) off the statement by which the dump's own 'gosem.cut.vars' lays the variable. In a bare row this is a premise. The card (YtpmapdialjdcbaaDoorCards.lean) ties it to the program's text. -/
def laid_magpie_code_lasts {H : Type} : DataW H := .agg [.agg [.lit (.int .i64 0), .lit (.int .i64 0), .lit (.int .i64 0)], .agg [.lit (.int .i64 7), .lit (.int .i64 2147483647), .lit (.int .i64 0)], .agg [.lit (.int .i64 7), .lit (.int .i64 7), .lit (.int .i64 7)], .agg [.lit (.int .i64 7), .lit (.int .i64 7), .lit (.int .i64 7)], .agg [.lit (.int .i64 7), .lit (.int .i64 7), .lit (.int .i64 7)], .agg [.lit (.int .i64 7), .lit (.int .i64 7), .lit (.int .i64 7)], .agg [.lit (.int .i64 7), .lit (.int .i64 7), .lit (.int .i64 7)], .agg [.lit (.int .i64 39), .lit (.int .i64 0), .lit (.int .i64 0)], .agg [.lit (.int .i64 7), .lit (.int .i64 39), .lit (.int .i64 0)], .agg [.lit (.int .i64 3), .lit (.int .i64 11), .lit (.int .i64 7)], .agg [.lit (.int .i64 7), .lit (.int .i64 3), .lit (.int .i64 0)], .agg [.lit (.int .i64 15), .lit (.int .i64 7), .lit (.int .i64 0)], .agg [.lit (.int .i64 7), .lit (.int .i64 15), .lit (.int .i64 0)], .agg [.lit (.int .i64 3), .lit (.int .i64 0), .lit (.int .i64 0)], .agg [.lit (.int .i64 0), .lit (.int .i64 0), .lit (.int .i64 0)], .agg [.lit (.int .i64 7), .lit (.int .i64 0), .lit (.int .i64 0)]]

/-- 'magpielaw07.EvalAll': WHATEVER THE INPUT: true; the input reads as it did. -/
def evalAllSpec : ChangeSpec := { name := "evalAll", fn := fun _ => fun
  | [d1, d2, d3] => { results := [.lit (.bool true)], args := [d1, d2, d3] }
  | _ => none }
def evalAllRow : OpenClaim := { program := "ytpmapdialjdcbaadoor", sum := "daeb2169f64e50980e7431d66d747217b1aa7b2fc45bc019ff4780922862f4cf", func := "magpie/magpielaw07.EvalAll", spec := "evalAll", unfollowed := true, recurses := true, named := ["magpie/code.lasts"], apart := false, laid := [("magpie/code.lasts", laid_magpie_code_lasts)] }
def EvalAllSaid : Prop := evalAllRow.holds Tryd.pinned (OpenSpec.ofChange evalAllSpec)

/-- ITS FALSE NEIGHBOUR: 'it returns false'. Refute it at one input. -/
def evalAllWrong : ChangeSpec := { name := "evalAll", fn := fun _ => fun
  | [d1, d2, d3] => { results := [.lit (.bool false)], args := [d1, d2, d3] }
  | _ => none }
def EvalAllWrongFalsely : Prop := evalAllRow.holds Tryd.pinned (OpenSpec.ofChange evalAllWrong)

/-- 'magpielaw07.EvalNumbers': WHATEVER THE INPUT: true; the input reads as it did. -/
def evalNumbersSpec : ChangeSpec := { name := "evalNumbers", fn := fun _ => fun
  | [d1, d2, d3] => { results := [.lit (.bool true)], args := [d1, d2, d3] }
  | _ => none }
def evalNumbersRow : OpenClaim := { program := "ytpmapdialjdcbaadoor", sum := "daeb2169f64e50980e7431d66d747217b1aa7b2fc45bc019ff4780922862f4cf", func := "magpie/magpielaw07.EvalNumbers", spec := "evalNumbers", unfollowed := true, recurses := true, named := ["magpie/code.lasts"], apart := false, laid := [("magpie/code.lasts", laid_magpie_code_lasts)] }
def EvalNumbersSaid : Prop := evalNumbersRow.holds Tryd.pinned (OpenSpec.ofChange evalNumbersSpec)

/-- ITS FALSE NEIGHBOUR: 'it returns false'. Refute it at one input. -/
def evalNumbersWrong : ChangeSpec := { name := "evalNumbers", fn := fun _ => fun
  | [d1, d2, d3] => { results := [.lit (.bool false)], args := [d1, d2, d3] }
  | _ => none }
def EvalNumbersWrongFalsely : Prop := evalNumbersRow.holds Tryd.pinned (OpenSpec.ofChange evalNumbersWrong)

/-- 'magpielaw07.EvalTrees': WHATEVER THE INPUT: true; the input reads as it did. -/
def evalTreesSpec : ChangeSpec := { name := "evalTrees", fn := fun _ => fun
  | [d1, d2, d3, d4] => { results := [.lit (.bool true)], args := [d1, d2, d3, d4] }
  | _ => none }
def evalTreesRow : OpenClaim := { program := "ytpmapdialjdcbaadoor", sum := "daeb2169f64e50980e7431d66d747217b1aa7b2fc45bc019ff4780922862f4cf", func := "magpie/magpielaw07.EvalTrees", spec := "evalTrees", unfollowed := true, recurses := true, named := ["magpie/code.lasts"], apart := false, laid := [("magpie/code.lasts", laid_magpie_code_lasts)] }
def EvalTreesSaid : Prop := evalTreesRow.holds Tryd.pinned (OpenSpec.ofChange evalTreesSpec)

/-- ITS FALSE NEIGHBOUR: 'it returns false'. Refute it at one input. -/
def evalTreesWrong : ChangeSpec := { name := "evalTrees", fn := fun _ => fun
  | [d1, d2, d3, d4] => { results := [.lit (.bool false)], args := [d1, d2, d3, d4] }
  | _ => none }
def EvalTreesWrongFalsely : Prop := evalTreesRow.holds Tryd.pinned (OpenSpec.ofChange evalTreesWrong)

/-- 'magpielaw07.EvalFuel': WHATEVER THE INPUT: true; the input reads as it did. -/
def evalFuelSpec : ChangeSpec := { name := "evalFuel", fn := fun _ => fun
  | [d1, d2] => { results := [.lit (.bool true)], args := [d1, d2] }
  | _ => none }
def evalFuelRow : OpenClaim := { program := "ytpmapdialjdcbaadoor", sum := "daeb2169f64e50980e7431d66d747217b1aa7b2fc45bc019ff4780922862f4cf", func := "magpie/magpielaw07.EvalFuel", spec := "evalFuel", unfollowed := true, recurses := true, named := ["magpie/code.lasts"], apart := false, laid := [("magpie/code.lasts", laid_magpie_code_lasts)] }
def EvalFuelSaid : Prop := evalFuelRow.holds Tryd.pinned (OpenSpec.ofChange evalFuelSpec)

/-- ITS FALSE NEIGHBOUR: 'it returns false'. Refute it at one input. -/
def evalFuelWrong : ChangeSpec := { name := "evalFuel", fn := fun _ => fun
  | [d1, d2] => { results := [.lit (.bool false)], args := [d1, d2] }
  | _ => none }
def EvalFuelWrongFalsely : Prop := evalFuelRow.holds Tryd.pinned (OpenSpec.ofChange evalFuelWrong)

/-- 'magpielaw07.EvalErrors': WHATEVER THE INPUT: true; the input reads as it did. -/
def evalErrorsSpec : ChangeSpec := { name := "evalErrors", fn := fun _ => fun
  | [d1, d2] => { results := [.lit (.bool true)], args := [d1, d2] }
  | _ => none }
def evalErrorsRow : OpenClaim := { program := "ytpmapdialjdcbaadoor", sum := "daeb2169f64e50980e7431d66d747217b1aa7b2fc45bc019ff4780922862f4cf", func := "magpie/magpielaw07.EvalErrors", spec := "evalErrors", unfollowed := true, recurses := true, named := ["magpie/code.lasts"], apart := false, laid := [("magpie/code.lasts", laid_magpie_code_lasts)] }
def EvalErrorsSaid : Prop := evalErrorsRow.holds Tryd.pinned (OpenSpec.ofChange evalErrorsSpec)

/-- ITS FALSE NEIGHBOUR: 'it returns false'. Refute it at one input. -/
def evalErrorsWrong : ChangeSpec := { name := "evalErrors", fn := fun _ => fun
  | [d1, d2] => { results := [.lit (.bool false)], args := [d1, d2] }
  | _ => none }
def EvalErrorsWrongFalsely : Prop := evalErrorsRow.holds Tryd.pinned (OpenSpec.ofChange evalErrorsWrong)

/-- 'magpielaw07.EvalJoins': WHATEVER THE INPUT: true; the input reads as it did. -/
def evalJoinsSpec : ChangeSpec := { name := "evalJoins", fn := fun _ => fun
  | [d1, d2, d3] => { results := [.lit (.bool true)], args := [d1, d2, d3] }
  | _ => none }
def evalJoinsRow : OpenClaim := { program := "ytpmapdialjdcbaadoor", sum := "daeb2169f64e50980e7431d66d747217b1aa7b2fc45bc019ff4780922862f4cf", func := "magpie/magpielaw07.EvalJoins", spec := "evalJoins", unfollowed := true, recurses := true, named := ["magpie/code.lasts"], apart := false, laid := [("magpie/code.lasts", laid_magpie_code_lasts)] }
def EvalJoinsSaid : Prop := evalJoinsRow.holds Tryd.pinned (OpenSpec.ofChange evalJoinsSpec)

/-- ITS FALSE NEIGHBOUR: 'it returns false'. Refute it at one input. -/
def evalJoinsWrong : ChangeSpec := { name := "evalJoins", fn := fun _ => fun
  | [d1, d2, d3] => { results := [.lit (.bool false)], args := [d1, d2, d3] }
  | _ => none }
def EvalJoinsWrongFalsely : Prop := evalJoinsRow.holds Tryd.pinned (OpenSpec.ofChange evalJoinsWrong)

/- THE SECOND FORM. 'bulk': how many values and letters a reading holds, each counted each time it is reached (what is shared counts as often as it is met; a slice's spare places count too). A statement '..UptoSaid' is the law's where the arguments, and the package variables that the reading takes, are together of bulk at most 1048576: NARROWER than '..Said'. Prove '..Said' where nothing that the law and all that it calls make is longer than what came in: it says more and counts as full. Else prove '..UptoSaid'. A law counts once. -/
mutual
def uptoBulk {H : Type} : DataW H → Nat
  | .lit (.string bytes) => bytes.length + 1
  | .lit _ => 1
  | .nil => 1
  | .ptr d => uptoBulk d + 1
  | .slice elems spare => uptoBulkAll elems + uptoBulkAll spare + 1
  | .agg parts => uptoBulkAll parts + 1
  | .iface _ d => uptoBulk d + 1
  | .map entries => uptoBulkEntries entries + 1
  | .held _ => 1
def uptoBulkAll {H : Type} : List (DataW H) → Nat
  | [] => 0
  | d :: r => uptoBulk d + uptoBulkAll r
def uptoBulkEntries {H : Type} : List (Lit × DataW H) → Nat
  | [] => 0
  | x :: r => uptoBulkEntry x + uptoBulkEntries r
def uptoBulkEntry {H : Type} : Lit × DataW H → Nat
  | (.string bytes, d) => bytes.length + uptoBulk d + 1
  | (_, d) => uptoBulk d + 1
 end
def uptoSmall : (H : Type) → List (DataW H) → Bool := fun _ ds => decide (uptoBulkAll ds ≤ 1048576)
def OpenSpec.upto (s : _root_.Go.ChangeSpec) : _root_.Go.OpenSpec := { _root_.Go.OpenSpec.ofChange s with cond := some uptoSmall }

/-- 'magpielaw07.EvalAll', WHERE WHAT IT READS IS OF BULK AT MOST 1048576: true; the input reads as it did. -/
def evalAllUptoRow : OpenClaim := { program := "ytpmapdialjdcbaadoor", sum := "daeb2169f64e50980e7431d66d747217b1aa7b2fc45bc019ff4780922862f4cf", func := "magpie/magpielaw07.EvalAll", spec := "evalAll", unfollowed := true, recurses := true, named := ["magpie/code.lasts"], apart := false, laid := [("magpie/code.lasts", laid_magpie_code_lasts)], narrowed := true }
def EvalAllUptoSaid : Prop := evalAllUptoRow.holds Tryd.pinned (OpenSpec.upto evalAllSpec)

/-- 'magpielaw07.EvalNumbers', WHERE WHAT IT READS IS OF BULK AT MOST 1048576: true; the input reads as it did. -/
def evalNumbersUptoRow : OpenClaim := { program := "ytpmapdialjdcbaadoor", sum := "daeb2169f64e50980e7431d66d747217b1aa7b2fc45bc019ff4780922862f4cf", func := "magpie/magpielaw07.EvalNumbers", spec := "evalNumbers", unfollowed := true, recurses := true, named := ["magpie/code.lasts"], apart := false, laid := [("magpie/code.lasts", laid_magpie_code_lasts)], narrowed := true }
def EvalNumbersUptoSaid : Prop := evalNumbersUptoRow.holds Tryd.pinned (OpenSpec.upto evalNumbersSpec)

/-- 'magpielaw07.EvalTrees', WHERE WHAT IT READS IS OF BULK AT MOST 1048576: true; the input reads as it did. -/
def evalTreesUptoRow : OpenClaim := { program := "ytpmapdialjdcbaadoor", sum := "daeb2169f64e50980e7431d66d747217b1aa7b2fc45bc019ff4780922862f4cf", func := "magpie/magpielaw07.EvalTrees", spec := "evalTrees", unfollowed := true, recurses := true, named := ["magpie/code.lasts"], apart := false, laid := [("magpie/code.lasts", laid_magpie_code_lasts)], narrowed := true }
def EvalTreesUptoSaid : Prop := evalTreesUptoRow.holds Tryd.pinned (OpenSpec.upto evalTreesSpec)

/-- 'magpielaw07.EvalFuel', WHERE WHAT IT READS IS OF BULK AT MOST 1048576: true; the input reads as it did. -/
def evalFuelUptoRow : OpenClaim := { program := "ytpmapdialjdcbaadoor", sum := "daeb2169f64e50980e7431d66d747217b1aa7b2fc45bc019ff4780922862f4cf", func := "magpie/magpielaw07.EvalFuel", spec := "evalFuel", unfollowed := true, recurses := true, named := ["magpie/code.lasts"], apart := false, laid := [("magpie/code.lasts", laid_magpie_code_lasts)], narrowed := true }
def EvalFuelUptoSaid : Prop := evalFuelUptoRow.holds Tryd.pinned (OpenSpec.upto evalFuelSpec)

/-- 'magpielaw07.EvalErrors', WHERE WHAT IT READS IS OF BULK AT MOST 1048576: true; the input reads as it did. -/
def evalErrorsUptoRow : OpenClaim := { program := "ytpmapdialjdcbaadoor", sum := "daeb2169f64e50980e7431d66d747217b1aa7b2fc45bc019ff4780922862f4cf", func := "magpie/magpielaw07.EvalErrors", spec := "evalErrors", unfollowed := true, recurses := true, named := ["magpie/code.lasts"], apart := false, laid := [("magpie/code.lasts", laid_magpie_code_lasts)], narrowed := true }
def EvalErrorsUptoSaid : Prop := evalErrorsUptoRow.holds Tryd.pinned (OpenSpec.upto evalErrorsSpec)

/-- 'magpielaw07.EvalJoins', WHERE WHAT IT READS IS OF BULK AT MOST 1048576: true; the input reads as it did. -/
def evalJoinsUptoRow : OpenClaim := { program := "ytpmapdialjdcbaadoor", sum := "daeb2169f64e50980e7431d66d747217b1aa7b2fc45bc019ff4780922862f4cf", func := "magpie/magpielaw07.EvalJoins", spec := "evalJoins", unfollowed := true, recurses := true, named := ["magpie/code.lasts"], apart := false, laid := [("magpie/code.lasts", laid_magpie_code_lasts)], narrowed := true }
def EvalJoinsUptoSaid : Prop := evalJoinsUptoRow.holds Tryd.pinned (OpenSpec.upto evalJoinsSpec)

end Rows
end Go.Proofs.YtpmapdialjdcbaaDoor
