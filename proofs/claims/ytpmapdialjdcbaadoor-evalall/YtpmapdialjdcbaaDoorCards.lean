/-
  DERIVED. GIVEN WITH THE SEED: THE CARDS: each row of YtpmapdialjdcbaaDoorRows.lean that lists a variable, with what it lists TIED to the program's text (the seventh form; the later family's looks); each row that meets fmt, with fmt's text TOLD by the authors' own Lean function (tested against real Go, not proved from fmt's source: count such statements apart). THE CARD IS WHAT COUNTS. Prove the row's statement (the work); the ties are given (YtpmapdialjdcbaaDoorTie.lean); close each card by the builder's one call (the guide's Derived/Test/ToyasCard.lean, 'card_holds'). Laid BY PROGRAM, IN A SANDBOX (cutbox-door.mjs). By AI agents, Wed Nov 11 2026. No macro, syntax, notation, axiom, sorry.
-/
import Derived.Test.YtpmapdialjdcbaaDoorRows
import GoSem.ClaimSeven
namespace Go.Proofs.YtpmapdialjdcbaaDoor
namespace Rows

/-- THE TIED CARD OF 'magpielaw07.EvalAll'. -/
def evalAllCard : Claim7 := { stood := { row := evalAllRow, standIns := [], harness := (true, "0aaa301e0e76d0b916f5b547be7b4c436bb5c5a69e23513685b690b5000c3100"), looks := true }, kinds := [], alts := [], laidByText := true, laidKinds := [.data], laidTests := true, laidLooks := .later }
def EvalAllCardSaid : Prop := Claim7.holds Tryd.pinned (.plain (OpenSpec.ofChange evalAllSpec)) evalAllCard

/-- THE TIED CARD OF 'magpielaw07.EvalNumbers'. -/
def evalNumbersCard : Claim7 := { stood := { row := evalNumbersRow, standIns := [], harness := (true, "0aaa301e0e76d0b916f5b547be7b4c436bb5c5a69e23513685b690b5000c3100"), looks := true }, kinds := [], alts := [], laidByText := true, laidKinds := [.data], laidTests := true, laidLooks := .later }
def EvalNumbersCardSaid : Prop := Claim7.holds Tryd.pinned (.plain (OpenSpec.ofChange evalNumbersSpec)) evalNumbersCard

/-- THE TIED CARD OF 'magpielaw07.EvalTrees'. -/
def evalTreesCard : Claim7 := { stood := { row := evalTreesRow, standIns := [], harness := (true, "0aaa301e0e76d0b916f5b547be7b4c436bb5c5a69e23513685b690b5000c3100"), looks := true }, kinds := [], alts := [], laidByText := true, laidKinds := [.data], laidTests := true, laidLooks := .later }
def EvalTreesCardSaid : Prop := Claim7.holds Tryd.pinned (.plain (OpenSpec.ofChange evalTreesSpec)) evalTreesCard

/-- THE TIED CARD OF 'magpielaw07.EvalFuel'. -/
def evalFuelCard : Claim7 := { stood := { row := evalFuelRow, standIns := [], harness := (true, "0aaa301e0e76d0b916f5b547be7b4c436bb5c5a69e23513685b690b5000c3100"), looks := true }, kinds := [], alts := [], laidByText := true, laidKinds := [.data], laidTests := true, laidLooks := .later }
def EvalFuelCardSaid : Prop := Claim7.holds Tryd.pinned (.plain (OpenSpec.ofChange evalFuelSpec)) evalFuelCard

/-- THE TIED CARD OF 'magpielaw07.EvalErrors'. -/
def evalErrorsCard : Claim7 := { stood := { row := evalErrorsRow, standIns := [], harness := (true, "0aaa301e0e76d0b916f5b547be7b4c436bb5c5a69e23513685b690b5000c3100"), looks := true }, kinds := [], alts := [], laidByText := true, laidKinds := [.data], laidTests := true, laidLooks := .later }
def EvalErrorsCardSaid : Prop := Claim7.holds Tryd.pinned (.plain (OpenSpec.ofChange evalErrorsSpec)) evalErrorsCard

/-- THE TIED CARD OF 'magpielaw07.EvalJoins'. -/
def evalJoinsCard : Claim7 := { stood := { row := evalJoinsRow, standIns := [], harness := (true, "0aaa301e0e76d0b916f5b547be7b4c436bb5c5a69e23513685b690b5000c3100"), looks := true }, kinds := [], alts := [], laidByText := true, laidKinds := [.data], laidTests := true, laidLooks := .later }
def EvalJoinsCardSaid : Prop := Claim7.holds Tryd.pinned (.plain (OpenSpec.ofChange evalJoinsSpec)) evalJoinsCard

/-- THE SECOND FORM's CARD OF 'magpielaw07.EvalAll'. -/
def evalAllUptoCard : Claim7 := { stood := { row := evalAllUptoRow, standIns := [], harness := (true, "0aaa301e0e76d0b916f5b547be7b4c436bb5c5a69e23513685b690b5000c3100"), looks := true }, kinds := [], alts := [], laidByText := true, laidKinds := [.data], laidTests := true, laidLooks := .later }
def EvalAllUptoCardSaid : Prop := Claim7.holds Tryd.pinned (.plain (OpenSpec.upto evalAllSpec)) evalAllUptoCard

/-- THE SECOND FORM's CARD OF 'magpielaw07.EvalNumbers'. -/
def evalNumbersUptoCard : Claim7 := { stood := { row := evalNumbersUptoRow, standIns := [], harness := (true, "0aaa301e0e76d0b916f5b547be7b4c436bb5c5a69e23513685b690b5000c3100"), looks := true }, kinds := [], alts := [], laidByText := true, laidKinds := [.data], laidTests := true, laidLooks := .later }
def EvalNumbersUptoCardSaid : Prop := Claim7.holds Tryd.pinned (.plain (OpenSpec.upto evalNumbersSpec)) evalNumbersUptoCard

/-- THE SECOND FORM's CARD OF 'magpielaw07.EvalTrees'. -/
def evalTreesUptoCard : Claim7 := { stood := { row := evalTreesUptoRow, standIns := [], harness := (true, "0aaa301e0e76d0b916f5b547be7b4c436bb5c5a69e23513685b690b5000c3100"), looks := true }, kinds := [], alts := [], laidByText := true, laidKinds := [.data], laidTests := true, laidLooks := .later }
def EvalTreesUptoCardSaid : Prop := Claim7.holds Tryd.pinned (.plain (OpenSpec.upto evalTreesSpec)) evalTreesUptoCard

/-- THE SECOND FORM's CARD OF 'magpielaw07.EvalFuel'. -/
def evalFuelUptoCard : Claim7 := { stood := { row := evalFuelUptoRow, standIns := [], harness := (true, "0aaa301e0e76d0b916f5b547be7b4c436bb5c5a69e23513685b690b5000c3100"), looks := true }, kinds := [], alts := [], laidByText := true, laidKinds := [.data], laidTests := true, laidLooks := .later }
def EvalFuelUptoCardSaid : Prop := Claim7.holds Tryd.pinned (.plain (OpenSpec.upto evalFuelSpec)) evalFuelUptoCard

/-- THE SECOND FORM's CARD OF 'magpielaw07.EvalErrors'. -/
def evalErrorsUptoCard : Claim7 := { stood := { row := evalErrorsUptoRow, standIns := [], harness := (true, "0aaa301e0e76d0b916f5b547be7b4c436bb5c5a69e23513685b690b5000c3100"), looks := true }, kinds := [], alts := [], laidByText := true, laidKinds := [.data], laidTests := true, laidLooks := .later }
def EvalErrorsUptoCardSaid : Prop := Claim7.holds Tryd.pinned (.plain (OpenSpec.upto evalErrorsSpec)) evalErrorsUptoCard

/-- THE SECOND FORM's CARD OF 'magpielaw07.EvalJoins'. -/
def evalJoinsUptoCard : Claim7 := { stood := { row := evalJoinsUptoRow, standIns := [], harness := (true, "0aaa301e0e76d0b916f5b547be7b4c436bb5c5a69e23513685b690b5000c3100"), looks := true }, kinds := [], alts := [], laidByText := true, laidKinds := [.data], laidTests := true, laidLooks := .later }
def EvalJoinsUptoCardSaid : Prop := Claim7.holds Tryd.pinned (.plain (OpenSpec.upto evalJoinsSpec)) evalJoinsUptoCard
end Rows
end Go.Proofs.YtpmapdialjdcbaaDoor
