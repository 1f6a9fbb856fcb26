/-
  DERIVED. GIVEN WITH THE SEED: THE CARDS: each row of YtpmapdialjdcbabDoorRows.lean that lists a variable, with what it lists TIED to the program's text (the seventh form; the later family's looks); each row that meets fmt, with fmt's text TOLD by the authors' own Lean function (tested against real Go, not proved from fmt's source: count such statements apart). THE CARD IS WHAT COUNTS. Prove the row's statement (the work); the ties are given (YtpmapdialjdcbabDoorTie.lean); close each card by the builder's one call (the guide's Derived/Test/ToyasCard.lean, 'card_holds'). Laid BY PROGRAM, IN A SANDBOX (cutbox-door.mjs). By AI agents, Wed Nov 11 2026. No macro, syntax, notation, axiom, sorry.
-/
import Derived.Test.YtpmapdialjdcbabDoorRows
import GoSem.ClaimSeven
namespace Go.Proofs.YtpmapdialjdcbabDoor
namespace Rows

/-- THE TIED CARD OF 'magpielaw07.EvalRuns'. -/
def evalRunsCard : Claim7 := { stood := { row := evalRunsRow, standIns := [], harness := (true, "4ba86ef5ecbe3b6aa503fdeb0683a07cbbf7b9d844b812a45a8554fd21f87eb5"), looks := true }, kinds := [], alts := [], laidByText := true, laidKinds := [.data], laidTests := true, laidLooks := .later }
def EvalRunsCardSaid : Prop := Claim7.holds Tryd.pinned (.plain (OpenSpec.ofChange evalRunsSpec)) evalRunsCard

/-- THE TIED CARD OF 'magpielaw08.HandleBack'. -/
def handleBackCard : Claim7 := { stood := { row := handleBackRow, standIns := [], harness := (true, "4ba86ef5ecbe3b6aa503fdeb0683a07cbbf7b9d844b812a45a8554fd21f87eb5"), looks := true }, kinds := [], alts := [], laidByText := true, laidKinds := [.data, .data], laidTests := true, laidLooks := .later }
def HandleBackCardSaid : Prop := Claim7.holds Tryd.pinned (.plain (OpenSpec.ofChange handleBackSpec)) handleBackCard

/-- THE TIED CARD OF 'magpielaw08.HandleOrder'. -/
def handleOrderCard : Claim7 := { stood := { row := handleOrderRow, standIns := [], harness := (true, "4ba86ef5ecbe3b6aa503fdeb0683a07cbbf7b9d844b812a45a8554fd21f87eb5"), looks := true }, kinds := [], alts := [], laidByText := true, laidKinds := [.data, .data], laidTests := true, laidLooks := .later }
def HandleOrderCardSaid : Prop := Claim7.holds Tryd.pinned (.plain (OpenSpec.ofChange handleOrderSpec)) handleOrderCard

/-- THE TIED CARD OF 'magpielaw08.HandleNone'. -/
def handleNoneCard : Claim7 := { stood := { row := handleNoneRow, standIns := [], harness := (true, "4ba86ef5ecbe3b6aa503fdeb0683a07cbbf7b9d844b812a45a8554fd21f87eb5"), looks := true }, kinds := [], alts := [], laidByText := true, laidKinds := [.data, .data], laidTests := true, laidLooks := .later }
def HandleNoneCardSaid : Prop := Claim7.holds Tryd.pinned (.plain (OpenSpec.ofChange handleNoneSpec)) handleNoneCard

/-- THE SECOND FORM's CARD OF 'magpielaw07.EvalRuns'. -/
def evalRunsUptoCard : Claim7 := { stood := { row := evalRunsUptoRow, standIns := [], harness := (true, "4ba86ef5ecbe3b6aa503fdeb0683a07cbbf7b9d844b812a45a8554fd21f87eb5"), looks := true }, kinds := [], alts := [], laidByText := true, laidKinds := [.data], laidTests := true, laidLooks := .later }
def EvalRunsUptoCardSaid : Prop := Claim7.holds Tryd.pinned (.plain (OpenSpec.upto evalRunsSpec)) evalRunsUptoCard

/-- THE SECOND FORM's CARD OF 'magpielaw08.HandleBack'. -/
def handleBackUptoCard : Claim7 := { stood := { row := handleBackUptoRow, standIns := [], harness := (true, "4ba86ef5ecbe3b6aa503fdeb0683a07cbbf7b9d844b812a45a8554fd21f87eb5"), looks := true }, kinds := [], alts := [], laidByText := true, laidKinds := [.data, .data], laidTests := true, laidLooks := .later }
def HandleBackUptoCardSaid : Prop := Claim7.holds Tryd.pinned (.plain (OpenSpec.upto handleBackSpec)) handleBackUptoCard

/-- THE SECOND FORM's CARD OF 'magpielaw08.HandleOrder'. -/
def handleOrderUptoCard : Claim7 := { stood := { row := handleOrderUptoRow, standIns := [], harness := (true, "4ba86ef5ecbe3b6aa503fdeb0683a07cbbf7b9d844b812a45a8554fd21f87eb5"), looks := true }, kinds := [], alts := [], laidByText := true, laidKinds := [.data, .data], laidTests := true, laidLooks := .later }
def HandleOrderUptoCardSaid : Prop := Claim7.holds Tryd.pinned (.plain (OpenSpec.upto handleOrderSpec)) handleOrderUptoCard

/-- THE SECOND FORM's CARD OF 'magpielaw08.HandleNone'. -/
def handleNoneUptoCard : Claim7 := { stood := { row := handleNoneUptoRow, standIns := [], harness := (true, "4ba86ef5ecbe3b6aa503fdeb0683a07cbbf7b9d844b812a45a8554fd21f87eb5"), looks := true }, kinds := [], alts := [], laidByText := true, laidKinds := [.data, .data], laidTests := true, laidLooks := .later }
def HandleNoneUptoCardSaid : Prop := Claim7.holds Tryd.pinned (.plain (OpenSpec.upto handleNoneSpec)) handleNoneUptoCard
end Rows
end Go.Proofs.YtpmapdialjdcbabDoor
