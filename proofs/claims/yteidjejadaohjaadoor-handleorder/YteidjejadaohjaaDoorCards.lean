/-
  DERIVED. GIVEN WITH THE SEED: THE CARDS: each row of YteidjejadaohjaaDoorRows.lean that lists a variable, with what it lists TIED to the program's text (the seventh form; the later family's looks); each row that meets fmt, with fmt's text TOLD by the authors' own Lean function (tested against real Go, not proved from fmt's source: count such statements apart). THE CARD IS WHAT COUNTS. Prove the row's statement (the work); the ties are given (YteidjejadaohjaaDoorTie.lean); close each card by the builder's one call (the guide's Derived/Test/ToyasCard.lean, 'card_holds'). Laid BY PROGRAM, IN A SANDBOX (cutbox-door.mjs). By AI agents, Wed Nov 11 2026. No macro, syntax, notation, axiom, sorry.
-/
import Derived.Test.YteidjejadaohjaaDoorRows
import GoSem.ClaimSeven
namespace Go.Proofs.YteidjejadaohjaaDoor
namespace Rows

/-- THE TIED CARD OF 'magpielaw08.HandleBack'. -/
def handleBackCard : Claim7 := { stood := { row := handleBackRow, standIns := [], harness := (true, "41f9503c3a2bfa0a80cb727e5be7cd8c0f90f29b1824fe640e36fc22931a7669"), looks := false }, kinds := [], alts := [], laidByText := true, laidKinds := [.data, .data], laidTests := true, laidLooks := .later }
def HandleBackCardSaid : Prop := Claim7.holds Tryd.pinned (.plain (OpenSpec.ofChange handleBackSpec)) handleBackCard

/-- THE TIED CARD OF 'magpielaw08.HandleOrder'. -/
def handleOrderCard : Claim7 := { stood := { row := handleOrderRow, standIns := [], harness := (true, "41f9503c3a2bfa0a80cb727e5be7cd8c0f90f29b1824fe640e36fc22931a7669"), looks := false }, kinds := [], alts := [], laidByText := true, laidKinds := [.data, .data], laidTests := true, laidLooks := .later }
def HandleOrderCardSaid : Prop := Claim7.holds Tryd.pinned (.plain (OpenSpec.ofChange handleOrderSpec)) handleOrderCard

/-- THE TIED CARD OF 'magpielaw08.HandleNone'. -/
def handleNoneCard : Claim7 := { stood := { row := handleNoneRow, standIns := [], harness := (true, "41f9503c3a2bfa0a80cb727e5be7cd8c0f90f29b1824fe640e36fc22931a7669"), looks := false }, kinds := [], alts := [], laidByText := true, laidKinds := [.data, .data], laidTests := true, laidLooks := .later }
def HandleNoneCardSaid : Prop := Claim7.holds Tryd.pinned (.plain (OpenSpec.ofChange handleNoneSpec)) handleNoneCard

/-- THE SECOND FORM's CARD OF 'magpielaw08.HandleBack'. -/
def handleBackUptoCard : Claim7 := { stood := { row := handleBackUptoRow, standIns := [], harness := (true, "41f9503c3a2bfa0a80cb727e5be7cd8c0f90f29b1824fe640e36fc22931a7669"), looks := false }, kinds := [], alts := [], laidByText := true, laidKinds := [.data, .data], laidTests := true, laidLooks := .later }
def HandleBackUptoCardSaid : Prop := Claim7.holds Tryd.pinned (.plain (OpenSpec.upto handleBackSpec)) handleBackUptoCard

/-- THE SECOND FORM's CARD OF 'magpielaw08.HandleOrder'. -/
def handleOrderUptoCard : Claim7 := { stood := { row := handleOrderUptoRow, standIns := [], harness := (true, "41f9503c3a2bfa0a80cb727e5be7cd8c0f90f29b1824fe640e36fc22931a7669"), looks := false }, kinds := [], alts := [], laidByText := true, laidKinds := [.data, .data], laidTests := true, laidLooks := .later }
def HandleOrderUptoCardSaid : Prop := Claim7.holds Tryd.pinned (.plain (OpenSpec.upto handleOrderSpec)) handleOrderUptoCard

/-- THE SECOND FORM's CARD OF 'magpielaw08.HandleNone'. -/
def handleNoneUptoCard : Claim7 := { stood := { row := handleNoneUptoRow, standIns := [], harness := (true, "41f9503c3a2bfa0a80cb727e5be7cd8c0f90f29b1824fe640e36fc22931a7669"), looks := false }, kinds := [], alts := [], laidByText := true, laidKinds := [.data, .data], laidTests := true, laidLooks := .later }
def HandleNoneUptoCardSaid : Prop := Claim7.holds Tryd.pinned (.plain (OpenSpec.upto handleNoneSpec)) handleNoneUptoCard
end Rows
end Go.Proofs.YteidjejadaohjaaDoor
