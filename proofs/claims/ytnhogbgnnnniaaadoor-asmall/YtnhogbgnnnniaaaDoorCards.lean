/-
  DERIVED. GIVEN WITH THE SEED: THE CARDS: each row of YtnhogbgnnnniaaaDoorRows.lean that lists a variable, with what it lists TIED to the program's text (the seventh form; the later family's looks); each row that meets fmt, with fmt's text TOLD by the authors' own Lean function (tested against real Go, not proved from fmt's source: count such statements apart). THE CARD IS WHAT COUNTS. Prove the row's statement (the work); the ties are given (YtnhogbgnnnniaaaDoorTie.lean); close each card by the builder's one call (the guide's Derived/Test/ToyasCard.lean, 'card_holds'). Laid BY PROGRAM, IN A SANDBOX (cutbox-door.mjs). By AI agents, Wed Nov 11 2026. No macro, syntax, notation, axiom, sorry.
-/
import Derived.Test.YtnhogbgnnnniaaaDoorRows
import GoSem.ClaimSeven
namespace Go.Proofs.YtnhogbgnnnniaaaDoor
namespace Rows

/-- THE TIED CARD OF 'magpielaw04.AsmAll'. -/
def asmAllCard : Claim7 := { stood := { row := asmAllRow, standIns := [], harness := (true, "ca8dc307c07ce0c94c6bb64f3200c0d11365839b461aa862174394d39b5b2462"), looks := false }, kinds := [], alts := [], laidByText := true, laidKinds := [.data, .data, .data, .data, .data], laidTests := true, laidLooks := .later }
def AsmAllCardSaid : Prop := Claim7.holds Tryd.pinned (.plain (OpenSpec.ofChange asmAllSpec)) asmAllCard

/-- THE TIED CARD OF 'magpielaw05.ValidAll'. -/
def validAllCard : Claim7 := { stood := { row := validAllRow, standIns := [], harness := (true, "ca8dc307c07ce0c94c6bb64f3200c0d11365839b461aa862174394d39b5b2462"), looks := false }, kinds := [], alts := [], laidByText := true, laidKinds := [.data], laidTests := true, laidLooks := .later }
def ValidAllCardSaid : Prop := Claim7.holds Tryd.pinned (.plain (OpenSpec.ofChange validAllSpec)) validAllCard

/-- THE TIED CARD OF 'magpielaw05.ValidSpoilt'. -/
def validSpoiltCard : Claim7 := { stood := { row := validSpoiltRow, standIns := [], harness := (true, "ca8dc307c07ce0c94c6bb64f3200c0d11365839b461aa862174394d39b5b2462"), looks := false }, kinds := [], alts := [], laidByText := true, laidKinds := [.data], laidTests := true, laidLooks := .later }
def ValidSpoiltCardSaid : Prop := Claim7.holds Tryd.pinned (.plain (OpenSpec.ofChange validSpoiltSpec)) validSpoiltCard

/-- THE TIED CARD OF 'magpielaw05.ValidCounts'. -/
def validCountsCard : Claim7 := { stood := { row := validCountsRow, standIns := [], harness := (true, "ca8dc307c07ce0c94c6bb64f3200c0d11365839b461aa862174394d39b5b2462"), looks := false }, kinds := [], alts := [], laidByText := true, laidKinds := [.data], laidTests := true, laidLooks := .later }
def ValidCountsCardSaid : Prop := Claim7.holds Tryd.pinned (.plain (OpenSpec.ofChange validCountsSpec)) validCountsCard

/-- THE SECOND FORM's CARD OF 'magpielaw04.AsmAll'. -/
def asmAllUptoCard : Claim7 := { stood := { row := asmAllUptoRow, standIns := [], harness := (true, "ca8dc307c07ce0c94c6bb64f3200c0d11365839b461aa862174394d39b5b2462"), looks := false }, kinds := [], alts := [], laidByText := true, laidKinds := [.data, .data, .data, .data, .data], laidTests := true, laidLooks := .later }
def AsmAllUptoCardSaid : Prop := Claim7.holds Tryd.pinned (.plain (OpenSpec.upto asmAllSpec)) asmAllUptoCard

/-- THE SECOND FORM's CARD OF 'magpielaw05.ValidAll'. -/
def validAllUptoCard : Claim7 := { stood := { row := validAllUptoRow, standIns := [], harness := (true, "ca8dc307c07ce0c94c6bb64f3200c0d11365839b461aa862174394d39b5b2462"), looks := false }, kinds := [], alts := [], laidByText := true, laidKinds := [.data], laidTests := true, laidLooks := .later }
def ValidAllUptoCardSaid : Prop := Claim7.holds Tryd.pinned (.plain (OpenSpec.upto validAllSpec)) validAllUptoCard

/-- THE SECOND FORM's CARD OF 'magpielaw05.ValidSpoilt'. -/
def validSpoiltUptoCard : Claim7 := { stood := { row := validSpoiltUptoRow, standIns := [], harness := (true, "ca8dc307c07ce0c94c6bb64f3200c0d11365839b461aa862174394d39b5b2462"), looks := false }, kinds := [], alts := [], laidByText := true, laidKinds := [.data], laidTests := true, laidLooks := .later }
def ValidSpoiltUptoCardSaid : Prop := Claim7.holds Tryd.pinned (.plain (OpenSpec.upto validSpoiltSpec)) validSpoiltUptoCard

/-- THE SECOND FORM's CARD OF 'magpielaw05.ValidCounts'. -/
def validCountsUptoCard : Claim7 := { stood := { row := validCountsUptoRow, standIns := [], harness := (true, "ca8dc307c07ce0c94c6bb64f3200c0d11365839b461aa862174394d39b5b2462"), looks := false }, kinds := [], alts := [], laidByText := true, laidKinds := [.data], laidTests := true, laidLooks := .later }
def ValidCountsUptoCardSaid : Prop := Claim7.holds Tryd.pinned (.plain (OpenSpec.upto validCountsSpec)) validCountsUptoCard
end Rows
end Go.Proofs.YtnhogbgnnnniaaaDoor
