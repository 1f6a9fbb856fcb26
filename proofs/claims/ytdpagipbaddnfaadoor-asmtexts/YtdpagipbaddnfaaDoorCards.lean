/-
  DERIVED. GIVEN WITH THE SEED: THE CARDS: each row of YtdpagipbaddnfaaDoorRows.lean that lists a variable, with what it lists TIED to the program's text (the seventh form; the later family's looks); each row that meets fmt, with fmt's text TOLD by the authors' own Lean function (tested against real Go, not proved from fmt's source: count such statements apart). THE CARD IS WHAT COUNTS. Prove the row's statement (the work); the ties are given (YtdpagipbaddnfaaDoorTie.lean); close each card by the builder's one call (the guide's Derived/Test/ToyasCard.lean, 'card_holds'). Laid BY PROGRAM, IN A SANDBOX (cutbox-door.mjs). By AI agents, Wed Nov 11 2026. No macro, syntax, notation, axiom, sorry.
-/
import Derived.Test.YtdpagipbaddnfaaDoorRows
import GoSem.ClaimSeven
namespace Go.Proofs.YtdpagipbaddnfaaDoor
namespace Rows

/-- THE TIED CARD OF 'magpielaw04.AsmAll'. -/
def asmAllCard : Claim7 := { stood := { row := asmAllRow, standIns := [], harness := (true, "bf2d7438588401cdf339e23c979d24d51fd3d08a4162b90e2925a9248f18b9b4"), looks := false }, kinds := [], alts := [], laidByText := true, laidKinds := [.data, .data, .data, .data, .data], laidTests := true, laidLooks := .later }
def AsmAllCardSaid : Prop := Claim7.holds Tryd.pinned (.plain (OpenSpec.ofChange asmAllSpec)) asmAllCard

/-- THE TIED CARD OF 'magpielaw04.AsmLines'. -/
def asmLinesCard : Claim7 := { stood := { row := asmLinesRow, standIns := [], harness := (true, "bf2d7438588401cdf339e23c979d24d51fd3d08a4162b90e2925a9248f18b9b4"), looks := false }, kinds := [], alts := [], laidByText := true, laidKinds := [.data, .data], laidTests := true, laidLooks := .later }
def AsmLinesCardSaid : Prop := Claim7.holds Tryd.pinned (.plain (OpenSpec.ofChange asmLinesSpec)) asmLinesCard

/-- THE TIED CARD OF 'magpielaw04.AsmHeads'. -/
def asmHeadsCard : Claim7 := { stood := { row := asmHeadsRow, standIns := [], harness := (true, "bf2d7438588401cdf339e23c979d24d51fd3d08a4162b90e2925a9248f18b9b4"), looks := false }, kinds := [], alts := [], laidByText := true, laidKinds := [.data, .data], laidTests := true, laidLooks := .later }
def AsmHeadsCardSaid : Prop := Claim7.holds Tryd.pinned (.plain (OpenSpec.ofChange asmHeadsSpec)) asmHeadsCard

/-- THE TIED CARD OF 'magpielaw04.AsmShapes'. -/
def asmShapesCard : Claim7 := { stood := { row := asmShapesRow, standIns := [], harness := (true, "bf2d7438588401cdf339e23c979d24d51fd3d08a4162b90e2925a9248f18b9b4"), looks := false }, kinds := [], alts := [], laidByText := true, laidKinds := [.data, .data], laidTests := true, laidLooks := .later }
def AsmShapesCardSaid : Prop := Claim7.holds Tryd.pinned (.plain (OpenSpec.ofChange asmShapesSpec)) asmShapesCard

/-- THE TIED CARD OF 'magpielaw04.AsmTexts'. -/
def asmTextsCard : Claim7 := { stood := { row := asmTextsRow, standIns := [], harness := (true, "bf2d7438588401cdf339e23c979d24d51fd3d08a4162b90e2925a9248f18b9b4"), looks := false }, kinds := [], alts := [], laidByText := true, laidKinds := [.data, .data, .data, .data, .data], laidTests := true, laidLooks := .later }
def AsmTextsCardSaid : Prop := Claim7.holds Tryd.pinned (.plain (OpenSpec.ofChange asmTextsSpec)) asmTextsCard

/-- THE SECOND FORM's CARD OF 'magpielaw04.AsmAll'. -/
def asmAllUptoCard : Claim7 := { stood := { row := asmAllUptoRow, standIns := [], harness := (true, "bf2d7438588401cdf339e23c979d24d51fd3d08a4162b90e2925a9248f18b9b4"), looks := false }, kinds := [], alts := [], laidByText := true, laidKinds := [.data, .data, .data, .data, .data], laidTests := true, laidLooks := .later }
def AsmAllUptoCardSaid : Prop := Claim7.holds Tryd.pinned (.plain (OpenSpec.upto asmAllSpec)) asmAllUptoCard

/-- THE SECOND FORM's CARD OF 'magpielaw04.AsmLines'. -/
def asmLinesUptoCard : Claim7 := { stood := { row := asmLinesUptoRow, standIns := [], harness := (true, "bf2d7438588401cdf339e23c979d24d51fd3d08a4162b90e2925a9248f18b9b4"), looks := false }, kinds := [], alts := [], laidByText := true, laidKinds := [.data, .data], laidTests := true, laidLooks := .later }
def AsmLinesUptoCardSaid : Prop := Claim7.holds Tryd.pinned (.plain (OpenSpec.upto asmLinesSpec)) asmLinesUptoCard

/-- THE SECOND FORM's CARD OF 'magpielaw04.AsmHeads'. -/
def asmHeadsUptoCard : Claim7 := { stood := { row := asmHeadsUptoRow, standIns := [], harness := (true, "bf2d7438588401cdf339e23c979d24d51fd3d08a4162b90e2925a9248f18b9b4"), looks := false }, kinds := [], alts := [], laidByText := true, laidKinds := [.data, .data], laidTests := true, laidLooks := .later }
def AsmHeadsUptoCardSaid : Prop := Claim7.holds Tryd.pinned (.plain (OpenSpec.upto asmHeadsSpec)) asmHeadsUptoCard

/-- THE SECOND FORM's CARD OF 'magpielaw04.AsmShapes'. -/
def asmShapesUptoCard : Claim7 := { stood := { row := asmShapesUptoRow, standIns := [], harness := (true, "bf2d7438588401cdf339e23c979d24d51fd3d08a4162b90e2925a9248f18b9b4"), looks := false }, kinds := [], alts := [], laidByText := true, laidKinds := [.data, .data], laidTests := true, laidLooks := .later }
def AsmShapesUptoCardSaid : Prop := Claim7.holds Tryd.pinned (.plain (OpenSpec.upto asmShapesSpec)) asmShapesUptoCard

/-- THE SECOND FORM's CARD OF 'magpielaw04.AsmTexts'. -/
def asmTextsUptoCard : Claim7 := { stood := { row := asmTextsUptoRow, standIns := [], harness := (true, "bf2d7438588401cdf339e23c979d24d51fd3d08a4162b90e2925a9248f18b9b4"), looks := false }, kinds := [], alts := [], laidByText := true, laidKinds := [.data, .data, .data, .data, .data], laidTests := true, laidLooks := .later }
def AsmTextsUptoCardSaid : Prop := Claim7.holds Tryd.pinned (.plain (OpenSpec.upto asmTextsSpec)) asmTextsUptoCard
end Rows
end Go.Proofs.YtdpagipbaddnfaaDoor
