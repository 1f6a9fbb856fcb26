/-
  DERIVED. GIVEN WITH THE SEED: THE CARDS: each row of YtopnkfbcphbbiaaDoorRows.lean that lists a variable, with what it lists TIED to the program's text (the seventh form; the later family's looks); each row that meets fmt, with fmt's text TOLD by the authors' own Lean function (tested against real Go, not proved from fmt's source: count such statements apart). THE CARD IS WHAT COUNTS. Prove the row's statement (the work); the ties are given (YtopnkfbcphbbiaaDoorTie.lean); close each card by the builder's one call (the guide's Derived/Test/ToyasCard.lean, 'card_holds'). Laid BY PROGRAM, IN A SANDBOX (cutbox-door.mjs). By AI agents, Wed Nov 11 2026. No macro, syntax, notation, axiom, sorry.
-/
import Derived.Test.YtopnkfbcphbbiaaDoorRows
import GoSem.ClaimSeven
namespace Go.Proofs.YtopnkfbcphbbiaaDoor
namespace Rows

/-- THE TIED CARD OF 'magpielaw12.HazardScans'. -/
def hazardScansCard : Claim7 := { stood := { row := hazardScansRow, standIns := [], harness := (true, "51c47bc6905e21594d0bf9e7585e38a03d7dced6a6cc5feef99a13ee72d109d7"), looks := false }, kinds := [], alts := [], laidByText := true, laidKinds := [.data, .data], laidTests := true, laidLooks := .later }
def HazardScansCardSaid : Prop := Claim7.holds Tryd.pinned (.plain (OpenSpec.ofChange hazardScansSpec)) hazardScansCard

/-- THE TIED CARD OF 'magpielaw12.HazardKeeps'. -/
def hazardKeepsCard : Claim7 := { stood := { row := hazardKeepsRow, standIns := [], harness := (true, "51c47bc6905e21594d0bf9e7585e38a03d7dced6a6cc5feef99a13ee72d109d7"), looks := false }, kinds := [], alts := [], laidByText := true, laidKinds := [.data, .data], laidTests := true, laidLooks := .later }
def HazardKeepsCardSaid : Prop := Claim7.holds Tryd.pinned (.plain (OpenSpec.ofChange hazardKeepsSpec)) hazardKeepsCard

/-- THE TIED CARD OF 'magpielaw12.HazardWords'. -/
def hazardWordsCard : Claim7 := { stood := { row := hazardWordsRow, standIns := [], harness := (true, "51c47bc6905e21594d0bf9e7585e38a03d7dced6a6cc5feef99a13ee72d109d7"), looks := false }, kinds := [], alts := [], laidByText := true, laidKinds := [.data], laidTests := true, laidLooks := .later }
def HazardWordsCardSaid : Prop := Claim7.holds Tryd.pinned (.plain (OpenSpec.ofChange hazardWordsSpec)) hazardWordsCard

/-- THE TIED CARD OF 'magpielaw12.HazardTwice'. -/
def hazardTwiceCard : Claim7 := { stood := { row := hazardTwiceRow, standIns := [], harness := (true, "51c47bc6905e21594d0bf9e7585e38a03d7dced6a6cc5feef99a13ee72d109d7"), looks := false }, kinds := [], alts := [], laidByText := true, laidKinds := [.data], laidTests := true, laidLooks := .later }
def HazardTwiceCardSaid : Prop := Claim7.holds Tryd.pinned (.plain (OpenSpec.ofChange hazardTwiceSpec)) hazardTwiceCard

/-- THE TIED CARD OF 'magpielaw12.HazardOthers'. -/
def hazardOthersCard : Claim7 := { stood := { row := hazardOthersRow, standIns := [], harness := (true, "51c47bc6905e21594d0bf9e7585e38a03d7dced6a6cc5feef99a13ee72d109d7"), looks := false }, kinds := [], alts := [], laidByText := true, laidKinds := [.data], laidTests := true, laidLooks := .later }
def HazardOthersCardSaid : Prop := Claim7.holds Tryd.pinned (.plain (OpenSpec.ofChange hazardOthersSpec)) hazardOthersCard

/-- THE SECOND FORM's CARD OF 'magpielaw12.HazardScans'. -/
def hazardScansUptoCard : Claim7 := { stood := { row := hazardScansUptoRow, standIns := [], harness := (true, "51c47bc6905e21594d0bf9e7585e38a03d7dced6a6cc5feef99a13ee72d109d7"), looks := false }, kinds := [], alts := [], laidByText := true, laidKinds := [.data, .data], laidTests := true, laidLooks := .later }
def HazardScansUptoCardSaid : Prop := Claim7.holds Tryd.pinned (.plain (OpenSpec.upto hazardScansSpec)) hazardScansUptoCard

/-- THE SECOND FORM's CARD OF 'magpielaw12.HazardKeeps'. -/
def hazardKeepsUptoCard : Claim7 := { stood := { row := hazardKeepsUptoRow, standIns := [], harness := (true, "51c47bc6905e21594d0bf9e7585e38a03d7dced6a6cc5feef99a13ee72d109d7"), looks := false }, kinds := [], alts := [], laidByText := true, laidKinds := [.data, .data], laidTests := true, laidLooks := .later }
def HazardKeepsUptoCardSaid : Prop := Claim7.holds Tryd.pinned (.plain (OpenSpec.upto hazardKeepsSpec)) hazardKeepsUptoCard

/-- THE SECOND FORM's CARD OF 'magpielaw12.HazardWords'. -/
def hazardWordsUptoCard : Claim7 := { stood := { row := hazardWordsUptoRow, standIns := [], harness := (true, "51c47bc6905e21594d0bf9e7585e38a03d7dced6a6cc5feef99a13ee72d109d7"), looks := false }, kinds := [], alts := [], laidByText := true, laidKinds := [.data], laidTests := true, laidLooks := .later }
def HazardWordsUptoCardSaid : Prop := Claim7.holds Tryd.pinned (.plain (OpenSpec.upto hazardWordsSpec)) hazardWordsUptoCard

/-- THE SECOND FORM's CARD OF 'magpielaw12.HazardTwice'. -/
def hazardTwiceUptoCard : Claim7 := { stood := { row := hazardTwiceUptoRow, standIns := [], harness := (true, "51c47bc6905e21594d0bf9e7585e38a03d7dced6a6cc5feef99a13ee72d109d7"), looks := false }, kinds := [], alts := [], laidByText := true, laidKinds := [.data], laidTests := true, laidLooks := .later }
def HazardTwiceUptoCardSaid : Prop := Claim7.holds Tryd.pinned (.plain (OpenSpec.upto hazardTwiceSpec)) hazardTwiceUptoCard

/-- THE SECOND FORM's CARD OF 'magpielaw12.HazardOthers'. -/
def hazardOthersUptoCard : Claim7 := { stood := { row := hazardOthersUptoRow, standIns := [], harness := (true, "51c47bc6905e21594d0bf9e7585e38a03d7dced6a6cc5feef99a13ee72d109d7"), looks := false }, kinds := [], alts := [], laidByText := true, laidKinds := [.data], laidTests := true, laidLooks := .later }
def HazardOthersUptoCardSaid : Prop := Claim7.holds Tryd.pinned (.plain (OpenSpec.upto hazardOthersSpec)) hazardOthersUptoCard
end Rows
end Go.Proofs.YtopnkfbcphbbiaaDoor
