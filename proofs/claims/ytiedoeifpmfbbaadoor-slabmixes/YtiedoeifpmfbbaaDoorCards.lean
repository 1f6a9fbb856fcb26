/-
  DERIVED. GIVEN WITH THE SEED: THE CARDS: each row of YtiedoeifpmfbbaaDoorRows.lean that lists a variable, with what it lists TIED to the program's text (the seventh form; the later family's looks); each row that meets fmt, with fmt's text TOLD by the authors' own Lean function (tested against real Go, not proved from fmt's source: count such statements apart). THE CARD IS WHAT COUNTS. Prove the row's statement (the work); the ties are given (YtiedoeifpmfbbaaDoorTie.lean); close each card by the builder's one call (the guide's Derived/Test/ToyasCard.lean, 'card_holds'). Laid BY PROGRAM, IN A SANDBOX (cutbox-door.mjs). By AI agents, Wed Nov 11 2026. No macro, syntax, notation, axiom, sorry.
-/
import Derived.Test.YtiedoeifpmfbbaaDoorRows
import GoSem.ClaimSeven
namespace Go.Proofs.YtiedoeifpmfbbaaDoor
namespace Rows

/-- THE TIED CARD OF 'magpielaw11.SlabOne'. -/
def slabOneCard : Claim7 := { stood := { row := slabOneRow, standIns := [], harness := (true, "2ac9c5f4ca3d36d6c4a8ca1047b2dd742bed4208fcb5b656e3239c10cba0363b"), looks := false }, kinds := [], alts := [], laidByText := true, laidKinds := [.data, .data], laidTests := true, laidLooks := .later }
def SlabOneCardSaid : Prop := Claim7.holds Tryd.pinned (.plain (OpenSpec.ofChange slabOneSpec)) slabOneCard

/-- THE TIED CARD OF 'magpielaw11.SlabMixes'. -/
def slabMixesCard : Claim7 := { stood := { row := slabMixesRow, standIns := [], harness := (true, "2ac9c5f4ca3d36d6c4a8ca1047b2dd742bed4208fcb5b656e3239c10cba0363b"), looks := false }, kinds := [], alts := [], laidByText := true, laidKinds := [.data, .data], laidTests := true, laidLooks := .later }
def SlabMixesCardSaid : Prop := Claim7.holds Tryd.pinned (.plain (OpenSpec.ofChange slabMixesSpec)) slabMixesCard

/-- THE TIED CARD OF 'magpielaw11.SlabAgain'. -/
def slabAgainCard : Claim7 := { stood := { row := slabAgainRow, standIns := [], harness := (true, "2ac9c5f4ca3d36d6c4a8ca1047b2dd742bed4208fcb5b656e3239c10cba0363b"), looks := false }, kinds := [], alts := [], laidByText := true, laidKinds := [.data, .data], laidTests := true, laidLooks := .later }
def SlabAgainCardSaid : Prop := Claim7.holds Tryd.pinned (.plain (OpenSpec.ofChange slabAgainSpec)) slabAgainCard

/-- THE TIED CARD OF 'magpielaw11.SlabFull'. -/
def slabFullCard : Claim7 := { stood := { row := slabFullRow, standIns := [], harness := (true, "2ac9c5f4ca3d36d6c4a8ca1047b2dd742bed4208fcb5b656e3239c10cba0363b"), looks := false }, kinds := [], alts := [], laidByText := true, laidKinds := [.data, .data], laidTests := true, laidLooks := .later }
def SlabFullCardSaid : Prop := Claim7.holds Tryd.pinned (.plain (OpenSpec.ofChange slabFullSpec)) slabFullCard

/-- THE SECOND FORM's CARD OF 'magpielaw11.SlabOne'. -/
def slabOneUptoCard : Claim7 := { stood := { row := slabOneUptoRow, standIns := [], harness := (true, "2ac9c5f4ca3d36d6c4a8ca1047b2dd742bed4208fcb5b656e3239c10cba0363b"), looks := false }, kinds := [], alts := [], laidByText := true, laidKinds := [.data, .data], laidTests := true, laidLooks := .later }
def SlabOneUptoCardSaid : Prop := Claim7.holds Tryd.pinned (.plain (OpenSpec.upto slabOneSpec)) slabOneUptoCard

/-- THE SECOND FORM's CARD OF 'magpielaw11.SlabMixes'. -/
def slabMixesUptoCard : Claim7 := { stood := { row := slabMixesUptoRow, standIns := [], harness := (true, "2ac9c5f4ca3d36d6c4a8ca1047b2dd742bed4208fcb5b656e3239c10cba0363b"), looks := false }, kinds := [], alts := [], laidByText := true, laidKinds := [.data, .data], laidTests := true, laidLooks := .later }
def SlabMixesUptoCardSaid : Prop := Claim7.holds Tryd.pinned (.plain (OpenSpec.upto slabMixesSpec)) slabMixesUptoCard

/-- THE SECOND FORM's CARD OF 'magpielaw11.SlabAgain'. -/
def slabAgainUptoCard : Claim7 := { stood := { row := slabAgainUptoRow, standIns := [], harness := (true, "2ac9c5f4ca3d36d6c4a8ca1047b2dd742bed4208fcb5b656e3239c10cba0363b"), looks := false }, kinds := [], alts := [], laidByText := true, laidKinds := [.data, .data], laidTests := true, laidLooks := .later }
def SlabAgainUptoCardSaid : Prop := Claim7.holds Tryd.pinned (.plain (OpenSpec.upto slabAgainSpec)) slabAgainUptoCard

/-- THE SECOND FORM's CARD OF 'magpielaw11.SlabFull'. -/
def slabFullUptoCard : Claim7 := { stood := { row := slabFullUptoRow, standIns := [], harness := (true, "2ac9c5f4ca3d36d6c4a8ca1047b2dd742bed4208fcb5b656e3239c10cba0363b"), looks := false }, kinds := [], alts := [], laidByText := true, laidKinds := [.data, .data], laidTests := true, laidLooks := .later }
def SlabFullUptoCardSaid : Prop := Claim7.holds Tryd.pinned (.plain (OpenSpec.upto slabFullSpec)) slabFullUptoCard
end Rows
end Go.Proofs.YtiedoeifpmfbbaaDoor
