/-
  DERIVED. GIVEN WITH THE SEED: THE CARDS: each row of YtbfgffppbahmiaaDoorRows.lean that lists a variable, with what it lists TIED to the program's text (the seventh form; the later family's looks); each row that meets fmt, with fmt's text TOLD by the authors' own Lean function (tested against real Go, not proved from fmt's source: count such statements apart). THE CARD IS WHAT COUNTS. Prove the row's statement (the work); the ties are given (YtbfgffppbahmiaaDoorTie.lean); close each card by the builder's one call (the guide's Derived/Test/ToyasCard.lean, 'card_holds'). Laid BY PROGRAM, IN A SANDBOX (cutbox-door.mjs). By AI agents, Wed Nov 11 2026. No macro, syntax, notation, axiom, sorry.
-/
import Derived.Test.YtbfgffppbahmiaaDoorRows
import GoSem.ClaimSeven
namespace Go.Proofs.YtbfgffppbahmiaaDoor
namespace Rows

/-- THE TIED CARD OF 'magpielaw09.ArenaApart'. -/
def arenaApartCard : Claim7 := { stood := { row := arenaApartRow, standIns := [], harness := (true, "65860246cd016f86c9218bddae2646040385d9bab0d61d1a04f2080fec5c3185"), looks := false }, kinds := [], alts := [], laidByText := true, laidKinds := [.data, .data], laidTests := true, laidLooks := .later }
def ArenaApartCardSaid : Prop := Claim7.holds Tryd.pinned (.plain (OpenSpec.ofChange arenaApartSpec)) arenaApartCard

/-- THE TIED CARD OF 'magpielaw09.ArenaFaults'. -/
def arenaFaultsCard : Claim7 := { stood := { row := arenaFaultsRow, standIns := [], harness := (true, "65860246cd016f86c9218bddae2646040385d9bab0d61d1a04f2080fec5c3185"), looks := false }, kinds := [], alts := [], laidByText := true, laidKinds := [.data, .data], laidTests := true, laidLooks := .later }
def ArenaFaultsCardSaid : Prop := Claim7.holds Tryd.pinned (.plain (OpenSpec.ofChange arenaFaultsSpec)) arenaFaultsCard

/-- THE TIED CARD OF 'magpielaw09.ArenaRaws'. -/
def arenaRawsCard : Claim7 := { stood := { row := arenaRawsRow, standIns := [], harness := (true, "65860246cd016f86c9218bddae2646040385d9bab0d61d1a04f2080fec5c3185"), looks := false }, kinds := [], alts := [], laidByText := true, laidKinds := [.data, .data], laidTests := true, laidLooks := .later }
def ArenaRawsCardSaid : Prop := Claim7.holds Tryd.pinned (.plain (OpenSpec.ofChange arenaRawsSpec)) arenaRawsCard

/-- THE TIED CARD OF 'magpielaw09.ArenaCounts'. -/
def arenaCountsCard : Claim7 := { stood := { row := arenaCountsRow, standIns := [], harness := (true, "65860246cd016f86c9218bddae2646040385d9bab0d61d1a04f2080fec5c3185"), looks := false }, kinds := [], alts := [], laidByText := true, laidKinds := [.data, .data], laidTests := true, laidLooks := .later }
def ArenaCountsCardSaid : Prop := Claim7.holds Tryd.pinned (.plain (OpenSpec.ofChange arenaCountsSpec)) arenaCountsCard

/-- THE TIED CARD OF 'magpielaw09.ArenaFresh'. -/
def arenaFreshCard : Claim7 := { stood := { row := arenaFreshRow, standIns := [], harness := (true, "65860246cd016f86c9218bddae2646040385d9bab0d61d1a04f2080fec5c3185"), looks := false }, kinds := [], alts := [], laidByText := true, laidKinds := [.data, .data], laidTests := true, laidLooks := .later }
def ArenaFreshCardSaid : Prop := Claim7.holds Tryd.pinned (.plain (OpenSpec.ofChange arenaFreshSpec)) arenaFreshCard

/-- THE SECOND FORM's CARD OF 'magpielaw09.ArenaApart'. -/
def arenaApartUptoCard : Claim7 := { stood := { row := arenaApartUptoRow, standIns := [], harness := (true, "65860246cd016f86c9218bddae2646040385d9bab0d61d1a04f2080fec5c3185"), looks := false }, kinds := [], alts := [], laidByText := true, laidKinds := [.data, .data], laidTests := true, laidLooks := .later }
def ArenaApartUptoCardSaid : Prop := Claim7.holds Tryd.pinned (.plain (OpenSpec.upto arenaApartSpec)) arenaApartUptoCard

/-- THE SECOND FORM's CARD OF 'magpielaw09.ArenaFaults'. -/
def arenaFaultsUptoCard : Claim7 := { stood := { row := arenaFaultsUptoRow, standIns := [], harness := (true, "65860246cd016f86c9218bddae2646040385d9bab0d61d1a04f2080fec5c3185"), looks := false }, kinds := [], alts := [], laidByText := true, laidKinds := [.data, .data], laidTests := true, laidLooks := .later }
def ArenaFaultsUptoCardSaid : Prop := Claim7.holds Tryd.pinned (.plain (OpenSpec.upto arenaFaultsSpec)) arenaFaultsUptoCard

/-- THE SECOND FORM's CARD OF 'magpielaw09.ArenaRaws'. -/
def arenaRawsUptoCard : Claim7 := { stood := { row := arenaRawsUptoRow, standIns := [], harness := (true, "65860246cd016f86c9218bddae2646040385d9bab0d61d1a04f2080fec5c3185"), looks := false }, kinds := [], alts := [], laidByText := true, laidKinds := [.data, .data], laidTests := true, laidLooks := .later }
def ArenaRawsUptoCardSaid : Prop := Claim7.holds Tryd.pinned (.plain (OpenSpec.upto arenaRawsSpec)) arenaRawsUptoCard

/-- THE SECOND FORM's CARD OF 'magpielaw09.ArenaCounts'. -/
def arenaCountsUptoCard : Claim7 := { stood := { row := arenaCountsUptoRow, standIns := [], harness := (true, "65860246cd016f86c9218bddae2646040385d9bab0d61d1a04f2080fec5c3185"), looks := false }, kinds := [], alts := [], laidByText := true, laidKinds := [.data, .data], laidTests := true, laidLooks := .later }
def ArenaCountsUptoCardSaid : Prop := Claim7.holds Tryd.pinned (.plain (OpenSpec.upto arenaCountsSpec)) arenaCountsUptoCard

/-- THE SECOND FORM's CARD OF 'magpielaw09.ArenaFresh'. -/
def arenaFreshUptoCard : Claim7 := { stood := { row := arenaFreshUptoRow, standIns := [], harness := (true, "65860246cd016f86c9218bddae2646040385d9bab0d61d1a04f2080fec5c3185"), looks := false }, kinds := [], alts := [], laidByText := true, laidKinds := [.data, .data], laidTests := true, laidLooks := .later }
def ArenaFreshUptoCardSaid : Prop := Claim7.holds Tryd.pinned (.plain (OpenSpec.upto arenaFreshSpec)) arenaFreshUptoCard
end Rows
end Go.Proofs.YtbfgffppbahmiaaDoor
