/-
  NARROWER THAN 'FOR EVERY INPUT', by the rows' own cells (each row's printed sentence says how): ArenaApart: laid · ArenaFaults: laid · ArenaRaws: laid · ArenaCounts: laid · ArenaFresh: laid.
  DERIVED. THE GIVEN ROWS OF THIS SEAT. 5 by the template 'for every input the law returns true; each argument reads behind the call as it read before'; 0 by the template 'total and deterministic' (their statements: YtbfgffppbahmiaaDoorTotals.lean).
  GIVEN WITH THE SEED: the statements are not yours to turn. If you find one false, say at which input.
  Laid BY PROGRAM, IN A SANDBOX (cutbox-rows.mjs): the forced cells as the released guide's own fill.sh prints them over the translation ecca8e898de129d8… (all of the seat's roots in one cut). By AI agents, Wed Nov 11 2026. No macro, syntax, notation, axiom, sorry.
-/
import Derived.Test.YtbfgffppbahmiaaDoorChecked
import GoSem.Claim
import GoSem.ClaimJoined
import GoSem.ClaimMapViews
import Derived.JoinedTies
import Derived.KernelRfl
namespace Go.Proofs.YtbfgffppbahmiaaDoor
/- THE CELL 'sum', in the pinned program and in every row, IS THE sha256 OF THE DUMP (.gsa) THAT YtbfgffppbahmiaaDoorProg.lean LOADS. Nothing in Lean hashes anything: it is a label: what it is worth is what the hold of that sum in a sandbox is worth. -/
noncomputable def Tryd.pinned : Pinned := { name := "ytbfgffppbahmiaadoor", sum := "ecca8e898de129d8f6d8e67663f0d2c6af5281aa2b3f7ffff50eac148cd24bf0", checked := Tryd.checked }
namespace Rows
def none {H : Type} : Left H := { results := [], args := [] }

/- WHAT THE LISTED PACKAGE-LEVEL VARIABLES READ AS WHEN THE CALL BEGINS. Each datum BY PROGRAM (the guide's laid-datum.mjs) off the statement by which the dump's own 'gosem.cut.vars' lays the variable. In a bare row this is a premise. The card (YtbfgffppbahmiaaDoorCards.lean) ties it to the program's text. -/
def laid_magpie_handle_sizes {H : Type} : DataW H := .agg [.lit (.int .i64 8), .lit (.int .i64 16), .lit (.int .i64 32), .lit (.int .i64 64)]
def laid_magpie_handle_fields {H : Type} : DataW H := .agg [.agg [.lit (.int .i64 32), .lit (.int .i64 0), .lit (.int .i64 65535)], .agg [.lit (.int .i64 2), .lit (.int .i64 1), .lit (.int .i64 1073741823)], .agg [.lit (.int .i64 0), .lit (.int .i64 0), .lit (.int .i64 3)]]

/-- 'magpielaw09.ArenaApart': WHATEVER THE INPUT: true; the input reads as it did. -/
def arenaApartSpec : ChangeSpec := { name := "arenaApart", fn := fun _ => fun
  | [d1, d2] => { results := [.lit (.bool true)], args := [d1, d2] }
  | _ => none }
def arenaApartRow : OpenClaim := { program := "ytbfgffppbahmiaadoor", sum := "ecca8e898de129d8f6d8e67663f0d2c6af5281aa2b3f7ffff50eac148cd24bf0", func := "magpie/magpielaw09.ArenaApart", spec := "arenaApart", named := ["magpie/handle.fields", "magpie/handle.sizes"], apart := false, laid := [("magpie/handle.sizes", laid_magpie_handle_sizes), ("magpie/handle.fields", laid_magpie_handle_fields)] }
def ArenaApartSaid : Prop := arenaApartRow.holds Tryd.pinned (OpenSpec.ofChange arenaApartSpec)

/-- ITS FALSE NEIGHBOUR: 'it returns false'. Refute it at one input. -/
def arenaApartWrong : ChangeSpec := { name := "arenaApart", fn := fun _ => fun
  | [d1, d2] => { results := [.lit (.bool false)], args := [d1, d2] }
  | _ => none }
def ArenaApartWrongFalsely : Prop := arenaApartRow.holds Tryd.pinned (OpenSpec.ofChange arenaApartWrong)

/-- 'magpielaw09.ArenaFaults': WHATEVER THE INPUT: true; the input reads as it did. -/
def arenaFaultsSpec : ChangeSpec := { name := "arenaFaults", fn := fun _ => fun
  | [d1, d2, d3] => { results := [.lit (.bool true)], args := [d1, d2, d3] }
  | _ => none }
def arenaFaultsRow : OpenClaim := { program := "ytbfgffppbahmiaadoor", sum := "ecca8e898de129d8f6d8e67663f0d2c6af5281aa2b3f7ffff50eac148cd24bf0", func := "magpie/magpielaw09.ArenaFaults", spec := "arenaFaults", named := ["magpie/handle.fields", "magpie/handle.sizes"], apart := false, laid := [("magpie/handle.sizes", laid_magpie_handle_sizes), ("magpie/handle.fields", laid_magpie_handle_fields)] }
def ArenaFaultsSaid : Prop := arenaFaultsRow.holds Tryd.pinned (OpenSpec.ofChange arenaFaultsSpec)

/-- ITS FALSE NEIGHBOUR: 'it returns false'. Refute it at one input. -/
def arenaFaultsWrong : ChangeSpec := { name := "arenaFaults", fn := fun _ => fun
  | [d1, d2, d3] => { results := [.lit (.bool false)], args := [d1, d2, d3] }
  | _ => none }
def ArenaFaultsWrongFalsely : Prop := arenaFaultsRow.holds Tryd.pinned (OpenSpec.ofChange arenaFaultsWrong)

/-- 'magpielaw09.ArenaRaws': WHATEVER THE INPUT: true; the input reads as it did. -/
def arenaRawsSpec : ChangeSpec := { name := "arenaRaws", fn := fun _ => fun
  | [d1, d2] => { results := [.lit (.bool true)], args := [d1, d2] }
  | _ => none }
def arenaRawsRow : OpenClaim := { program := "ytbfgffppbahmiaadoor", sum := "ecca8e898de129d8f6d8e67663f0d2c6af5281aa2b3f7ffff50eac148cd24bf0", func := "magpie/magpielaw09.ArenaRaws", spec := "arenaRaws", named := ["magpie/handle.fields", "magpie/handle.sizes"], apart := false, laid := [("magpie/handle.sizes", laid_magpie_handle_sizes), ("magpie/handle.fields", laid_magpie_handle_fields)] }
def ArenaRawsSaid : Prop := arenaRawsRow.holds Tryd.pinned (OpenSpec.ofChange arenaRawsSpec)

/-- ITS FALSE NEIGHBOUR: 'it returns false'. Refute it at one input. -/
def arenaRawsWrong : ChangeSpec := { name := "arenaRaws", fn := fun _ => fun
  | [d1, d2] => { results := [.lit (.bool false)], args := [d1, d2] }
  | _ => none }
def ArenaRawsWrongFalsely : Prop := arenaRawsRow.holds Tryd.pinned (OpenSpec.ofChange arenaRawsWrong)

/-- 'magpielaw09.ArenaCounts': WHATEVER THE INPUT: true; the input reads as it did. -/
def arenaCountsSpec : ChangeSpec := { name := "arenaCounts", fn := fun _ => fun
  | [d1, d2] => { results := [.lit (.bool true)], args := [d1, d2] }
  | _ => none }
def arenaCountsRow : OpenClaim := { program := "ytbfgffppbahmiaadoor", sum := "ecca8e898de129d8f6d8e67663f0d2c6af5281aa2b3f7ffff50eac148cd24bf0", func := "magpie/magpielaw09.ArenaCounts", spec := "arenaCounts", named := ["magpie/handle.sizes", "magpie/handle.fields"], apart := false, laid := [("magpie/handle.sizes", laid_magpie_handle_sizes), ("magpie/handle.fields", laid_magpie_handle_fields)] }
def ArenaCountsSaid : Prop := arenaCountsRow.holds Tryd.pinned (OpenSpec.ofChange arenaCountsSpec)

/-- ITS FALSE NEIGHBOUR: 'it returns false'. Refute it at one input. -/
def arenaCountsWrong : ChangeSpec := { name := "arenaCounts", fn := fun _ => fun
  | [d1, d2] => { results := [.lit (.bool false)], args := [d1, d2] }
  | _ => none }
def ArenaCountsWrongFalsely : Prop := arenaCountsRow.holds Tryd.pinned (OpenSpec.ofChange arenaCountsWrong)

/-- 'magpielaw09.ArenaFresh': WHATEVER THE INPUT: true; the input reads as it did. -/
def arenaFreshSpec : ChangeSpec := { name := "arenaFresh", fn := fun _ => fun
  | [d] => { results := [.lit (.bool true)], args := [d] }
  | _ => none }
def arenaFreshRow : OpenClaim := { program := "ytbfgffppbahmiaadoor", sum := "ecca8e898de129d8f6d8e67663f0d2c6af5281aa2b3f7ffff50eac148cd24bf0", func := "magpie/magpielaw09.ArenaFresh", spec := "arenaFresh", named := ["magpie/handle.fields", "magpie/handle.sizes"], apart := false, laid := [("magpie/handle.sizes", laid_magpie_handle_sizes), ("magpie/handle.fields", laid_magpie_handle_fields)] }
def ArenaFreshSaid : Prop := arenaFreshRow.holds Tryd.pinned (OpenSpec.ofChange arenaFreshSpec)

/-- ITS FALSE NEIGHBOUR: 'it returns false'. Refute it at one input. -/
def arenaFreshWrong : ChangeSpec := { name := "arenaFresh", fn := fun _ => fun
  | [d] => { results := [.lit (.bool false)], args := [d] }
  | _ => none }
def ArenaFreshWrongFalsely : Prop := arenaFreshRow.holds Tryd.pinned (OpenSpec.ofChange arenaFreshWrong)

/- THE SECOND FORM. 'bulk': how many values and letters a reading holds, each counted each time it is reached (what is shared counts as often as it is met; a slice's spare places count too). A statement '..UptoSaid' is the law's where the arguments, and the package variables that the reading takes, are together of bulk at most 1048576: NARROWER than '..Said'. Prove '..Said' where nothing that the law and all that it calls make is longer than what came in: it says more and counts as full. Else prove '..UptoSaid'. A law counts once. -/
mutual
def uptoBulk {H : Type} : DataW H → Nat
  | .lit (.string bytes) => bytes.length + 1
  | .lit _ => 1
  | .nil => 1
  | .ptr d => uptoBulk d + 1
  | .slice elems spare => uptoBulkAll elems + uptoBulkAll spare + 1
  | .agg parts => uptoBulkAll parts + 1
  | .iface _ d => uptoBulk d + 1
  | .map entries => uptoBulkEntries entries + 1
  | .held _ => 1
def uptoBulkAll {H : Type} : List (DataW H) → Nat
  | [] => 0
  | d :: r => uptoBulk d + uptoBulkAll r
def uptoBulkEntries {H : Type} : List (Lit × DataW H) → Nat
  | [] => 0
  | x :: r => uptoBulkEntry x + uptoBulkEntries r
def uptoBulkEntry {H : Type} : Lit × DataW H → Nat
  | (.string bytes, d) => bytes.length + uptoBulk d + 1
  | (_, d) => uptoBulk d + 1
 end
def uptoSmall : (H : Type) → List (DataW H) → Bool := fun _ ds => decide (uptoBulkAll ds ≤ 1048576)
def OpenSpec.upto (s : _root_.Go.ChangeSpec) : _root_.Go.OpenSpec := { _root_.Go.OpenSpec.ofChange s with cond := some uptoSmall }

/-- 'magpielaw09.ArenaApart', WHERE WHAT IT READS IS OF BULK AT MOST 1048576: true; the input reads as it did. -/
def arenaApartUptoRow : OpenClaim := { program := "ytbfgffppbahmiaadoor", sum := "ecca8e898de129d8f6d8e67663f0d2c6af5281aa2b3f7ffff50eac148cd24bf0", func := "magpie/magpielaw09.ArenaApart", spec := "arenaApart", named := ["magpie/handle.fields", "magpie/handle.sizes"], apart := false, laid := [("magpie/handle.sizes", laid_magpie_handle_sizes), ("magpie/handle.fields", laid_magpie_handle_fields)], narrowed := true }
def ArenaApartUptoSaid : Prop := arenaApartUptoRow.holds Tryd.pinned (OpenSpec.upto arenaApartSpec)

/-- 'magpielaw09.ArenaFaults', WHERE WHAT IT READS IS OF BULK AT MOST 1048576: true; the input reads as it did. -/
def arenaFaultsUptoRow : OpenClaim := { program := "ytbfgffppbahmiaadoor", sum := "ecca8e898de129d8f6d8e67663f0d2c6af5281aa2b3f7ffff50eac148cd24bf0", func := "magpie/magpielaw09.ArenaFaults", spec := "arenaFaults", named := ["magpie/handle.fields", "magpie/handle.sizes"], apart := false, laid := [("magpie/handle.sizes", laid_magpie_handle_sizes), ("magpie/handle.fields", laid_magpie_handle_fields)], narrowed := true }
def ArenaFaultsUptoSaid : Prop := arenaFaultsUptoRow.holds Tryd.pinned (OpenSpec.upto arenaFaultsSpec)

/-- 'magpielaw09.ArenaRaws', WHERE WHAT IT READS IS OF BULK AT MOST 1048576: true; the input reads as it did. -/
def arenaRawsUptoRow : OpenClaim := { program := "ytbfgffppbahmiaadoor", sum := "ecca8e898de129d8f6d8e67663f0d2c6af5281aa2b3f7ffff50eac148cd24bf0", func := "magpie/magpielaw09.ArenaRaws", spec := "arenaRaws", named := ["magpie/handle.fields", "magpie/handle.sizes"], apart := false, laid := [("magpie/handle.sizes", laid_magpie_handle_sizes), ("magpie/handle.fields", laid_magpie_handle_fields)], narrowed := true }
def ArenaRawsUptoSaid : Prop := arenaRawsUptoRow.holds Tryd.pinned (OpenSpec.upto arenaRawsSpec)

/-- 'magpielaw09.ArenaCounts', WHERE WHAT IT READS IS OF BULK AT MOST 1048576: true; the input reads as it did. -/
def arenaCountsUptoRow : OpenClaim := { program := "ytbfgffppbahmiaadoor", sum := "ecca8e898de129d8f6d8e67663f0d2c6af5281aa2b3f7ffff50eac148cd24bf0", func := "magpie/magpielaw09.ArenaCounts", spec := "arenaCounts", named := ["magpie/handle.sizes", "magpie/handle.fields"], apart := false, laid := [("magpie/handle.sizes", laid_magpie_handle_sizes), ("magpie/handle.fields", laid_magpie_handle_fields)], narrowed := true }
def ArenaCountsUptoSaid : Prop := arenaCountsUptoRow.holds Tryd.pinned (OpenSpec.upto arenaCountsSpec)

/-- 'magpielaw09.ArenaFresh', WHERE WHAT IT READS IS OF BULK AT MOST 1048576: true; the input reads as it did. -/
def arenaFreshUptoRow : OpenClaim := { program := "ytbfgffppbahmiaadoor", sum := "ecca8e898de129d8f6d8e67663f0d2c6af5281aa2b3f7ffff50eac148cd24bf0", func := "magpie/magpielaw09.ArenaFresh", spec := "arenaFresh", named := ["magpie/handle.fields", "magpie/handle.sizes"], apart := false, laid := [("magpie/handle.sizes", laid_magpie_handle_sizes), ("magpie/handle.fields", laid_magpie_handle_fields)], narrowed := true }
def ArenaFreshUptoSaid : Prop := arenaFreshUptoRow.holds Tryd.pinned (OpenSpec.upto arenaFreshSpec)

end Rows
end Go.Proofs.YtbfgffppbahmiaaDoor
