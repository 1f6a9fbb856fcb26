/-
  No cell of these rows narrows 'for every input' (looked for: loops, veiled, ifaces, maps, wideKeys, modest, calm, conditions, laid).
  DERIVED. THE GIVEN ROWS OF THIS SEAT. 5 by the template 'for every input the law returns true; each argument reads behind the call as it read before'; 0 by the template 'total and deterministic' (their statements: YtfljoedjnigfjaaTotals.lean).
  GIVEN WITH THE SEED: the statements are not yours to turn. If you find one false, say at which input.
  Laid BY PROGRAM, IN A SANDBOX (cutbox-rows.mjs): the forced cells as the released guide's own fill.sh prints them over the translation 3d8273806a434894… (all of the seat's roots in one cut). By AI agents, Wed Nov 11 2026. No macro, syntax, notation, axiom, sorry.
-/
import Derived.Test.YtfljoedjnigfjaaChecked
import GoSem.Claim
import GoSem.ClaimJoined
import GoSem.ClaimMapViews
import Derived.JoinedTies
import Derived.KernelRfl
namespace Go.Proofs.Ytfljoedjnigfjaa
/- THE CELL 'sum', in the pinned program and in every row, IS THE sha256 OF THE DUMP (.gsa) THAT YtfljoedjnigfjaaProg.lean LOADS. Nothing in Lean hashes anything: it is a label: what it is worth is what the hold of that sum in a sandbox is worth. -/
noncomputable def Try.pinned : Pinned := { name := "ytfljoedjnigfjaa", sum := "3d8273806a4348943d86782760ff946d958067323d844b5e08e513534e1332e9", checked := Try.checked }
namespace Rows
def none {H : Type} : Left H := { results := [], args := [] }

/-- 'magpielaw10.FreeStack': WHATEVER THE INPUT: true; the input reads as it did. -/
def freeStackSpec : ChangeSpec := { name := "freeStack", fn := fun _ => fun
  | [d] => { results := [.lit (.bool true)], args := [d] }
  | _ => none }
def freeStackRow : OpenClaim := { program := "ytfljoedjnigfjaa", sum := "3d8273806a4348943d86782760ff946d958067323d844b5e08e513534e1332e9", func := "magpie/magpielaw10.FreeStack", spec := "freeStack", unfollowed := true, recurses := true, apart := false }
def FreeStackSaid : Prop := freeStackRow.holds Try.pinned (OpenSpec.ofChange freeStackSpec)

/-- ITS FALSE NEIGHBOUR: 'it returns false'. Refute it at one input. -/
def freeStackWrong : ChangeSpec := { name := "freeStack", fn := fun _ => fun
  | [d] => { results := [.lit (.bool false)], args := [d] }
  | _ => none }
def FreeStackWrongFalsely : Prop := freeStackRow.holds Try.pinned (OpenSpec.ofChange freeStackWrong)

/-- 'magpielaw10.FreeMixes': WHATEVER THE INPUT: true; the input reads as it did. -/
def freeMixesSpec : ChangeSpec := { name := "freeMixes", fn := fun _ => fun
  | [d1, d2] => { results := [.lit (.bool true)], args := [d1, d2] }
  | _ => none }
def freeMixesRow : OpenClaim := { program := "ytfljoedjnigfjaa", sum := "3d8273806a4348943d86782760ff946d958067323d844b5e08e513534e1332e9", func := "magpie/magpielaw10.FreeMixes", spec := "freeMixes", unfollowed := true, recurses := true, apart := false }
def FreeMixesSaid : Prop := freeMixesRow.holds Try.pinned (OpenSpec.ofChange freeMixesSpec)

/-- ITS FALSE NEIGHBOUR: 'it returns false'. Refute it at one input. -/
def freeMixesWrong : ChangeSpec := { name := "freeMixes", fn := fun _ => fun
  | [d1, d2] => { results := [.lit (.bool false)], args := [d1, d2] }
  | _ => none }
def FreeMixesWrongFalsely : Prop := freeMixesRow.holds Try.pinned (OpenSpec.ofChange freeMixesWrong)

/-- 'magpielaw10.FreePlaces': WHATEVER THE INPUT: true; the input reads as it did. -/
def freePlacesSpec : ChangeSpec := { name := "freePlaces", fn := fun _ => fun
  | [d1, d2] => { results := [.lit (.bool true)], args := [d1, d2] }
  | _ => none }
def freePlacesRow : OpenClaim := { program := "ytfljoedjnigfjaa", sum := "3d8273806a4348943d86782760ff946d958067323d844b5e08e513534e1332e9", func := "magpie/magpielaw10.FreePlaces", spec := "freePlaces", unfollowed := true, recurses := true, apart := false }
def FreePlacesSaid : Prop := freePlacesRow.holds Try.pinned (OpenSpec.ofChange freePlacesSpec)

/-- ITS FALSE NEIGHBOUR: 'it returns false'. Refute it at one input. -/
def freePlacesWrong : ChangeSpec := { name := "freePlaces", fn := fun _ => fun
  | [d1, d2] => { results := [.lit (.bool false)], args := [d1, d2] }
  | _ => none }
def FreePlacesWrongFalsely : Prop := freePlacesRow.holds Try.pinned (OpenSpec.ofChange freePlacesWrong)

/-- 'magpielaw10.FreeTags': WHATEVER THE INPUT: true; the input reads as it did. -/
def freeTagsSpec : ChangeSpec := { name := "freeTags", fn := fun _ => fun
  | [d] => { results := [.lit (.bool true)], args := [d] }
  | _ => none }
def freeTagsRow : OpenClaim := { program := "ytfljoedjnigfjaa", sum := "3d8273806a4348943d86782760ff946d958067323d844b5e08e513534e1332e9", func := "magpie/magpielaw10.FreeTags", spec := "freeTags", unfollowed := true, recurses := true, apart := false }
def FreeTagsSaid : Prop := freeTagsRow.holds Try.pinned (OpenSpec.ofChange freeTagsSpec)

/-- ITS FALSE NEIGHBOUR: 'it returns false'. Refute it at one input. -/
def freeTagsWrong : ChangeSpec := { name := "freeTags", fn := fun _ => fun
  | [d] => { results := [.lit (.bool false)], args := [d] }
  | _ => none }
def FreeTagsWrongFalsely : Prop := freeTagsRow.holds Try.pinned (OpenSpec.ofChange freeTagsWrong)

/-- 'magpielaw10.FreeEnds': WHATEVER THE INPUT: true; the input reads as it did. -/
def freeEndsSpec : ChangeSpec := { name := "freeEnds", fn := fun _ => fun
  | [d1, d2] => { results := [.lit (.bool true)], args := [d1, d2] }
  | _ => none }
def freeEndsRow : OpenClaim := { program := "ytfljoedjnigfjaa", sum := "3d8273806a4348943d86782760ff946d958067323d844b5e08e513534e1332e9", func := "magpie/magpielaw10.FreeEnds", spec := "freeEnds", unfollowed := true, recurses := true, apart := false }
def FreeEndsSaid : Prop := freeEndsRow.holds Try.pinned (OpenSpec.ofChange freeEndsSpec)

/-- ITS FALSE NEIGHBOUR: 'it returns false'. Refute it at one input. -/
def freeEndsWrong : ChangeSpec := { name := "freeEnds", fn := fun _ => fun
  | [d1, d2] => { results := [.lit (.bool false)], args := [d1, d2] }
  | _ => none }
def FreeEndsWrongFalsely : Prop := freeEndsRow.holds Try.pinned (OpenSpec.ofChange freeEndsWrong)

/- THE SECOND FORM. 'bulk': how many values and letters a reading holds, each counted each time it is reached (what is shared counts as often as it is met; a slice's spare places count too). A statement '..UptoSaid' is the law's where the arguments, and the package variables that the reading takes, are together of bulk at most 1048576: NARROWER than '..Said'. Prove '..Said' where nothing that the law and all that it calls make is longer than what came in: it says more and counts as full. Else prove '..UptoSaid'. A law counts once. -/
mutual
def uptoBulk {H : Type} : DataW H → Nat
  | .lit (.string bytes) => bytes.length + 1
  | .lit _ => 1
  | .nil => 1
  | .ptr d => uptoBulk d + 1
  | .slice elems spare => uptoBulkAll elems + uptoBulkAll spare + 1
  | .agg parts => uptoBulkAll parts + 1
  | .iface _ d => uptoBulk d + 1
  | .map entries => uptoBulkEntries entries + 1
  | .held _ => 1
def uptoBulkAll {H : Type} : List (DataW H) → Nat
  | [] => 0
  | d :: r => uptoBulk d + uptoBulkAll r
def uptoBulkEntries {H : Type} : List (Lit × DataW H) → Nat
  | [] => 0
  | x :: r => uptoBulkEntry x + uptoBulkEntries r
def uptoBulkEntry {H : Type} : Lit × DataW H → Nat
  | (.string bytes, d) => bytes.length + uptoBulk d + 1
  | (_, d) => uptoBulk d + 1
 end
def uptoSmall : (H : Type) → List (DataW H) → Bool := fun _ ds => decide (uptoBulkAll ds ≤ 1048576)
def OpenSpec.upto (s : _root_.Go.ChangeSpec) : _root_.Go.OpenSpec := { _root_.Go.OpenSpec.ofChange s with cond := some uptoSmall }

/-- 'magpielaw10.FreeStack', WHERE WHAT IT READS IS OF BULK AT MOST 1048576: true; the input reads as it did. -/
def freeStackUptoRow : OpenClaim := { program := "ytfljoedjnigfjaa", sum := "3d8273806a4348943d86782760ff946d958067323d844b5e08e513534e1332e9", func := "magpie/magpielaw10.FreeStack", spec := "freeStack", unfollowed := true, recurses := true, apart := false, narrowed := true }
def FreeStackUptoSaid : Prop := freeStackUptoRow.holds Try.pinned (OpenSpec.upto freeStackSpec)

/-- 'magpielaw10.FreeMixes', WHERE WHAT IT READS IS OF BULK AT MOST 1048576: true; the input reads as it did. -/
def freeMixesUptoRow : OpenClaim := { program := "ytfljoedjnigfjaa", sum := "3d8273806a4348943d86782760ff946d958067323d844b5e08e513534e1332e9", func := "magpie/magpielaw10.FreeMixes", spec := "freeMixes", unfollowed := true, recurses := true, apart := false, narrowed := true }
def FreeMixesUptoSaid : Prop := freeMixesUptoRow.holds Try.pinned (OpenSpec.upto freeMixesSpec)

/-- 'magpielaw10.FreePlaces', WHERE WHAT IT READS IS OF BULK AT MOST 1048576: true; the input reads as it did. -/
def freePlacesUptoRow : OpenClaim := { program := "ytfljoedjnigfjaa", sum := "3d8273806a4348943d86782760ff946d958067323d844b5e08e513534e1332e9", func := "magpie/magpielaw10.FreePlaces", spec := "freePlaces", unfollowed := true, recurses := true, apart := false, narrowed := true }
def FreePlacesUptoSaid : Prop := freePlacesUptoRow.holds Try.pinned (OpenSpec.upto freePlacesSpec)

/-- 'magpielaw10.FreeTags', WHERE WHAT IT READS IS OF BULK AT MOST 1048576: true; the input reads as it did. -/
def freeTagsUptoRow : OpenClaim := { program := "ytfljoedjnigfjaa", sum := "3d8273806a4348943d86782760ff946d958067323d844b5e08e513534e1332e9", func := "magpie/magpielaw10.FreeTags", spec := "freeTags", unfollowed := true, recurses := true, apart := false, narrowed := true }
def FreeTagsUptoSaid : Prop := freeTagsUptoRow.holds Try.pinned (OpenSpec.upto freeTagsSpec)

/-- 'magpielaw10.FreeEnds', WHERE WHAT IT READS IS OF BULK AT MOST 1048576: true; the input reads as it did. -/
def freeEndsUptoRow : OpenClaim := { program := "ytfljoedjnigfjaa", sum := "3d8273806a4348943d86782760ff946d958067323d844b5e08e513534e1332e9", func := "magpie/magpielaw10.FreeEnds", spec := "freeEnds", unfollowed := true, recurses := true, apart := false, narrowed := true }
def FreeEndsUptoSaid : Prop := freeEndsUptoRow.holds Try.pinned (OpenSpec.upto freeEndsSpec)

end Rows
end Go.Proofs.Ytfljoedjnigfjaa
