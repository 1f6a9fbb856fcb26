/-
  No cell of these rows narrows 'for every input' (looked for: loops, veiled, ifaces, maps, wideKeys, modest, calm, conditions, laid).
  DERIVED. THE GIVEN ROWS OF THIS SEAT. 5 by the template 'for every input the law returns true; each argument reads behind the call as it read before'; 0 by the template 'total and deterministic' (their statements: YtbmndicocdlhdaaTotals.lean).
  GIVEN WITH THE SEED: the statements are not yours to turn. If you find one false, say at which input.
  Laid BY PROGRAM, IN A SANDBOX (cutbox-rows.mjs): the forced cells as the released guide's own fill.sh prints them over the translation 5cc64892be10551c… (all of the seat's roots in one cut). By AI agents, Wed Nov 11 2026. No macro, syntax, notation, axiom, sorry.
-/
import Derived.Test.YtbmndicocdlhdaaChecked
import GoSem.Claim
import GoSem.ClaimJoined
import GoSem.ClaimMapViews
import Derived.JoinedTies
import Derived.KernelRfl
namespace Go.Proofs.Ytbmndicocdlhdaa
/- THE CELL 'sum', in the pinned program and in every row, IS THE sha256 OF THE DUMP (.gsa) THAT YtbmndicocdlhdaaProg.lean LOADS. Nothing in Lean hashes anything: it is a label: what it is worth is what the hold of that sum in a sandbox is worth. -/
noncomputable def Try.pinned : Pinned := { name := "ytbmndicocdlhdaa", sum := "5cc64892be10551c10f7cb44f124f17f483544a4070a4604484f395a22f2656b", checked := Try.checked }
namespace Rows
def none {H : Type} : Left H := { results := [], args := [] }

/-- 'magpielaw06.KeyAll': WHATEVER THE INPUT: true; the input reads as it did. -/
def keyAllSpec : ChangeSpec := { name := "keyAll", fn := fun _ => fun
  | [d1, d2, d3] => { results := [.lit (.bool true)], args := [d1, d2, d3] }
  | _ => none }
def keyAllRow : OpenClaim := { program := "ytbmndicocdlhdaa", sum := "5cc64892be10551c10f7cb44f124f17f483544a4070a4604484f395a22f2656b", func := "magpie/magpielaw06.KeyAll", spec := "keyAll", unfollowed := true, recurses := true, apart := false }
def KeyAllSaid : Prop := keyAllRow.holds Try.pinned (OpenSpec.ofChange keyAllSpec)

/-- ITS FALSE NEIGHBOUR: 'it returns false'. Refute it at one input. -/
def keyAllWrong : ChangeSpec := { name := "keyAll", fn := fun _ => fun
  | [d1, d2, d3] => { results := [.lit (.bool false)], args := [d1, d2, d3] }
  | _ => none }
def KeyAllWrongFalsely : Prop := keyAllRow.holds Try.pinned (OpenSpec.ofChange keyAllWrong)

/-- 'magpielaw06.KeyOrders': WHATEVER THE INPUT: true; the input reads as it did. -/
def keyOrdersSpec : ChangeSpec := { name := "keyOrders", fn := fun _ => fun
  | [d1, d2, d3, d4] => { results := [.lit (.bool true)], args := [d1, d2, d3, d4] }
  | _ => none }
def keyOrdersRow : OpenClaim := { program := "ytbmndicocdlhdaa", sum := "5cc64892be10551c10f7cb44f124f17f483544a4070a4604484f395a22f2656b", func := "magpie/magpielaw06.KeyOrders", spec := "keyOrders", unfollowed := true, recurses := true, apart := false }
def KeyOrdersSaid : Prop := keyOrdersRow.holds Try.pinned (OpenSpec.ofChange keyOrdersSpec)

/-- ITS FALSE NEIGHBOUR: 'it returns false'. Refute it at one input. -/
def keyOrdersWrong : ChangeSpec := { name := "keyOrders", fn := fun _ => fun
  | [d1, d2, d3, d4] => { results := [.lit (.bool false)], args := [d1, d2, d3, d4] }
  | _ => none }
def KeyOrdersWrongFalsely : Prop := keyOrdersRow.holds Try.pinned (OpenSpec.ofChange keyOrdersWrong)

/-- 'magpielaw06.KeyTrees': WHATEVER THE INPUT: true; the input reads as it did. -/
def keyTreesSpec : ChangeSpec := { name := "keyTrees", fn := fun _ => fun
  | [d] => { results := [.lit (.bool true)], args := [d] }
  | _ => none }
def keyTreesRow : OpenClaim := { program := "ytbmndicocdlhdaa", sum := "5cc64892be10551c10f7cb44f124f17f483544a4070a4604484f395a22f2656b", func := "magpie/magpielaw06.KeyTrees", spec := "keyTrees", unfollowed := true, recurses := true, apart := false }
def KeyTreesSaid : Prop := keyTreesRow.holds Try.pinned (OpenSpec.ofChange keyTreesSpec)

/-- ITS FALSE NEIGHBOUR: 'it returns false'. Refute it at one input. -/
def keyTreesWrong : ChangeSpec := { name := "keyTrees", fn := fun _ => fun
  | [d] => { results := [.lit (.bool false)], args := [d] }
  | _ => none }
def KeyTreesWrongFalsely : Prop := keyTreesRow.holds Try.pinned (OpenSpec.ofChange keyTreesWrong)

/-- 'magpielaw06.KeyNone': WHATEVER THE INPUT: true; the input reads as it did. -/
def keyNoneSpec : ChangeSpec := { name := "keyNone", fn := fun _ => fun
  | [d1, d2, d3] => { results := [.lit (.bool true)], args := [d1, d2, d3] }
  | _ => none }
def keyNoneRow : OpenClaim := { program := "ytbmndicocdlhdaa", sum := "5cc64892be10551c10f7cb44f124f17f483544a4070a4604484f395a22f2656b", func := "magpie/magpielaw06.KeyNone", spec := "keyNone", unfollowed := true, recurses := true, apart := false }
def KeyNoneSaid : Prop := keyNoneRow.holds Try.pinned (OpenSpec.ofChange keyNoneSpec)

/-- ITS FALSE NEIGHBOUR: 'it returns false'. Refute it at one input. -/
def keyNoneWrong : ChangeSpec := { name := "keyNone", fn := fun _ => fun
  | [d1, d2, d3] => { results := [.lit (.bool false)], args := [d1, d2, d3] }
  | _ => none }
def KeyNoneWrongFalsely : Prop := keyNoneRow.holds Try.pinned (OpenSpec.ofChange keyNoneWrong)

/-- 'magpielaw06.KeySteps': WHATEVER THE INPUT: true; the input reads as it did. -/
def keyStepsSpec : ChangeSpec := { name := "keySteps", fn := fun _ => fun
  | [d1, d2, d3, d4] => { results := [.lit (.bool true)], args := [d1, d2, d3, d4] }
  | _ => none }
def keyStepsRow : OpenClaim := { program := "ytbmndicocdlhdaa", sum := "5cc64892be10551c10f7cb44f124f17f483544a4070a4604484f395a22f2656b", func := "magpie/magpielaw06.KeySteps", spec := "keySteps", unfollowed := true, recurses := true, apart := false }
def KeyStepsSaid : Prop := keyStepsRow.holds Try.pinned (OpenSpec.ofChange keyStepsSpec)

/-- ITS FALSE NEIGHBOUR: 'it returns false'. Refute it at one input. -/
def keyStepsWrong : ChangeSpec := { name := "keySteps", fn := fun _ => fun
  | [d1, d2, d3, d4] => { results := [.lit (.bool false)], args := [d1, d2, d3, d4] }
  | _ => none }
def KeyStepsWrongFalsely : Prop := keyStepsRow.holds Try.pinned (OpenSpec.ofChange keyStepsWrong)

/- THE SECOND FORM. 'bulk': how many values and letters a reading holds, each counted each time it is reached (what is shared counts as often as it is met; a slice's spare places count too). A statement '..UptoSaid' is the law's where the arguments, and the package variables that the reading takes, are together of bulk at most 1048576: NARROWER than '..Said'. Prove '..Said' where nothing that the law and all that it calls make is longer than what came in: it says more and counts as full. Else prove '..UptoSaid'. A law counts once. -/
mutual
def uptoBulk {H : Type} : DataW H → Nat
  | .lit (.string bytes) => bytes.length + 1
  | .lit _ => 1
  | .nil => 1
  | .ptr d => uptoBulk d + 1
  | .slice elems spare => uptoBulkAll elems + uptoBulkAll spare + 1
  | .agg parts => uptoBulkAll parts + 1
  | .iface _ d => uptoBulk d + 1
  | .map entries => uptoBulkEntries entries + 1
  | .held _ => 1
def uptoBulkAll {H : Type} : List (DataW H) → Nat
  | [] => 0
  | d :: r => uptoBulk d + uptoBulkAll r
def uptoBulkEntries {H : Type} : List (Lit × DataW H) → Nat
  | [] => 0
  | x :: r => uptoBulkEntry x + uptoBulkEntries r
def uptoBulkEntry {H : Type} : Lit × DataW H → Nat
  | (.string bytes, d) => bytes.length + uptoBulk d + 1
  | (_, d) => uptoBulk d + 1
 end
def uptoSmall : (H : Type) → List (DataW H) → Bool := fun _ ds => decide (uptoBulkAll ds ≤ 1048576)
def OpenSpec.upto (s : _root_.Go.ChangeSpec) : _root_.Go.OpenSpec := { _root_.Go.OpenSpec.ofChange s with cond := some uptoSmall }

/-- 'magpielaw06.KeyAll', WHERE WHAT IT READS IS OF BULK AT MOST 1048576: true; the input reads as it did. -/
def keyAllUptoRow : OpenClaim := { program := "ytbmndicocdlhdaa", sum := "5cc64892be10551c10f7cb44f124f17f483544a4070a4604484f395a22f2656b", func := "magpie/magpielaw06.KeyAll", spec := "keyAll", unfollowed := true, recurses := true, apart := false, narrowed := true }
def KeyAllUptoSaid : Prop := keyAllUptoRow.holds Try.pinned (OpenSpec.upto keyAllSpec)

/-- 'magpielaw06.KeyOrders', WHERE WHAT IT READS IS OF BULK AT MOST 1048576: true; the input reads as it did. -/
def keyOrdersUptoRow : OpenClaim := { program := "ytbmndicocdlhdaa", sum := "5cc64892be10551c10f7cb44f124f17f483544a4070a4604484f395a22f2656b", func := "magpie/magpielaw06.KeyOrders", spec := "keyOrders", unfollowed := true, recurses := true, apart := false, narrowed := true }
def KeyOrdersUptoSaid : Prop := keyOrdersUptoRow.holds Try.pinned (OpenSpec.upto keyOrdersSpec)

/-- 'magpielaw06.KeyTrees', WHERE WHAT IT READS IS OF BULK AT MOST 1048576: true; the input reads as it did. -/
def keyTreesUptoRow : OpenClaim := { program := "ytbmndicocdlhdaa", sum := "5cc64892be10551c10f7cb44f124f17f483544a4070a4604484f395a22f2656b", func := "magpie/magpielaw06.KeyTrees", spec := "keyTrees", unfollowed := true, recurses := true, apart := false, narrowed := true }
def KeyTreesUptoSaid : Prop := keyTreesUptoRow.holds Try.pinned (OpenSpec.upto keyTreesSpec)

/-- 'magpielaw06.KeyNone', WHERE WHAT IT READS IS OF BULK AT MOST 1048576: true; the input reads as it did. -/
def keyNoneUptoRow : OpenClaim := { program := "ytbmndicocdlhdaa", sum := "5cc64892be10551c10f7cb44f124f17f483544a4070a4604484f395a22f2656b", func := "magpie/magpielaw06.KeyNone", spec := "keyNone", unfollowed := true, recurses := true, apart := false, narrowed := true }
def KeyNoneUptoSaid : Prop := keyNoneUptoRow.holds Try.pinned (OpenSpec.upto keyNoneSpec)

/-- 'magpielaw06.KeySteps', WHERE WHAT IT READS IS OF BULK AT MOST 1048576: true; the input reads as it did. -/
def keyStepsUptoRow : OpenClaim := { program := "ytbmndicocdlhdaa", sum := "5cc64892be10551c10f7cb44f124f17f483544a4070a4604484f395a22f2656b", func := "magpie/magpielaw06.KeySteps", spec := "keySteps", unfollowed := true, recurses := true, apart := false, narrowed := true }
def KeyStepsUptoSaid : Prop := keyStepsUptoRow.holds Try.pinned (OpenSpec.upto keyStepsSpec)

end Rows
end Go.Proofs.Ytbmndicocdlhdaa
