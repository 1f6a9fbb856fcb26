/-
  A string of an array of four.
-/
import Derived.Test.YtphkplliecfmjaaBlanks
import Derived.ChangeKeysEq
import Derived.OwnWalk
namespace Go.Proofs.Ytphkplliecfmjaa
open Go.RowKit

theorem infoStr : (Try.prog.info? 9).map (fun i => (i.zero, i.size, i.bytes)) = some (some (.string ⟨#[]⟩), 1, 16) := by kernel_rfl
theorem cellsStr : Try.prog.cellsOf 9 = 1 := by kernel_rfl
theorem plainStr : Try.prog.plainKey 9 = true := by kernel_rfl
theorem arr_index (cs : Array Value) (j : Nat) (hj : j < 4) (v : Value) (hv : cs[j]? = some v) (w : World) : (Instr.index 35 (.agg cs) (.int .i64 (j : Int))).run Try.prog w = .ok v w := by
  obtain ⟨i0, hi, -⟩ := info_parts infoStr
  have h01 : (0 : Int) ≤ (j : Int) ∧ (j : Int) < ((4 : Nat) : Int) := by omega
  have hp : (part 9 cs j).run Try.prog w = .ok v w := run_part_plain w plainStr hv
  simp [Instr.index, asIntOf, run_underlying Try.underlying35, run_sizeOf w hi, cellsStr, hp]
  omega
end Go.Proofs.Ytphkplliecfmjaa
