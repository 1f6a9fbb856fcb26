/-
  What package code's Get answers: the program that bytes are, if Put makes just these bytes of it.
-/
import Derived.Test.YtdpagipbaddnfaaDoorC2Read3
namespace Go.Proofs.YtdpagipbaddnfaaDoor.C2
open Go.RowKit

theorem SlF.kept {w w' : World} {v : Value} {fs : List (List In)} (h : SlF w v fs) (hb : Below w.heap.size w w') : SlF w' v fs := h.still (still_of_below hb)
theorem rdP_small (s : List UInt8) (p : Nat) : (rdP s p).fs.length ≤ 1000000 ∧ ∀ f ∈ (rdP s p).fs, f.length ≤ 1000000 := by
  constructor
  · have := (rdC_eq s (p + 4)).2
    simp [rdP]
    omega
  · intro f hf
    simp only [rdP, List.mem_map] at hf
    obtain ⟨k, -, rfl⟩ := hf
    have := (rdC_eq s (rdFs s (p + 5) k)).2
    simp [rdF]
    omega
theorem putE_cases (p : Pr) : putE p = 0 ∨ putE p = 1 ∨ putE p = 2 := by
  unfold putE
  split
  · simp
  · split <;> simp
theorem str_eq {a b : ByteArray} (h : a = b) : (a.toList == b.toList) = true := by rw [h]; simp
theorem str_ne {a b : ByteArray} (h : ¬ a = b) : (a.toList == b.toList) = false := by
  rw [beq_eq_false_iff_ne]
  intro e
  exact h (WideShapes.bytes_inj (by simpa [ByteArray.toList_eq] using e))
end Go.Proofs.YtdpagipbaddnfaaDoor.C2