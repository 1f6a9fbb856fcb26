/-
  The reference: Shape.
-/
import Derived.Test.YtdpagipbaddnfaaDoorC2Ref
namespace Go.Proofs.YtdpagipbaddnfaaDoor.C2
open Go.RowKit

set_option linter.unusedSimpArgs false
theorem kindOf_bd (o : Int) (k : Nat) (hk : k < 3) : 0 ≤ kindOf o k ∧ kindOf o k ≤ 6 := by
  by_cases h : 1 ≤ o ∧ o ≤ 15
  · rcases (by omega : o = 1 ∨ o = 2 ∨ o = 3 ∨ o = 4 ∨ o = 5 ∨ o = 6 ∨ o = 7 ∨ o = 8 ∨ o = 9 ∨ o = 10 ∨ o = 11 ∨ o = 12 ∨ o = 13 ∨ o = 14 ∨ o = 15) with rfl | rfl | rfl | rfl | rfl | rfl | rfl | rfl | rfl | rfl | rfl | rfl | rfl | rfl | rfl <;>
    rcases (by omega : k = 0 ∨ k = 1 ∨ k = 2) with rfl | rfl | rfl <;> decide
  · rw [kindOf, if_neg h]
    omega
theorem right_last (o v : Int) (k : Nat) (h1 : 1 ≤ o) (h2 : o ≤ 15) (hk : k < 3) : inB v (firstOf (lastOf o k)) (lastOf o k) = rightB (kindOf o k) v := by
  rcases (by omega : o = 1 ∨ o = 2 ∨ o = 3 ∨ o = 4 ∨ o = 5 ∨ o = 6 ∨ o = 7 ∨ o = 8 ∨ o = 9 ∨ o = 10 ∨ o = 11 ∨ o = 12 ∨ o = 13 ∨ o = 14 ∨ o = 15) with rfl | rfl | rfl | rfl | rfl | rfl | rfl | rfl | rfl | rfl | rfl | rfl | rfl | rfl | rfl <;>
    rcases (by omega : k = 0 ∨ k = 1 ∨ k = 2) with rfl | rfl | rfl <;> rw [Bool.eq_iff_iff] <;> simp [inB, rightB, mostOf, kindOf, kindT, lastOf, lastsT, firstOf] <;> omega
theorem shapeB_right (o a b c : Int) : shapeB o a b c = (inB o 1 15 && rightB (kindOf o 0) a && rightB (kindOf o 1) b && rightB (kindOf o 2) c) := by
  by_cases h : inB o 1 15 = true
  · obtain ⟨h1, h2⟩ := inB_iff.1 h
    have e0 := right_last o a 0 h1 h2 (by omega)
    have e1 := right_last o b 1 h1 h2 (by omega)
    have e2 := right_last o c 2 h1 h2 (by omega)
    rw [← e0, ← e1, ← e2]
    rfl
  · have h' : inB o 1 15 = false := by simpa using h
    simp [shapeB, h']
end Go.Proofs.YtdpagipbaddnfaaDoor.C2