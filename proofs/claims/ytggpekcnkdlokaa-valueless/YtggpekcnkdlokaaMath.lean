/-
  Plain facts on numbers of 32 bits: no Go in sight. No condition but those that stand in each row.
-/
import Derived.Test.YtggpekcnkdlokaaValue
namespace Go.Proofs.Ytggpekcnkdlokaa
open Go.RowKit

theorem w_shift (x k : Int) : wrap32 (x + 4294967296 * k) = wrap32 x := by unfold wrap32; omega
theorem w_ex (x : Int) : ∃ k, wrap32 x = x + 4294967296 * k := ⟨-((x + 2147483648) / 4294967296), by unfold wrap32; omega⟩
theorem w_w (x : Int) : wrap32 (wrap32 x) = wrap32 x := by unfold wrap32; omega
theorem w_add_l (x y : Int) : wrap32 (wrap32 x + y) = wrap32 (x + y) := by unfold wrap32; omega
theorem w_add_r (x y : Int) : wrap32 (x + wrap32 y) = wrap32 (x + y) := by unfold wrap32; omega
theorem w_sub_l (x y : Int) : wrap32 (wrap32 x - y) = wrap32 (x - y) := by unfold wrap32; omega
theorem w_sub_r (x y : Int) : wrap32 (x - wrap32 y) = wrap32 (x - y) := by unfold wrap32; omega
theorem w_mul_l (x y : Int) : wrap32 (wrap32 x * y) = wrap32 (x * y) := by
  obtain ⟨k, hk⟩ := w_ex x
  rw [hk, Int.add_mul, Int.mul_assoc, w_shift]
theorem w_mul_r (x y : Int) : wrap32 (x * wrap32 y) = wrap32 (x * y) := by
  rw [Int.mul_comm, w_mul_l, Int.mul_comm]
theorem w_in (x : Int) (h : -2147483648 ≤ x ∧ x ≤ 2147483647) : wrap32 x = x := by unfold wrap32; omega

theorem add_comm' (a b : Int) : vAdd a b = vAdd b a := by simp only [vAdd, Int.add_comm]
theorem mul_comm' (a b : Int) : vMul a b = vMul b a := by simp only [vMul, Int.mul_comm]
theorem add_assoc' (a b c : Int) : vAdd (vAdd a b) c = vAdd a (vAdd b c) := by
  simp only [vAdd, w_w, w_add_l, w_add_r, Int.add_assoc]
theorem mul_assoc' (a b c : Int) : vMul (vMul a b) c = vMul a (vMul b c) := by
  simp only [vMul, w_w, w_mul_l, w_mul_r, Int.mul_assoc]
theorem mul_add' (a b c : Int) : vMul a (vAdd b c) = vAdd (vMul a b) (vMul a c) := by
  have e1 : vMul a (vAdd b c) = wrap32 (a * (b + c)) := by rw [vMul, vAdd, w_w, w_mul_l, w_add_l, w_add_r, w_mul_r]
  have e2 : vAdd (vMul a b) (vMul a c) = wrap32 (a * b + a * c) := by rw [vMul, vMul, vAdd, w_mul_l, w_mul_r, w_mul_l, w_mul_r, w_w, w_w, w_add_l, w_add_r]
  rw [e1, e2, Int.mul_add]
theorem add_zero' (a : Int) : vAdd a 0 = vWrap a := by
  rw [vAdd, vWrap, w_add_l, w_add_r, Int.add_zero]
theorem mul_one' (a : Int) : vMul a 1 = vWrap a := by
  rw [vMul, vWrap, w_mul_l, w_mul_r, Int.mul_one]
theorem sub_add' (a b : Int) : vSub (vAdd a b) b = vWrap a := by
  simp only [vSub, vAdd, vWrap, w_w, w_sub_l, w_sub_r, w_add_l, w_add_r, Int.add_sub_cancel]
theorem wrap_wrap' (a : Int) : vWrap (vWrap a) = vWrap a := w_w a
theorem sub_neg' (a b : Int) : vSub a b = vAdd a (vMul (-1) b) := by
  simp only [vSub, vAdd, vMul, w_w, w_sub_l, w_sub_r, w_add_l, w_add_r, w_mul_l, w_mul_r]
  congr 1
  omega
theorem sub_self' (a : Int) : vSub a a = 0 := by
  simp only [vSub, Int.sub_self]
  exact w_in 0 (by omega)
theorem twice_least : vAdd (-2147483648) (-2147483648) = 0 := by kernel_rfl
theorem sub_sub' (a b c : Int) : vSub (vSub a b) c = vSub a (vAdd b c) := by
  simp only [vSub, vAdd, w_w, w_sub_l, w_sub_r, w_add_l, w_add_r]
  congr 1
  omega
theorem sub_mul' (a b c : Int) : vMul (vSub a b) c = vSub (vMul a c) (vMul b c) := by
  simp only [vSub, vMul, w_w, w_sub_l, w_sub_r, w_mul_l, w_mul_r, Int.sub_mul]
theorem wrap_place (a : Int) : vWrap (4294967296 + a % 1000) = a % 1000 := by
  unfold vWrap wrap32
  omega
theorem eq_true {x y : Int} (h : x = y) : (x == y) = true := by simp [h]
theorem ne_false {x y : Int} (h : x = y) : (x != y) = false := by simp [h]
end Go.Proofs.Ytggpekcnkdlokaa
