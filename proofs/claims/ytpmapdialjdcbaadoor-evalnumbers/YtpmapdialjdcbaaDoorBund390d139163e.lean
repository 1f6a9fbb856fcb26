/-
  Helpers: V1Value.
-/
import Derived.Test.YtpmapdialjdcbaaDoorRows
import Derived.WalkKit
namespace Go.Proofs.YtpmapdialjdcbaaDoor.V1
open Go.RowKit

theorem wrap32_bd (v : Int) : -2147483648 ≤ wrap32 v ∧ wrap32 v ≤ 2147483647 := by unfold wrap32; omega

def vAdd (a b : Int) : Int := wrap32 (wrap32 a + wrap32 b)
def vSub (a b : Int) : Int := wrap32 (wrap32 a - wrap32 b)
def vMul (a b : Int) : Int := wrap32 (wrap32 a * wrap32 b)
def vWrap (a : Int) : Int := wrap32 a
def vQuo (a b : Int) : Int := if wrap32 b = 0 then 0 else wrap32 ((wrap32 a).tdiv (wrap32 b))
def vOk (b : Int) : Bool := !(wrap32 b == 0)
def ltI (a b : Int) : Int := if a < b then 1 else 0
def vLess (a b : Int) : Int := ltI (wrap32 a) (wrap32 b)

theorem low_any (v : Int) (w : World) : Calls Tryd.prog 32 #[.int .i64 v] w fun e w' => e = .returned (.int .i32 (wrap32 v)) ∧ w' = w := by
  go_enter Tryd.func32, Tryd.ntmps32
  go_wp2
  go_ret
  exact ⟨rfl, rfl⟩
theorem sum_any (a b : Int) (w : World) : Calls Tryd.prog 82 #[.int .i32 a, .int .i32 b] w fun e w' => e = .returned (.int .i32 (wrap32 (a + b))) ∧ w' = w := by
  go_enter Tryd.func82, Tryd.ntmps82
  go_wp2
  go_ret
  exact ⟨rfl, rfl⟩
theorem difference_any (a b : Int) (w : World) : Calls Tryd.prog 83 #[.int .i32 a, .int .i32 b] w fun e w' => e = .returned (.int .i32 (wrap32 (a - b))) ∧ w' = w := by
  go_enter Tryd.func83, Tryd.ntmps83
  go_wp2
  go_ret
  exact ⟨rfl, rfl⟩
theorem product_any (a b : Int) (w : World) : Calls Tryd.prog 84 #[.int .i32 a, .int .i32 b] w fun e w' => e = .returned (.int .i32 (wrap32 (a * b))) ∧ w' = w := by
  go_enter Tryd.func84, Tryd.ntmps84
  go_wp2
  go_ret
  exact ⟨rfl, rfl⟩
theorem less_any (a b : Int) (w : World) : Calls Tryd.prog 86 #[.int .i32 a, .int .i32 b] w fun e w' => e = .returned (.int .i64 (ltI a b)) ∧ w' = w := by
  by_cases h : a < b
  · rw [ltI, if_pos h]
    go_enter Tryd.func86, Tryd.ntmps86
    go_wp2
    go_ret
    exact ⟨rfl, rfl⟩
  · rw [ltI, if_neg h]
    go_enter Tryd.func86, Tryd.ntmps86
    go_wp2
    go_ret
    exact ⟨rfl, rfl⟩
theorem quotient_none (a : Int) (w : World) : Calls Tryd.prog 91 #[.int .i32 a, .int .i32 0] w fun e w' => e = .returned (.tuple #[.int .i32 0, .bool false]) ∧ w' = w := by
  go_enter Tryd.func91, Tryd.ntmps91
  go_wp2
  go_ret2
  exact ⟨rfl, rfl⟩
theorem quotient_some (a b : Int) (w : World) (h : ¬ b = 0) : Calls Tryd.prog 91 #[.int .i32 a, .int .i32 b] w fun e w' => e = .returned (.tuple #[.int .i32 (wrap32 (a.tdiv b)), .bool true]) ∧ w' = w := by
  have h2 : (b == 0) = false := by simp [h]
  go_enter Tryd.func91, Tryd.ntmps91
  go_wp2
  go_ret2
  exact ⟨rfl, rfl⟩

theorem wrap_any (v : Int) (w : World) : Calls Tryd.prog 23 #[.int .i64 v] w fun e w' => e = .returned (.int .i64 (vWrap v)) ∧ w' = w := by
  have hb := wrap32_bd v
  go_enter Tryd.func23, Tryd.ntmps23
  go_wp2_with (go_at_call 32; refine (low_any _ _).mono ?_; rintro e w' ⟨rfl, rfl⟩)
  go_ret
  exact ⟨rfl, rfl⟩
theorem add_any (a b : Int) (w : World) : Calls Tryd.prog 65 #[.int .i64 a, .int .i64 b] w fun e w' => e = .returned (.int .i64 (vAdd a b)) ∧ w' = w := by
  have hb := wrap32_bd (wrap32 a + wrap32 b)
  go_enter Tryd.func65, Tryd.ntmps65
  go_wp2_with (first | (go_at_call 32; refine (low_any _ _).mono ?_; rintro e w' ⟨rfl, rfl⟩) | (go_at_call 82; refine (sum_any _ _ _).mono ?_; rintro e w' ⟨rfl, rfl⟩))
  go_ret
  exact ⟨rfl, rfl⟩
theorem sub_any (a b : Int) (w : World) : Calls Tryd.prog 66 #[.int .i64 a, .int .i64 b] w fun e w' => e = .returned (.int .i64 (vSub a b)) ∧ w' = w := by
  have hb := wrap32_bd (wrap32 a - wrap32 b)
  go_enter Tryd.func66, Tryd.ntmps66
  go_wp2_with (first | (go_at_call 32; refine (low_any _ _).mono ?_; rintro e w' ⟨rfl, rfl⟩) | (go_at_call 83; refine (difference_any _ _ _).mono ?_; rintro e w' ⟨rfl, rfl⟩))
  go_ret
  exact ⟨rfl, rfl⟩
theorem mul_any (a b : Int) (w : World) : Calls Tryd.prog 67 #[.int .i64 a, .int .i64 b] w fun e w' => e = .returned (.int .i64 (vMul a b)) ∧ w' = w := by
  have hb := wrap32_bd (wrap32 a * wrap32 b)
  go_enter Tryd.func67, Tryd.ntmps67
  go_wp2_with (first | (go_at_call 32; refine (low_any _ _).mono ?_; rintro e w' ⟨rfl, rfl⟩) | (go_at_call 84; refine (product_any _ _ _).mono ?_; rintro e w' ⟨rfl, rfl⟩))
  go_ret
  exact ⟨rfl, rfl⟩
theorem lessv_any (a b : Int) (w : World) : Calls Tryd.prog 69 #[.int .i64 a, .int .i64 b] w fun e w' => e = .returned (.int .i64 (vLess a b)) ∧ w' = w := by
  go_enter Tryd.func69, Tryd.ntmps69
  go_wp2_with (first | (go_at_call 32; refine (low_any _ _).mono ?_; rintro e w' ⟨rfl, rfl⟩) | (go_at_call 86; refine (less_any _ _ _).mono ?_; rintro e w' ⟨rfl, rfl⟩))
  go_ret
  exact ⟨rfl, rfl⟩
theorem div_any (a b : Int) (w : World) : Calls Tryd.prog 85 #[.int .i64 a, .int .i64 b] w fun e w' => e = .returned (.tuple #[.int .i64 (vQuo a b), .bool (vOk b)]) ∧ w' = w := by
  by_cases h : wrap32 b = 0
  · have e1 : vQuo a b = 0 := by simp [vQuo, h]
    have e2 : vOk b = false := by simp [vOk, h]
    rw [e1, e2]
    clear e1 e2
    go_enter Tryd.func85, Tryd.ntmps85
    go_wp2_with (first | (go_at_call 32; refine (low_any _ _).mono ?_; rintro e w' ⟨rfl, rfl⟩) | (go_at_call 91; refine (quotient_none _ _).mono ?_; rintro e w' ⟨rfl, rfl⟩))
    go_ret2
    exact ⟨rfl, rfl⟩
  · have e1 : vQuo a b = wrap32 ((wrap32 a).tdiv (wrap32 b)) := by simp [vQuo, h]
    have e2 : vOk b = true := by simp [vOk, h]
    have hb := wrap32_bd ((wrap32 a).tdiv (wrap32 b))
    rw [e1, e2]
    clear e1 e2
    go_enter Tryd.func85, Tryd.ntmps85
    go_wp2_with (first | (go_at_call 32; refine (low_any _ _).mono ?_; rintro e w' ⟨rfl, rfl⟩) | (go_at_call 91; refine (quotient_some _ _ _ h).mono ?_; rintro e w' ⟨rfl, rfl⟩))
    go_ret2
    exact ⟨rfl, rfl⟩

/-! ### chapter 1's own answers -/
theorem i64_and32 (n : Int) : bits .and .i64 n 4294967295 = n % 4294967296 := by
  have hm : (BitVec.ofInt 64 4294967295).toNat = 2 ^ 32 - 1 := by decide
  have key : (BitVec.ofInt 64 n &&& BitVec.ofInt 64 4294967295).toNat = (n % ((2 ^ 64 : Nat) : Int)).toNat % 2 ^ 32 := by
    rw [BitVec.toNat_and, BitVec.toNat_ofInt, hm, Nat.and_two_pow_sub_one_eq_mod]
  show IntKind.i64.wrap ((BitVec.ofInt 64 n &&& BitVec.ofInt 64 4294967295).toNat : Nat) = n % 4294967296
  rw [key, IntKind.wrap_i64]
  omega
theorem wrap32_high (v : Int) (h : 2147483648 ≤ v % 4294967296) : v % 4294967296 - 4294967296 = wrap32 v := by unfold wrap32; omega
theorem wrap32_low (v : Int) (h : v % 4294967296 < 2147483648) : v % 4294967296 = wrap32 v := by unfold wrap32; omega
theorem ret_i64 {a b : Int} (h : a = b) : Ending.returned (.int .i64 a) = .returned (.int .i64 b) := by rw [h]
theorem refWrap_any (v : Int) (w : World) : Calls Tryd.prog 35 #[.int .i64 v] w fun e w' => e = .returned (.int .i64 (vWrap v)) ∧ w' = w := by
  have hm := i64_and32 v
  by_cases h : 2147483648 ≤ v % 4294967296
  · have h2 : v % 4294967296 < 4294967296 := by omega
    go_enter Tryd.func35, Tryd.ntmps35
    go_wp2
    go_ret
    exact ⟨ret_i64 (wrap32_high v h), rfl⟩
  · have h3 : v % 4294967296 < 2147483648 := by omega
    go_enter Tryd.func35, Tryd.ntmps35
    go_wp2
    go_ret
    exact ⟨ret_i64 (wrap32_low v h3), rfl⟩
theorem vWrap_bd (v : Int) : -2147483648 ≤ vWrap v ∧ vWrap v ≤ 2147483647 := wrap32_bd v
theorem mul_bd {x y : Int} (hx : -2147483648 ≤ x ∧ x ≤ 2147483647) (hy : -2147483648 ≤ y ∧ y ≤ 2147483647) : -4611686018427387904 ≤ x * y ∧ x * y ≤ 4611686018427387904 := by
  have h : (x * y).natAbs ≤ 2147483648 * 2147483648 := by
    rw [Int.natAbs_mul]
    exact Nat.mul_le_mul (by omega) (by omega)
  omega
theorem tdiv_bd {x : Int} (y : Int) (hx : -2147483648 ≤ x ∧ x ≤ 2147483647) : -2147483648 ≤ x.tdiv y ∧ x.tdiv y ≤ 2147483648 := by
  have h : (x.tdiv y).natAbs ≤ x.natAbs := by
    rw [Int.natAbs_tdiv]
    exact Nat.div_le_self _ _
  omega
theorem refAdd_any (a b : Int) (w : World) : Calls Tryd.prog 54 #[.int .i64 a, .int .i64 b] w fun e w' => e = .returned (.int .i64 (vAdd a b)) ∧ w' = w := by
  have ha := vWrap_bd a
  have hb := vWrap_bd b
  go_enter Tryd.func54, Tryd.ntmps54
  go_wp2_with (go_at_call 35; refine (refWrap_any _ _).mono ?_; rintro e w' ⟨rfl, rfl⟩)
  go_ret
  exact ⟨rfl, rfl⟩
theorem refSub_any (a b : Int) (w : World) : Calls Tryd.prog 55 #[.int .i64 a, .int .i64 b] w fun e w' => e = .returned (.int .i64 (vSub a b)) ∧ w' = w := by
  have ha := vWrap_bd a
  have hb := vWrap_bd b
  go_enter Tryd.func55, Tryd.ntmps55
  go_wp2_with (go_at_call 35; refine (refWrap_any _ _).mono ?_; rintro e w' ⟨rfl, rfl⟩)
  go_ret
  exact ⟨rfl, rfl⟩
theorem refMul_any (a b : Int) (w : World) : Calls Tryd.prog 56 #[.int .i64 a, .int .i64 b] w fun e w' => e = .returned (.int .i64 (vMul a b)) ∧ w' = w := by
  have hm := mul_bd (vWrap_bd a) (vWrap_bd b)
  go_enter Tryd.func56, Tryd.ntmps56
  go_wp2_with (go_at_call 35; refine (refWrap_any _ _).mono ?_; rintro e w' ⟨rfl, rfl⟩)
  go_ret
  exact ⟨rfl, rfl⟩
theorem refLess_any (a b : Int) (w : World) : Calls Tryd.prog 57 #[.int .i64 a, .int .i64 b] w fun e w' => e = .returned (.int .i64 (vLess a b)) ∧ w' = w := by
  by_cases h : vWrap a < vWrap b
  · have e1 : vLess a b = 1 := if_pos h
    rw [e1]
    clear e1
    go_enter Tryd.func57, Tryd.ntmps57
    go_wp2_with (go_at_call 35; refine (refWrap_any _ _).mono ?_; rintro e w' ⟨rfl, rfl⟩)
    go_ret
    exact ⟨rfl, rfl⟩
  · have e1 : vLess a b = 0 := if_neg h
    rw [e1]
    clear e1
    go_enter Tryd.func57, Tryd.ntmps57
    go_wp2_with (go_at_call 35; refine (refWrap_any _ _).mono ?_; rintro e w' ⟨rfl, rfl⟩)
    go_ret
    exact ⟨rfl, rfl⟩
theorem refDiv_any (a b : Int) (w : World) : Calls Tryd.prog 58 #[.int .i64 a, .int .i64 b] w fun e w' => e = .returned (.tuple #[.int .i64 (vQuo a b), .bool (vOk b)]) ∧ w' = w := by
  by_cases h : vWrap b = 0
  · have h2 : wrap32 b = 0 := h
    have e1 : vQuo a b = 0 := by simp [vQuo, h2]
    have e2 : vOk b = false := by simp [vOk, h2]
    rw [e1, e2]
    clear e1 e2 h2
    go_enter Tryd.func58, Tryd.ntmps58
    go_wp2_with (go_at_call 35; refine (refWrap_any _ _).mono ?_; rintro e w' ⟨rfl, rfl⟩)
    go_ret2
    exact ⟨rfl, rfl⟩
  · have h2 : ¬ wrap32 b = 0 := h
    have e1 : vQuo a b = vWrap ((vWrap a).tdiv (vWrap b)) := if_neg h2
    have e2 : vOk b = true := by simp [vOk, h2]
    have hd := tdiv_bd (vWrap b) (vWrap_bd a)
    have h3 : (vWrap b == 0) = false := by simp [h]
    rw [e1, e2]
    clear e1 e2 h2
    go_enter Tryd.func58, Tryd.ntmps58
    go_wp2_with (go_at_call 35; refine (refWrap_any _ _).mono ?_; rintro e w' ⟨rfl, rfl⟩)
    go_ret2
    exact ⟨rfl, rfl⟩

/-! ### what the laws share -/
theorem awake_q : vQuo (-7) 2 = -3 := by kernel_rfl
theorem awake_k : vOk 2 = true := by kernel_rfl
theorem awake_s : vAdd 2147483647 1 = -2147483648 := by kernel_rfl
theorem awake_l : vLess (-1) 0 = 1 := by kernel_rfl
theorem tmod_neg_emod (v n : Int) (hn : 0 < n) (h : v.tmod n < 0) : v.tmod n + n = v % n := by
  have h1 := Int.tmod_add_mul_tdiv v n
  have h2 : -n < v.tmod n := by
    have := Int.natAbs_tmod v n
    have h3 : v.natAbs % n.natAbs < n.natAbs := Nat.mod_lt _ (by omega)
    omega
  have h4 : v = (v.tmod n + n) + n * (v.tdiv n - 1) := by rw [Int.mul_sub]; omega
  rw [h4, Int.add_mul_emod_self_left]
  rw [← h4]
  exact (Int.emod_eq_of_lt (by omega) (by omega)).symm
theorem tmod_pos_emod (v n : Int) (hn : 0 < n) (h : ¬ v.tmod n < 0) : v.tmod n = v % n := by
  have h1 := Int.tmod_add_mul_tdiv v n
  have h2 : v.tmod n < n := by
    have := Int.natAbs_tmod v n
    have h3 : v.natAbs % n.natAbs < n.natAbs := Nat.mod_lt _ (by omega)
    omega
  have h4 : v = v.tmod n + n * v.tdiv n := by omega
  rw [h4, Int.add_mul_emod_self_left]
  rw [← h4]
  exact (Int.emod_eq_of_lt (by omega) (by omega)).symm
theorem tmod_bd (v n : Int) (hn : 0 < n) : -n < v.tmod n ∧ v.tmod n < n := by
  have := Int.natAbs_tmod v n
  have h3 : v.natAbs % n.natAbs < n.natAbs := Nat.mod_lt _ (by omega)
  omega
theorem place_any (v n : Int) (w : World) (hn : 0 < n) (hm : n ≤ 4611686018427387904) : Calls Tryd.prog 11 #[.int .i64 v, .int .i64 n] w fun e w' => e = .returned (.int .i64 (v % n)) ∧ w' = w := by
  have hb := tmod_bd v n hn
  have h0 : ¬ n = 0 := by omega
  by_cases h : v.tmod n < 0
  · go_enter Tryd.func11, Tryd.ntmps11
    go_wp2
    go_ret
    exact ⟨ret_i64 (tmod_neg_emod v n hn h), rfl⟩
  · go_enter Tryd.func11, Tryd.ntmps11
    go_wp2
    go_ret
    exact ⟨ret_i64 (tmod_pos_emod v n hn (by omega)), rfl⟩
end Go.Proofs.YtpmapdialjdcbaaDoor.V1
