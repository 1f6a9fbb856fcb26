/-
  A key's digits by shifts and masks: what the smallest calls of both answer.
-/
import Derived.Test.YtbmndicocdlhdaaKP3
import Derived.Test.YtbmndicocdlhdaaRows
import Derived.WalkKit
import Derived.Deep.QuietTactic
import Derived.BigQuiet
namespace Go.Proofs.Ytbmndicocdlhdaa
open Go.RowKit

theorem and1023 (n : Int) : bits .and .i64 n 1023 = n % 1024 := by
  have hm : (BitVec.ofInt 64 1023).toNat = 2 ^ 10 - 1 := by decide
  have key : (BitVec.ofInt 64 n &&& BitVec.ofInt 64 1023).toNat = (n % ((2 ^ 64 : Nat) : Int)).toNat % 2 ^ 10 := by
    rw [BitVec.toNat_and, BitVec.toNat_ofInt, hm, Nat.and_two_pow_sub_one_eq_mod]
  show IntKind.i64.wrap ((BitVec.ofInt 64 n &&& BitVec.ofInt 64 1023).toNat : Nat) = n % 1024
  rw [key, IntKind.wrap_i64]
  omega
theorem ret_i64 {a b : Int} (h : a = b) : Ending.returned (.int .i64 a) = .returned (.int .i64 b) := by rw [h]
/-- how far a digit is moved -/
def sh (i : Nat) : Int := 10 * (5 - (i : Int))
theorem sh_bd {i : Nat} (h : i ≤ 5) : 0 ≤ sh i ∧ sh i ≤ 50 := by unfold sh; omega
theorem sh_pow : ∀ {i : Nat}, i ≤ 5 → (2 : Int) ^ (sh i).toNat = wd i
  | 0, _ => by decide
  | 1, _ => by decide
  | 2, _ => by decide
  | 3, _ => by decide
  | 4, _ => by decide
  | 5, _ => by decide
  | _ + 6, h => by omega
def inI (k : Int) : Prop := -9223372036854775808 ≤ k ∧ k ≤ 9223372036854775807
theorem up_bd {k : Int} (h : inI k) : ∀ i : Nat, i ≤ 5 → inI (k / wd i * wd i) := by
  intro i hi
  obtain ⟨h1, h2⟩ := h
  match i, hi with
  | 0, _ => simp only [wd, inI]; omega
  | 1, _ => simp only [wd, inI]; omega
  | 2, _ => simp only [wd, inI]; omega
  | 3, _ => simp only [wd, inI]; omega
  | 4, _ => simp only [wd, inI]; omega
  | 5, _ => simp only [wd, inI]; omega
theorem wrap_in {k : Int} (h : inI k) : IntKind.i64.wrap k = k := by
  obtain ⟨h1, h2⟩ := h
  rw [IntKind.wrap_i64]
  omega

theorem shift_any (i : Nat) (d : Int) (hd : d = (i : Int)) (hi : i ≤ 5) (w : World) : Calls Try.prog 24 #[.int .i64 d] w fun e w' => e = .returned (.int .i64 (sh i)) ∧ w' = w := by
  subst hd
  go_enter Try.func24, Try.ntmps24
  go_wp2
  go_ret
  exact ⟨ret_i64 (by unfold sh; omega), rfl⟩
theorem forks_any (k : Int) (w : World) : Calls Try.prog 26 #[.int .i64 k] w fun e w' => e = .returned (.func (.func 28) #[] #[.pointer (some ⟨w.heap.size, 0, none⟩)]) ∧ w' = w.alloc (.cells #[.int .i64 k] 3) := by
  go_enter Try.func26, Try.ntmps26
  go_wp2
  go_ret
  exact ⟨rfl, rfl⟩
theorem fork_any (k : Int) (g : Nat) (i : Nat) (d : Int) (hd : d = (i : Int)) (hi : i ≤ 5) (w : World) (hc : w.cell? ⟨g, 0, none⟩ = some (.int .i64 k)) :
    Calls Try.prog 28 #[.int .i64 d, .pointer (some ⟨g, 0, none⟩)] w fun e w' => e = .returned (.int .i64 (dg k i)) ∧ ∃ m, w' = w.drewN m := by
  obtain ⟨s1, s2⟩ := sh_bd hi
  have hp := sh_pow hi
  have hm := and1023 (k / wd i)
  have hs := fun wx => shift_any i d hd hi wx
  clear hd
  go_enter Try.func28, Try.ntmps28
  go_wp2_with fail
  go_quiet ((go_at_call 24; exact Calls.quiet_of_same (hs _)))
  go_wp2
  go_ret
  exact ⟨rfl, _, rfl⟩
theorem upTo_any (k : Int) (hk : inI k) (i : Nat) (d : Int) (hd : d = (i : Int)) (hi : i ≤ 5) (w : World) :
    Calls Try.prog 25 #[.int .i64 k, .int .i64 d] w fun e w' => e = .returned (.int .i64 (k / wd i * wd i)) ∧ ∃ m, w' = w.drewN m := by
  obtain ⟨s1, s2⟩ := sh_bd hi
  have hp := sh_pow hi
  have hw := wrap_in (up_bd hk i hi)
  have hs := fun wx => shift_any i d hd hi wx
  clear hd hk
  go_enter Try.func25, Try.ntmps25
  go_wp2_with fail
  go_quiet ((go_at_call 24; exact Calls.quiet_of_same (hs _)))
  go_wp2
  go_ret
  exact ⟨rfl, _, rfl⟩
theorem digit_any (k : Int) (i : Nat) (d : Int) (hd : d = (i : Int)) (hi : i ≤ 5) (w : World) :
    Calls Try.prog 27 #[.int .i64 k, .int .i64 d] w fun e w' => e = .returned (.int .i64 (dg k i)) ∧ w' = w := by
  have hp : (2 : Int) ^ (50 - 10 * (i : Int)).toNat = wd i := by
    have := sh_pow hi
    rw [show (50 - 10 * (i : Int)) = sh i by unfold sh; omega]
    exact this
  have hm := and1023 (k / wd i)
  subst hd
  go_enter Try.func27, Try.ntmps27
  go_wp2
  go_ret
  exact ⟨ret_i64 rfl, rfl⟩
end Go.Proofs.Ytbmndicocdlhdaa
