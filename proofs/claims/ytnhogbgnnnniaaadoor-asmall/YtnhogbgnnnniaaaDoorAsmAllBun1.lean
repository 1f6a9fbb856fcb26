/-
  Helpers: L3Place.
-/
import Derived.Test.YtnhogbgnnnniaaaDoorRows
import Derived.WalkKit
namespace Go.Proofs.YtnhogbgnnnniaaaDoor.L3
open Go.RowKit

/-- any number as one from 0 to n - 1 -/
def placeI (v n : Int) : Int := v % n
theorem placeI_bd (v n : Int) (h : 0 < n) : 0 ≤ placeI v n ∧ placeI v n < n := ⟨Int.emod_nonneg _ (by omega), Int.emod_lt_of_pos _ h⟩
theorem ret_i64 {a b : Int} (h : a = b) : Ending.returned (.int .i64 a) = .returned (.int .i64 b) := by rw [h]
theorem tmod_bd {v n : Int} (h1 : 0 < n) : -n < v.tmod n ∧ v.tmod n < n := by
  have h := Int.natAbs_tmod v n
  have h2 : v.natAbs % n.natAbs < n.natAbs := Nat.mod_lt _ (by omega)
  omega
theorem place_neg {v n : Int} (h1 : 0 < n) (h : v.tmod n < 0) : v.tmod n + n = placeI v n := by
  unfold placeI
  have e := Int.tmod_add_mul_tdiv v n
  have b := tmod_bd (v := v) h1
  rw [← Int.emod_emod_of_dvd v (Int.dvd_refl n)]
  have : v % n = (v.tmod n + n) % n := by
    rw [Int.add_emod_right]
    conv => lhs; rw [← e]
    rw [Int.add_mul_emod_self_left]
  rw [this, Int.emod_emod_of_dvd _ (Int.dvd_refl n), Int.emod_eq_of_lt (by omega) (by omega)]
theorem place_pos {v n : Int} (h1 : 0 < n) (h : ¬ v.tmod n < 0) : v.tmod n = placeI v n := by
  unfold placeI
  have e := Int.tmod_add_mul_tdiv v n
  have b := tmod_bd (v := v) h1
  have : v % n = v.tmod n % n := by
    conv => lhs; rw [← e]
    rw [Int.add_mul_emod_self_left]
  rw [this, Int.emod_eq_of_lt (by omega) (by omega)]
theorem place_any (v n : Int) (w : World) (h1 : 0 < n) (h2 : n ≤ 1000000000000) : Calls Tryd.prog 24 #[.int .i64 v, .int .i64 n] w fun e w' => e = .returned (.int .i64 (placeI v n)) ∧ w' = w := by
  have hn : ¬ n = 0 := by omega
  have hn2 : (n == 0) = false := by simp [hn]
  have hb := tmod_bd (v := v) h1
  have hw : wrap64 (v.tmod n) = v.tmod n := by unfold wrap64; omega
  by_cases h : v.tmod n < 0
  · have hd : decide (v.tmod n < 0) = true := by simpa using h
    go_enter Tryd.func24, Tryd.ntmps24
    go_wp2
    go_ret
    exact ⟨ret_i64 (place_neg h1 h), rfl⟩
  · have hd : decide (v.tmod n < 0) = false := by simpa using h
    go_enter Tryd.func24, Tryd.ntmps24
    go_wp2
    go_ret
    exact ⟨ret_i64 (place_pos h1 (by omega)), rfl⟩
end Go.Proofs.YtnhogbgnnnniaaaDoor.L3
