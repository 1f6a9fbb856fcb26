/-
  What the statements call: places, awake.
-/
import Derived.Test.YteidjejadaohjaaDoorHc
namespace Go.Proofs.YteidjejadaohjaaDoor
open Go.RowKit

/-- any number as one from 0 to n - 1 -/
def placeI (v n : Int) : Int := v % n
theorem placeI_bd (v n : Int) (h : 0 < n) : 0 ≤ placeI v n ∧ placeI v n < n := ⟨Int.emod_nonneg _ (by omega), Int.emod_lt_of_pos _ h⟩
theorem tmod_bd {v n : Int} (h1 : 0 < n) : -n < v.tmod n ∧ v.tmod n < n := by
  have h := Int.natAbs_tmod v n
  have h2 : v.natAbs % n.natAbs < n.natAbs := Nat.mod_lt _ (by omega)
  omega
theorem place_neg {v n : Int} (h1 : 0 < n) (h : v.tmod n < 0) : v.tmod n + n = placeI v n := by
  unfold placeI
  have e := Int.tmod_add_mul_tdiv v n
  have b := tmod_bd (v := v) h1
  rw [← Int.emod_emod_of_dvd v (Int.dvd_refl n)]
  have : v % n = (v.tmod n + n) % n := by
    rw [Int.add_emod_right]
    conv => lhs; rw [← e]
    rw [Int.add_mul_emod_self_left]
  rw [this, Int.emod_emod_of_dvd _ (Int.dvd_refl n), Int.emod_eq_of_lt (by omega) (by omega)]
theorem place_pos {v n : Int} (h1 : 0 < n) (h : ¬ v.tmod n < 0) : v.tmod n = placeI v n := by
  unfold placeI
  have e := Int.tmod_add_mul_tdiv v n
  have b := tmod_bd (v := v) h1
  have : v % n = v.tmod n % n := by
    conv => lhs; rw [← e]
    rw [Int.add_mul_emod_self_left]
  rw [this, Int.emod_eq_of_lt (by omega) (by omega)]
theorem place_any (v n : Int) (w : World) (h1 : 0 < n) (h2 : n ≤ 2147483648) : Calls Tryd.prog 6 #[.int .i64 v, .int .i64 n] w fun e w' => e = .returned (.int .i64 (placeI v n)) ∧ w' = w := by
  have hn : ¬ n = 0 := by omega
  have hn2 : (n == 0) = false := by simp [hn]
  have hb := tmod_bd (v := v) h1
  have hw : wrap64 (v.tmod n) = v.tmod n := by unfold wrap64; omega
  by_cases h : v.tmod n < 0
  · have hd : decide (v.tmod n < 0) = true := by simpa using h
    go_enter Tryd.func6, Tryd.ntmps6
    go_wp2
    go_ret
    exact ⟨ret_i64 (place_neg h1 h), rfl⟩
  · have hd : decide (v.tmod n < 0) = false := by simpa using h
    go_enter Tryd.func6, Tryd.ntmps6
    go_wp2
    go_ret
    exact ⟨ret_i64 (place_pos h1 (by omega)), rfl⟩
theorem below_then {a b c : World} (h : Below a.heap.size a b) (k : Below b.heap.size b c) : Below a.heap.size a c := h.trans (k.mono h.size)
theorem wf_in {n : Int} (h : (Lit.int .i64 n).wf = true) : -9223372036854775808 ≤ n ∧ n ≤ 9223372036854775807 := by
  simp only [Lit.wf, Bool.and_eq_true, decide_eq_true_eq] at h
  simp [IntKind.min, IntKind.max, IntKind.bits, IntKind.signed] at h
  exact ⟨by omega, by omega⟩
/-- what may be packed is packed, what may not is 0 -/
theorem Pack_ok {a b c : Int} (h : okP a b c) (w : World) (hT : HTab w) : Calls Tryd.prog 7 #[.int .i64 a, .int .i64 b, .int .i64 c] w fun e w' => e = .returned (.int .i64 (packV a b c)) ∧ Below w.heap.size w w' := by
  have := Pack_any a b c w hT
  rw [packF_ok h] at this
  exact this
theorem Pack_no {a b c : Int} (h : ¬ okP a b c) (w : World) (hT : HTab w) : Calls Tryd.prog 7 #[.int .i64 a, .int .i64 b, .int .i64 c] w fun e w' => e = .returned (.int .i64 0) ∧ Below w.heap.size w w' := by
  have := Pack_any a b c w hT
  rw [packF_no h] at this
  exact this
theorem Open_ok {a b c : Int} (h : okP a b c) (w : World) (hT : HTab w) : Calls Tryd.prog 8 #[.int .i64 (packV a b c)] w fun e w' => e = .returned (.tuple #[.int .i64 a, .int .i64 b, .int .i64 c, .bool true]) ∧ Below w.heap.size w w' := by
  have := Open_any (packV a b c) w hT
  rw [opnV_yes h] at this
  exact this
theorem Open_no {h : Int} (hn : ¬ isH h) (w : World) (hT : HTab w) : Calls Tryd.prog 8 #[.int .i64 h] w fun e w' => e = .returned (.tuple #[.int .i64 0, .int .i64 0, .int .i64 0, .bool false]) ∧ Below w.heap.size w w' := by
  have := Open_any h w hT
  rw [opnV_no hn] at this
  exact this
theorem Size_no {c : Int} (h : c < 0 ∨ 4 ≤ c) (w : World) (hT : HTab w) : Calls Tryd.prog 10 #[.int .i64 c] w fun e w' => e = .returned (.int .i64 0) ∧ w' = w := by
  have := Size_any c w hT
  rw [sizeF_no h] at this
  exact this
theorem awake_any (w : World) (hT : HTab w) : Calls Tryd.prog 9 #[] w fun e w' => e = .returned (.bool true) ∧ Below w.heap.size w w' := by
  have ho : okP 64 3 2 := by decide
  have h1 := fun wx (hx : HTab wx) => Pack_ok ho wx hx
  have h2 := fun wx (hx : HTab wx) => Open_ok ho wx hx
  have h3 := fun wx (hx : HTab wx) => Open_no (h := 0) (not_name_bd (by omega)) wx hx
  have h4 := fun wx (hx : HTab wx) => Size_any 3 wx hx
  rw [show sizeF 3 = 64 from rfl] at h4
  generalize packV 64 3 2 = H at h1 h2
  clear ho
  go_enter Tryd.func9, Tryd.ntmps9
  go_wp2_with fail
  refine (h1 _ hT).mono ?_
  rintro e w1 ⟨rfl, hb1⟩
  go_wp2_with fail
  refine (h2 _ (hT.below hb1)).mono ?_
  rintro e w2 ⟨rfl, hb2⟩
  replace hb2 := below_then hb1 hb2
  go_wp2_with fail
  refine (h3 _ (hT.below hb2)).mono ?_
  rintro e w3 ⟨rfl, hb3⟩
  replace hb3 := below_then hb2 hb3
  go_wp2_with fail
  refine (h4 _ (hT.below hb3)).mono ?_
  rintro e w4 ⟨rfl, rfl⟩
  go_wp2_with fail
  go_ret
  exact ⟨rfl, hb3⟩
end Go.Proofs.YteidjejadaohjaaDoor
