/-
  The statement HandleOrder: its walk.
-/
import Derived.Test.YteidjejadaohjaaDoorHd
namespace Go.Proofs.YteidjejadaohjaaDoor
open Go.RowKit

set_option maxHeartbeats 4000000 in
set_option maxRecDepth 4000 in
theorem order_walk (a b c : Int) (w : World) (hT : HTab w) : Calls Tryd.prog 4 #[.int .i64 a, .int .i64 b, .int .i64 c] w fun e w' => e = .returned (.bool true) ∧ Below w.heap.size w w' := by
  obtain ⟨x1, x2⟩ := placeI_bd a 65536 (by omega)
  obtain ⟨y1, y2⟩ := placeI_bd b 1073741822 (by omega)
  obtain ⟨z1, z2⟩ := placeI_bd c 4 (by omega)
  have Px := fun wx => place_any a 65536 wx (by omega) (by omega)
  have Py := fun wx => place_any b 1073741822 wx (by omega) (by omega)
  have Pz := fun wx => place_any c 4 wx (by omega) (by omega)
  generalize placeI a 65536 = x at *
  generalize placeI b 1073741822 = y at *
  generalize placeI c 4 = z at *
  have ho : okP x (1 + y) z := ⟨by omega, by omega, by omega, by omega, by omega, by omega⟩
  have ho2 : okP x (1 + y + 1) z := ⟨by omega, by omega, by omega, by omega, by omega, by omega⟩
  have A1 : Hid (∀ n, n = 1 + y → ∀ wx, HTab wx → Calls Tryd.prog 7 #[.int .i64 x, .int .i64 n, .int .i64 z] wx fun e w' => e = .returned (.int .i64 (packV x (1 + y) z)) ∧ Below wx.heap.size wx w') := fun n hn wx hx => by subst hn; exact Pack_ok ho wx hx
  have A2 : Hid (∀ n, n = 1 + y + 1 → ∀ wx, HTab wx → Calls Tryd.prog 7 #[.int .i64 x, .int .i64 n, .int .i64 z] wx fun e w' => e = .returned (.int .i64 (packV x (1 + y + 1) z)) ∧ Below wx.heap.size wx w') := fun n hn wx hx => by subst hn; exact Pack_ok ho2 wx hx
  have A3 : Hid (∀ wx, HTab wx → Calls Tryd.prog 8 #[.int .i64 (packV x (1 + y + 1) z)] wx fun e w' => e = .returned (.tuple #[.int .i64 x, .int .i64 (1 + y + 1), .int .i64 z, .bool true]) ∧ Below wx.heap.size wx w') := fun wx hx => Open_ok ho2 wx hx
  obtain ⟨hp1, hp2⟩ := pack_pos ho
  have hlt : packV x (1 + y) z < packV x (1 + y + 1) z := by unfold packV; omega
  have A5 : Hid (∀ n : Int, (n < 0 ∨ 4 ≤ n) → ∀ wx, HTab wx → Calls Tryd.prog 10 #[.int .i64 n] wx fun e w' => e = .returned (.int .i64 0) ∧ w' = wx) := fun n hn wx hx => Size_no hn wx hx
  have A6 : Hid (∀ n m k : Int, (65535 < n ∨ 1073741823 < m) → ∀ wx, HTab wx → Calls Tryd.prog 7 #[.int .i64 n, .int .i64 m, .int .i64 k] wx fun e w' => e = .returned (.int .i64 0) ∧ Below wx.heap.size wx w') := fun n m k hn wx hx => Pack_no (fun h => by have := h.2.1; have := h.2.2.2.1; omega) wx hx
  have A7 : Hid (∀ wx, HTab wx → Calls Tryd.prog 10 #[.int .i64 z] wx fun e w' => e = .returned (.int .i64 (sizeF z)) ∧ w' = wx) := fun wx hx => Size_any z wx hx
  clear ho ho2
  generalize packV x (1 + y) z = H at *
  generalize packV x (1 + y + 1) z = I at *
  have hH : (H != 0) = true := by simp; omega
  have hI : decide (H < I) = true := by simpa using hlt
  go_enter Tryd.func4, Tryd.ntmps4
  go_wp2_with fail
  refine (Px _).mono ?_
  rintro e w' ⟨rfl, rfl⟩
  go_wp2_with fail
  refine (Py _).mono ?_
  rintro e w' ⟨rfl, rfl⟩
  go_wp2_with fail
  refine (Pz _).mono ?_
  rintro e w' ⟨rfl, rfl⟩
  go_wp2_with fail
  refine (A1.out _ (by omega) _ hT).mono ?_
  rintro e w1 ⟨rfl, hb1⟩
  go_wp2_with fail
  refine (A2.out _ (by omega) _ (hT.below hb1)).mono ?_
  rintro e w2 ⟨rfl, hb2⟩
  replace hb2 := below_then hb1 hb2
  go_wp2_with fail
  refine (A3.out _ (hT.below hb2)).mono ?_
  rintro e w3 ⟨rfl, hb3⟩
  replace hb3 := below_then hb2 hb3
  have h8 := hT.below hb3
  clear A1 A2 A3 hb1 hb2 Px Py Pz
  rcases (by omega : z = 0 ∨ z = 1 ∨ z = 2 ∨ z = 3) with rfl | rfl | rfl | rfl
  · rw [show sizeF 0 = 8 from rfl] at A7
    go_wp2_with fail
    refine (A7.out _ h8).mono ?_
    rintro e w4 ⟨rfl, rfl⟩
    go_wp2_with fail
    refine (A5.out _ (by omega) _ h8).mono ?_
    rintro e w5 ⟨rfl, rfl⟩
    go_wp2_with fail
    refine (A5.out _ (by omega) _ h8).mono ?_
    rintro e w6 ⟨rfl, rfl⟩
    go_wp2_with fail
    refine (A6.out _ _ _ (by omega) _ h8).mono ?_
    rintro e w7 ⟨rfl, hb7⟩
    replace hb7 := below_then hb3 hb7
    go_wp2_with fail
    refine (A6.out _ _ _ (by omega) _ (hT.below hb7)).mono ?_
    rintro e w8 ⟨rfl, hb8⟩
    replace hb8 := below_then hb7 hb8
    go_wp2_with fail
    refine (awake_any _ (hT.below hb8)).mono ?_
    rintro e w9 ⟨rfl, hb9⟩
    replace hb9 := below_then hb8 hb9
    go_wp2_with fail
    go_ret
    exact ⟨rfl, hb9⟩
  · rw [show sizeF 1 = 16 from rfl] at A7
    go_wp2_with fail
    refine (A7.out _ h8).mono ?_
    rintro e w4 ⟨rfl, rfl⟩
    go_wp2_with fail
    refine (A5.out _ (by omega) _ h8).mono ?_
    rintro e w5 ⟨rfl, rfl⟩
    go_wp2_with fail
    refine (A5.out _ (by omega) _ h8).mono ?_
    rintro e w6 ⟨rfl, rfl⟩
    go_wp2_with fail
    refine (A6.out _ _ _ (by omega) _ h8).mono ?_
    rintro e w7 ⟨rfl, hb7⟩
    replace hb7 := below_then hb3 hb7
    go_wp2_with fail
    refine (A6.out _ _ _ (by omega) _ (hT.below hb7)).mono ?_
    rintro e w8 ⟨rfl, hb8⟩
    replace hb8 := below_then hb7 hb8
    go_wp2_with fail
    refine (awake_any _ (hT.below hb8)).mono ?_
    rintro e w9 ⟨rfl, hb9⟩
    replace hb9 := below_then hb8 hb9
    go_wp2_with fail
    go_ret
    exact ⟨rfl, hb9⟩
  · rw [show sizeF 2 = 32 from rfl] at A7
    go_wp2_with fail
    refine (A7.out _ h8).mono ?_
    rintro e w4 ⟨rfl, rfl⟩
    go_wp2_with fail
    refine (A5.out _ (by omega) _ h8).mono ?_
    rintro e w5 ⟨rfl, rfl⟩
    go_wp2_with fail
    refine (A5.out _ (by omega) _ h8).mono ?_
    rintro e w6 ⟨rfl, rfl⟩
    go_wp2_with fail
    refine (A6.out _ _ _ (by omega) _ h8).mono ?_
    rintro e w7 ⟨rfl, hb7⟩
    replace hb7 := below_then hb3 hb7
    go_wp2_with fail
    refine (A6.out _ _ _ (by omega) _ (hT.below hb7)).mono ?_
    rintro e w8 ⟨rfl, hb8⟩
    replace hb8 := below_then hb7 hb8
    go_wp2_with fail
    refine (awake_any _ (hT.below hb8)).mono ?_
    rintro e w9 ⟨rfl, hb9⟩
    replace hb9 := below_then hb8 hb9
    go_wp2_with fail
    go_ret
    exact ⟨rfl, hb9⟩
  · rw [show sizeF 3 = 64 from rfl] at A7
    go_wp2_with fail
    refine (A7.out _ h8).mono ?_
    rintro e w4 ⟨rfl, rfl⟩
    go_wp2_with fail
    refine (A5.out _ (by omega) _ h8).mono ?_
    rintro e w5 ⟨rfl, rfl⟩
    go_wp2_with fail
    refine (A5.out _ (by omega) _ h8).mono ?_
    rintro e w6 ⟨rfl, rfl⟩
    go_wp2_with fail
    refine (A6.out _ _ _ (by omega) _ h8).mono ?_
    rintro e w7 ⟨rfl, hb7⟩
    replace hb7 := below_then hb3 hb7
    go_wp2_with fail
    refine (A6.out _ _ _ (by omega) _ (hT.below hb7)).mono ?_
    rintro e w8 ⟨rfl, hb8⟩
    replace hb8 := below_then hb7 hb8
    go_wp2_with fail
    refine (awake_any _ (hT.below hb8)).mono ?_
    rintro e w9 ⟨rfl, hb9⟩
    replace hb9 := below_then hb8 hb9
    go_wp2_with fail
    go_ret
    exact ⟨rfl, hb9⟩
end Go.Proofs.YteidjejadaohjaaDoor
