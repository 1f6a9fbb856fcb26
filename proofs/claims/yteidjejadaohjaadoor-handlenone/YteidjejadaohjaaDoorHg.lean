/-
  The statement HandleNone: its walk.
-/
import Derived.Test.YteidjejadaohjaaDoorHd
namespace Go.Proofs.YteidjejadaohjaaDoor
open Go.RowKit

set_option maxHeartbeats 4000000 in
set_option maxRecDepth 4000 in
theorem none_walk (a b c d : Int) (w : World) (hT : HTab w) : Calls Tryd.prog 5 #[.int .i64 a, .int .i64 b, .int .i64 c, .int .i64 d] w fun e w' => e = .returned (.bool true) ∧ Below w.heap.size w w' := by
  obtain ⟨x1, x2⟩ := placeI_bd a 65536 (by omega)
  obtain ⟨y1, y2⟩ := placeI_bd b 1073741823 (by omega)
  obtain ⟨z1, z2⟩ := placeI_bd c 4 (by omega)
  obtain ⟨k1, k2⟩ := placeI_bd d 5 (by omega)
  have Px := fun wx => place_any a 65536 wx (by omega) (by omega)
  have Py := fun wx => place_any b 1073741823 wx (by omega) (by omega)
  have Pz := fun wx => place_any c 4 wx (by omega) (by omega)
  have Pk := fun wx => place_any d 5 wx (by omega) (by omega)
  generalize placeI a 65536 = x at *
  generalize placeI b 1073741823 = y at *
  generalize placeI c 4 = z at *
  generalize placeI d 5 = k at *
  have ho : okP x (1 + y) z := ⟨by omega, by omega, by omega, by omega, by omega, by omega⟩
  have A1 : Hid (∀ n, n = 1 + y → ∀ wx, HTab wx → Calls Tryd.prog 7 #[.int .i64 x, .int .i64 n, .int .i64 z] wx fun e w' => e = .returned (.int .i64 (packV x (1 + y) z)) ∧ Below wx.heap.size wx w') := fun n hn wx hx => by subst hn; exact Pack_ok ho wx hx
  obtain ⟨hp1, hp2⟩ := pack_pos ho
  have A2 : Hid (∀ n : Int, (n = packV x (1 + y) z - 4 * (1 + y) ∨ n = packV x (1 + y) z + 1125899906842624 ∨ n = packV x (1 + y) z - 1125899906842624 ∨ n = - packV x (1 + y) z ∨ n = packV x (1 + y) z + 281474976710656) → ∀ wx, HTab wx → Calls Tryd.prog 8 #[.int .i64 n] wx fun e w' => e = .returned (.tuple #[.int .i64 0, .int .i64 0, .int .i64 0, .bool false]) ∧ Below wx.heap.size wx w') := fun n hn wx hx => by
    refine Open_no ?_ wx hx
    rcases hn with rfl | hn
    · have e : packV x (1 + y) z - 4 * (1 + y) = 1125899906842624 + x * 4294967296 + z := by unfold packV; omega
      rw [e]
      exact not_name_gen (by omega) (by omega)
    · exact not_name_bd (by omega)
  clear ho
  generalize packV x (1 + y) z = H at *
  have hI : decide (0 < H) = true := by simp; omega
  go_enter Tryd.func5, Tryd.ntmps5
  go_wp2_with fail
  refine (Px _).mono ?_
  rintro e w' ⟨rfl, rfl⟩
  go_wp2_with fail
  refine (Py _).mono ?_
  rintro e w' ⟨rfl, rfl⟩
  go_wp2_with fail
  refine (Pz _).mono ?_
  rintro e w' ⟨rfl, rfl⟩
  go_wp2_with fail
  refine (A1.out _ (by omega) _ hT).mono ?_
  rintro e w1 ⟨rfl, hb1⟩
  go_wp2_with fail
  refine (Pk _).mono ?_
  rintro e w' ⟨rfl, rfl⟩
  clear A1 Px Py Pz Pk
  rcases (by omega : k = 0 ∨ k = 1 ∨ k = 2 ∨ k = 3 ∨ k = 4) with rfl | rfl | rfl | rfl | rfl
  · have hx : ∀ (u0 u1 u2 u3 u4 : Int) (wx : World), (Instr.index 31 (.agg #[.int .i64 u0, .int .i64 u1, .int .i64 u2, .int .i64 u3, .int .i64 u4]) (.int .i64 0)).run Tryd.prog wx = .ok (.int .i64 u0) wx := fun _ _ _ _ _ _ => by kernel_rfl
    go_wp2_with fail
    refine (A2.out _ (by omega) _ (hT.below hb1)).mono ?_
    rintro e w2 ⟨rfl, hb2⟩
    replace hb2 := below_then hb1 hb2
    go_wp2_with fail
    refine (awake_any _ (hT.below hb2)).mono ?_
    rintro e w3 ⟨rfl, hb3⟩
    replace hb3 := below_then hb2 hb3
    go_wp2_with fail
    go_ret
    exact ⟨rfl, hb3⟩
  · have hx : ∀ (u0 u1 u2 u3 u4 : Int) (wx : World), (Instr.index 31 (.agg #[.int .i64 u0, .int .i64 u1, .int .i64 u2, .int .i64 u3, .int .i64 u4]) (.int .i64 1)).run Tryd.prog wx = .ok (.int .i64 u1) wx := fun _ _ _ _ _ _ => by kernel_rfl
    go_wp2_with fail
    refine (A2.out _ (by omega) _ (hT.below hb1)).mono ?_
    rintro e w2 ⟨rfl, hb2⟩
    replace hb2 := below_then hb1 hb2
    go_wp2_with fail
    refine (awake_any _ (hT.below hb2)).mono ?_
    rintro e w3 ⟨rfl, hb3⟩
    replace hb3 := below_then hb2 hb3
    go_wp2_with fail
    go_ret
    exact ⟨rfl, hb3⟩
  · have hx : ∀ (u0 u1 u2 u3 u4 : Int) (wx : World), (Instr.index 31 (.agg #[.int .i64 u0, .int .i64 u1, .int .i64 u2, .int .i64 u3, .int .i64 u4]) (.int .i64 2)).run Tryd.prog wx = .ok (.int .i64 u2) wx := fun _ _ _ _ _ _ => by kernel_rfl
    go_wp2_with fail
    refine (A2.out _ (by omega) _ (hT.below hb1)).mono ?_
    rintro e w2 ⟨rfl, hb2⟩
    replace hb2 := below_then hb1 hb2
    go_wp2_with fail
    refine (awake_any _ (hT.below hb2)).mono ?_
    rintro e w3 ⟨rfl, hb3⟩
    replace hb3 := below_then hb2 hb3
    go_wp2_with fail
    go_ret
    exact ⟨rfl, hb3⟩
  · have hx : ∀ (u0 u1 u2 u3 u4 : Int) (wx : World), (Instr.index 31 (.agg #[.int .i64 u0, .int .i64 u1, .int .i64 u2, .int .i64 u3, .int .i64 u4]) (.int .i64 3)).run Tryd.prog wx = .ok (.int .i64 u3) wx := fun _ _ _ _ _ _ => by kernel_rfl
    go_wp2_with fail
    refine (A2.out _ (by omega) _ (hT.below hb1)).mono ?_
    rintro e w2 ⟨rfl, hb2⟩
    replace hb2 := below_then hb1 hb2
    go_wp2_with fail
    refine (awake_any _ (hT.below hb2)).mono ?_
    rintro e w3 ⟨rfl, hb3⟩
    replace hb3 := below_then hb2 hb3
    go_wp2_with fail
    go_ret
    exact ⟨rfl, hb3⟩
  · have hx : ∀ (u0 u1 u2 u3 u4 : Int) (wx : World), (Instr.index 31 (.agg #[.int .i64 u0, .int .i64 u1, .int .i64 u2, .int .i64 u3, .int .i64 u4]) (.int .i64 4)).run Tryd.prog wx = .ok (.int .i64 u4) wx := fun _ _ _ _ _ _ => by kernel_rfl
    go_wp2_with fail
    refine (A2.out _ (by omega) _ (hT.below hb1)).mono ?_
    rintro e w2 ⟨rfl, hb2⟩
    replace hb2 := below_then hb1 hb2
    go_wp2_with fail
    refine (awake_any _ (hT.below hb2)).mono ?_
    rintro e w3 ⟨rfl, hb3⟩
    replace hb3 := below_then hb2 hb3
    go_wp2_with fail
    go_ret
    exact ⟨rfl, hb3⟩
end Go.Proofs.YteidjejadaohjaaDoor
