/-
  The statements: their walks.
-/
import Derived.Test.YteidjejadaohjaaDoorHd
namespace Go.Proofs.YteidjejadaohjaaDoor
open Go.RowKit

set_option maxHeartbeats 4000000 in
set_option maxRecDepth 4000 in
theorem back_walk (a b c d e f : Int) (w : World) (hT : HTab w) : Calls Tryd.prog 3 #[.int .i64 a, .int .i64 b, .int .i64 c, .int .i64 d, .int .i64 e, .int .i64 f] w fun e w' => e = .returned (.bool true) ∧ Below w.heap.size w w' := by
  obtain ⟨x1, x2⟩ := placeI_bd a 65536 (by omega)
  obtain ⟨y1, y2⟩ := placeI_bd b 1073741823 (by omega)
  obtain ⟨z1, z2⟩ := placeI_bd c 4 (by omega)
  obtain ⟨p1, p2⟩ := placeI_bd d 65536 (by omega)
  obtain ⟨q1, q2⟩ := placeI_bd e 1073741823 (by omega)
  obtain ⟨r1, r2⟩ := placeI_bd f 4 (by omega)
  have Px := fun wx => place_any a 65536 wx (by omega) (by omega)
  have Py := fun wx => place_any b 1073741823 wx (by omega) (by omega)
  have Pz := fun wx => place_any c 4 wx (by omega) (by omega)
  have Pp := fun wx => place_any d 65536 wx (by omega) (by omega)
  have Pq := fun wx => place_any e 1073741823 wx (by omega) (by omega)
  have Pr := fun wx => place_any f 4 wx (by omega) (by omega)
  generalize placeI a 65536 = x at *
  generalize placeI b 1073741823 = y at *
  generalize placeI c 4 = z at *
  generalize placeI d 65536 = p at *
  generalize placeI e 1073741823 = q at *
  generalize placeI f 4 = r at *
  have ho : okP x (1 + y) z := ⟨by omega, by omega, by omega, by omega, by omega, by omega⟩
  have ho2 : okP p (1 + q) r := ⟨by omega, by omega, by omega, by omega, by omega, by omega⟩
  have A1 := fun wx (hx : HTab wx) => Pack_ok ho wx hx
  have A2 := fun wx (hx : HTab wx) => Pack_ok ho2 wx hx
  have A3 := fun wx (hx : HTab wx) => Open_ok ho wx hx
  obtain ⟨hp1, hp2⟩ := pack_pos ho
  have A4 := fun wx (hx : HTab wx) => Open_no (h := -packV x (1 + y) z) (not_name_bd (by omega)) wx hx
  have A5 := fun wx (hx : HTab wx) => Pack_no (a := -1 - x) (b := 1 + y) (c := z) (fun h => by have := h.1; omega) wx hx
  have A6 := fun (n : Int) (hn : n = -y) wx (hx : HTab wx) => Pack_no (a := x) (b := n) (c := z) (fun h => by have := h.2.2.1; omega) wx hx
  have A7 := fun wx (hx : HTab wx) => Pack_no (a := x) (b := 1 + y) (c := 4 + z) (fun h => by have := h.2.2.2.2.2; omega) wx hx
  have hall : (x = p ∧ y = q ∧ z = r ∧ packV x (1 + y) z = packV p (1 + q) r) ∨ (¬ packV x (1 + y) z = packV p (1 + q) r ∧ (¬ x = p ∨ x = p ∧ ¬ y = q ∨ x = p ∧ y = q ∧ ¬ z = r)) := by
    by_cases he : packV x (1 + y) z = packV p (1 + q) r
    · obtain ⟨e1, e2, e3⟩ := pack_inj ho ho2 he
      exact .inl ⟨e1, by omega, e3, he⟩
    · refine .inr ⟨he, ?_⟩
      by_cases k1 : x = p
      · by_cases k2 : y = q
        · by_cases k3 : z = r
          · subst k1; subst k2; subst k3; exact absurd rfl he
          · exact .inr (.inr ⟨k1, k2, k3⟩)
        · exact .inr (.inl ⟨k1, k2⟩)
      · exact .inl k1
  have HA : Hid ((x = p ∧ y = q ∧ z = r ∧ packV x (1 + y) z = packV p (1 + q) r) ∨ (¬ packV x (1 + y) z = packV p (1 + q) r ∧ (¬ x = p ∨ x = p ∧ ¬ y = q ∨ x = p ∧ y = q ∧ ¬ z = r))) := hall
  clear hall ho ho2
  generalize packV x (1 + y) z = H at *
  generalize packV p (1 + q) r = I at *
  have HP1 : Hid (∀ wx, HTab wx → Calls Tryd.prog 7 #[.int .i64 x, .int .i64 (1 + y), .int .i64 z] wx fun e w' => e = .returned (.int .i64 H) ∧ Below wx.heap.size wx w') := A1
  clear A1
  go_enter Tryd.func3, Tryd.ntmps3
  go_wp2_with fail
  refine (Px _).mono ?_
  rintro e w' ⟨rfl, rfl⟩
  go_wp2_with fail
  refine (Py _).mono ?_
  rintro e w' ⟨rfl, rfl⟩
  go_wp2_with fail
  refine (Pz _).mono ?_
  rintro e w' ⟨rfl, rfl⟩
  go_wp2_with fail
  refine (Pp _).mono ?_
  rintro e w' ⟨rfl, rfl⟩
  go_wp2_with fail
  refine (Pq _).mono ?_
  rintro e w' ⟨rfl, rfl⟩
  go_wp2_with fail
  refine (Pr _).mono ?_
  rintro e w' ⟨rfl, rfl⟩
  go_wp2_with fail
  refine (HP1.out _ hT).mono ?_
  rintro e w1 ⟨rfl, hb1⟩
  go_wp2_with fail
  refine (A2 _ (hT.below hb1)).mono ?_
  rintro e w2 ⟨rfl, hb2⟩
  replace hb2 := below_then hb1 hb2
  go_wp2_with fail
  refine (A3 _ (hT.below hb2)).mono ?_
  rintro e w3 ⟨rfl, hb3⟩
  replace hb3 := below_then hb2 hb3
  go_wp2_with fail
  refine (A4 _ (hT.below hb3)).mono ?_
  rintro e w4 ⟨rfl, hb4⟩
  replace hb4 := below_then hb3 hb4
  rcases HA.out with ⟨rfl, rfl, rfl, rfl⟩ | ⟨hne, h | ⟨rfl, h⟩ | ⟨rfl, rfl, h⟩⟩
  · clear HA
    go_wp2_with fail
    refine (A5 _ (hT.below hb4)).mono ?_
    rintro e w5 ⟨rfl, hb5⟩
    replace hb5 := below_then hb4 hb5
    go_wp2_with fail
    refine (A6 _ (by omega) _ (hT.below hb5)).mono ?_
    rintro e w6 ⟨rfl, hb6⟩
    replace hb6 := below_then hb5 hb6
    go_wp2_with fail
    refine (A7 _ (hT.below hb6)).mono ?_
    rintro e w7 ⟨rfl, hb7⟩
    replace hb7 := below_then hb6 hb7
    go_wp2_with fail
    refine (awake_any _ (hT.below hb7)).mono ?_
    rintro e w8 ⟨rfl, hb8⟩
    replace hb8 := below_then hb7 hb8
    go_wp2_with fail
    go_ret
    exact ⟨rfl, hb8⟩
  · have hh : (x == p) = false := by simp; omega
    have hh2 : (H == I) = false := by simp; omega
    clear HA
    go_wp2_with fail
    refine (A5 _ (hT.below hb4)).mono ?_
    rintro e w5 ⟨rfl, hb5⟩
    replace hb5 := below_then hb4 hb5
    go_wp2_with fail
    refine (A6 _ (by omega) _ (hT.below hb5)).mono ?_
    rintro e w6 ⟨rfl, hb6⟩
    replace hb6 := below_then hb5 hb6
    go_wp2_with fail
    refine (A7 _ (hT.below hb6)).mono ?_
    rintro e w7 ⟨rfl, hb7⟩
    replace hb7 := below_then hb6 hb7
    go_wp2_with fail
    refine (awake_any _ (hT.below hb7)).mono ?_
    rintro e w8 ⟨rfl, hb8⟩
    replace hb8 := below_then hb7 hb8
    go_wp2_with fail
    go_ret
    exact ⟨rfl, hb8⟩
  · have hh : ((1 + y) == (1 + q)) = false := by simp; omega
    have hh3 : ¬ (1 + y = 1 + q) := by omega
    have hh2 : (H == I) = false := by simp; omega
    clear HA
    go_wp2_with fail
    refine (A5 _ (hT.below hb4)).mono ?_
    rintro e w5 ⟨rfl, hb5⟩
    replace hb5 := below_then hb4 hb5
    go_wp2_with fail
    refine (A6 _ (by omega) _ (hT.below hb5)).mono ?_
    rintro e w6 ⟨rfl, hb6⟩
    replace hb6 := below_then hb5 hb6
    go_wp2_with fail
    refine (A7 _ (hT.below hb6)).mono ?_
    rintro e w7 ⟨rfl, hb7⟩
    replace hb7 := below_then hb6 hb7
    go_wp2_with fail
    refine (awake_any _ (hT.below hb7)).mono ?_
    rintro e w8 ⟨rfl, hb8⟩
    replace hb8 := below_then hb7 hb8
    go_wp2_with fail
    go_ret
    exact ⟨rfl, hb8⟩
  · have hh : (z == r) = false := by simp; omega
    have hh2 : (H == I) = false := by simp; omega
    clear HA
    go_wp2_with fail
    refine (A5 _ (hT.below hb4)).mono ?_
    rintro e w5 ⟨rfl, hb5⟩
    replace hb5 := below_then hb4 hb5
    go_wp2_with fail
    refine (A6 _ (by omega) _ (hT.below hb5)).mono ?_
    rintro e w6 ⟨rfl, hb6⟩
    replace hb6 := below_then hb5 hb6
    go_wp2_with fail
    refine (A7 _ (hT.below hb6)).mono ?_
    rintro e w7 ⟨rfl, hb7⟩
    replace hb7 := below_then hb6 hb7
    go_wp2_with fail
    refine (awake_any _ (hT.below hb7)).mono ?_
    rintro e w8 ⟨rfl, hb8⟩
    replace hb8 := below_then hb7 hb8
    go_wp2_with fail
    go_ret
    exact ⟨rfl, hb8⟩
end Go.Proofs.YteidjejadaohjaaDoor
