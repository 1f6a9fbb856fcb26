/-
  Helpers: FrP.
-/
import Derived.Test.YtfljoedjnigfjaaBuna75fe8cbcebc
namespace Go.Proofs.Ytfljoedjnigfjaa
open Go.RowKit
open H8 (HTab below_then placeI placeI_bd place_any)

theorem plF_pos {a n : Int} (h1 : 0 ≤ a) (h2 : 0 ≤ n) : plF a n = ⟨a, 0, 4 * a, 4 * a + (n + 7) / 8, 4 * a + (n + 7) / 8 + (n + 7) / 8⟩ := by
  unfold plF
  rw [show max a 0 = a by omega, show max n 0 = n by omega]
theorem plF_neg {a n : Int} (h1 : a ≤ 0) (h2 : n ≤ 0) : plF a n = ⟨0, 0, 0, 0, 0⟩ := by
  unfold plF
  rw [show max a 0 = 0 by omega, show max n 0 = 0 by omega]
  rfl
set_option maxHeartbeats 4000000 in
theorem places_walk (a0 a1 : Int) (w : World) (hT : HTab w) : Calls Try.prog 5 #[.int .i64 a0, .int .i64 a1] w fun e w' => e = .returned (.bool true) ∧ Below w.heap.size w w' := by
  have P0 := fun wx => place_any a0 70 wx (by omega) (by omega)
  have P1 := fun wx => place_any a1 70000 wx (by omega) (by omega)
  obtain ⟨x1, x2⟩ := placeI_bd a0 70 (by omega)
  obtain ⟨y1, y2⟩ := placeI_bd a1 70000 (by omega)
  generalize placeI a0 70 = x at *
  generalize placeI a1 70000 = y at *
  have hl : Hid (0 ≤ (y + 7) / 8 ∧ (y + 7) / 8 ≤ 10000) := ⟨by omega, by omega⟩
  have R0 := fun wx => Raw_at (a := x) (n := y) _ _ (plF_pos x1 y1) rfl (by omega) (by omega) wx
  have R1 := fun wx => Raw_at (a := -1 - x) (n := -1 - y) _ _ (plF_neg (by omega) (by omega)) rfl (by omega) (by omega) wx
  have ka := fun wx (hx : HTab wx) => awake_any wx hx
  have HT : Hid (HTab w) := hT
  simp only [Pl5.v] at R0 R1
  clear hT
  go_enter Try.func5, Try.ntmps5
  go_wp2_with fail
  refine (P0 _).mono ?_
  rintro e w ⟨rfl, rfl⟩
  go_wp2_with fail
  refine (P1 _).mono ?_
  rintro e w ⟨rfl, rfl⟩
  go_wp2_with fail
  refine (R0 _).mono ?_
  rintro e w1 ⟨rfl, hb1⟩
  go_wp2_with fail
  refine (R1 _).mono ?_
  rintro e w2 ⟨rfl, hb2⟩
  have hg : w2.heap[w1.heap.size]? = some (plBox ⟨x, 0, 4 * x, 4 * x + (y + 7) / 8, 4 * x + (y + 7) / 8 + (y + 7) / 8⟩) := (hb2.block w1.heap.size (lt_of_block (Go.MapKept.heap_alloc w1 _).1)).trans (Go.MapKept.heap_alloc w1 _).1
  have hlt : w1.heap.size < w2.heap.size := lt_of_block hg
  have hne : w1.heap.size ≠ w2.heap.size := by omega
  obtain ⟨c0, c1, c2, c3, c4⟩ := plS_of hg
  simp only at c0 c1 c2 c3 c4
  have hb3 : Below w.heap.size w w2 := below_next (hb1.alloc hb1.size _) (Nat.le_trans hb1.size (by simp)) hb2
  have HE : ∀ o, Hid (Below w.heap.size w (w2.alloc o)) := fun o => hb3.alloc hb3.size o
  have HTA : ∀ o, Hid (HTab (w2.alloc o)) := fun o => (HT.out.below hb3).alloc o
  have E1 : (4 * x + (y + 7) / 8 + (y + 7) / 8 == 4 * x + 2 * ((y + 7) / 8)) = true := by simp; omega
  have E2 : (4 * x + (y + 7) / 8 + (y + 7) / 8 + 1 == 4 * x + 2 * ((y + 7) / 8) + 1) = true := by simp; omega
  clear hg hb1 hb2 hb3
  go_wp2_with fail
  refine (ka _ (HTA _).out).mono ?_
  rintro e w3 ⟨rfl, hb4⟩
  go_wp2_with fail
  go_ret
  exact ⟨rfl, below_next (HE _).out (HE _).out.size hb4⟩
end Go.Proofs.Ytfljoedjnigfjaa
