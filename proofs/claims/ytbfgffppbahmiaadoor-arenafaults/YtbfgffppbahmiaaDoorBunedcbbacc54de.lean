/-
  Helpers: ArF.
-/
import Derived.Test.YtbfgffppbahmiaaDoorBund80b0967e889
namespace Go.Proofs.YtbfgffppbahmiaaDoor
open Go.RowKit
open H8 (okP packV packF opA opB opC isH sizeF szT HTab below_then placeI placeI_bd place_any)

theorem swap_out {s : Ar} {h i x y : Int} (hi : ¬ inW s h i) : swapA s h i x y = (badA s, false) := if_neg hi
theorem add_out {s : Ar} {h i x : Int} (hi : ¬ inW s h i) : addA s h i x = (badA s, 0) := if_neg hi
theorem store_out {s : Ar} {h i x : Int} (hi : ¬ inW s h i) : storeA s h i x = badA s := if_neg hi
theorem raw_out {s : Ar} {i : Int} (hi : ¬ inR s i) : rawA s i = (badA s, 0) := if_neg hi
def faH : Int := packV 16 2 0
def faG : Int := packV 16 3 0
def faE : Int := packV 16 1 0
def faJ : Int := packV 8 9 1
def faI : Int := packV 8 9 0
def fa0 : Ar := new9 2 64 false
def fa1 : Ar := bornS fa0 faH
def fa2 (k v : Int) : Ar := { useA fa1 with mem := upN fa1.mem (atW faH k) v }
def fa3 (k v : Int) : Ar := badA (fa2 k v)
def fa4 (k v : Int) : Ar := useA (fa3 k v)
def fa5 (k v : Int) : Ar := bornS (fa4 k v) faI
theorem fa_at {a b c : Int} (ho : okP a b c) : isH (packV a b c) ∧ bN (packV a b c) = a.toNat ∧ zN (packV a b c) = (sizeF c).toNat ∧ opB (packV a b c) = b := ⟨isH_pack ho, bN_pack ho, zN_pack ho, opB_pack ho⟩
theorem fa_h : isH faH ∧ bN faH = 16 ∧ zN faH = 8 ∧ opB faH = 2 := fa_at (by decide)
theorem fa_j : isH faJ ∧ bN faJ = 8 ∧ zN faJ = 16 ∧ opB faJ = 9 := fa_at (by decide)
theorem fa_i : isH faI ∧ bN faI = 8 ∧ zN faI = 8 ∧ opB faI = 9 := fa_at (by decide)
theorem fa_born : bornA fa0 faH = (fa1, true) := okB_of fa_h.1 (by rw [fa_h.2.1, fa_h.2.2.1]; decide) (by rw [fa_h.2.2.2]; decide) fun p _ => rfl
theorem fa_st : fa1.st faH = 1 := born_st fa0 faH
theorem fa_st' {j : Int} (h : j ≠ faH) : fa1.st j = 0 := born_st' fa0 h
section
variable {k v : Int}
theorem fa_in (h1 : 0 ≤ k) (h2 : k < 8) : inW fa1 faH k := ⟨by rw [fa_st]; decide, h1, by rw [fa_h.2.2.1]; exact h2⟩
theorem fa_store (h1 : 0 ≤ k) (h2 : k < 8) : storeA fa1 faH k v = fa2 k v := store_in (fa_in h1 h2)
theorem fa_load (h1 : 0 ≤ k) (h2 : k < 8) : loadA (fa3 k v) faH k = (fa4 k v, v) := by
  rw [load_in (show inW (fa3 k v) faH k from fa_in h1 h2)]
  show (fa4 k v, upN fa1.mem (atW faH k) v (atW faH k)) = _
  rw [upN_same]
theorem fa_again : bornA (fa4 k v) faH = (fa4 k v, false) := by
  refine okB_no fun h => ?_
  have := h.2.2.1
  rw [show (fa4 k v).gen (bN faH) = opB faH from born_gen fa0 faH] at this
  omega
theorem fa_tak : (fa4 k v).tak 16 = true := by
  show (if inS faH 16 then true else false) = true
  rw [if_pos ⟨by rw [fa_h.2.1]; exact Nat.le_refl _, by rw [fa_h.2.1, fa_h.2.2.1]; decide⟩]
theorem fa_over : bornA (fa4 k v) faJ = (fa4 k v, false) := by
  refine okB_no fun h => ?_
  have := h.2.2.2 16 ⟨by rw [fa_j.2.1]; decide, by rw [fa_j.2.1, fa_j.2.2.1]; decide⟩
  rw [fa_tak] at this
  cases this
theorem fa_free : bornA (fa4 k v) faI = (fa5 k v, true) := by
  obtain ⟨h1, h2, h3, h4⟩ := fa_i
  obtain ⟨-, g2, g3, -⟩ := fa_h
  refine okB_of h1 (by rw [h2, h3]; exact (by decide : 8 + 8 ≤ 64)) ?_ fun p hp => ?_
  · rw [h4, h2]
    show upI (fun _ => (0 : Int)) (bN faH) (opB faH) ((8 : Nat) : Int) < 9
    rw [upI_other _ _ (by rw [g2]; decide)]
    decide
  · show (if inS faH p then true else false) = false
    unfold inS at hp
    rw [h2, h3] at hp
    rw [if_neg fun hq : inS faH p => by unfold inS at hq; rw [g2, g3] at hq; omega]
theorem fa_no {j i : Int} (h : j ≠ faH) : ¬ inW (fa2 k v) j i := fun hi => hi.1 (fa_st' h)
theorem fa_uses : (fa4 k v).uses = 3 := by
  show wrap64 (wrap64 (wrap64 (0 + 1) + 1) + 1) = 3
  kernel_rfl
end
theorem fa_pack {a b c : Int} (ho : okP a b c) (n : Int) (hn : n = packV a b c) (w : World) (hT : HTab w) : Calls Tryd.prog 13 #[.int .i64 a, .int .i64 b, .int .i64 c] w fun e w' => e = .returned (.int .i64 n) ∧ Below w.heap.size w w' := by
  rw [hn]
  exact H8.Pack_ok ho w hT
set_option maxHeartbeats 4000000 in
theorem faults_walk (how off v : Int) (w : World) (hT : HTab w) : Calls Tryd.prog 4 #[.int .i64 how, .int .i64 off, .int .i64 v] w fun e w' => e = .returned (.bool true) ∧ Below w.heap.size w w' := by
  obtain ⟨x1, x2⟩ := placeI_bd off 8 (by omega)
  obtain ⟨y1, y2⟩ := placeI_bd how 6 (by omega)
  have Px := fun wx => place_any off 8 wx (by omega) (by omega)
  have Py := fun wx => place_any how 6 wx (by omega) (by omega)
  generalize placeI off 8 = k at *
  generalize placeI how 6 = c at *
  have h0 : Calls Tryd.prog 8 #[.int .i64 2, .int .i64 64, .bool false] w (New9 w fa0) := New_any 2 64 false w hT
  have p1 := fun wx (hx : HTab wx) => fa_pack (a := 16) (b := 2) (c := 0) (by decide) faH rfl wx hx
  have p2 := fun wx (hx : HTab wx) => fa_pack (a := 16) (b := 3) (c := 0) (by decide) faG rfl wx hx
  have p3 := fun wx (hx : HTab wx) => fa_pack (a := 16) (b := 1) (c := 0) (by decide) faE rfl wx hx
  have p4 := fun wx (hx : HTab wx) => fa_pack (a := 8) (b := 9) (c := 1) (by decide) faJ rfl wx hx
  have p5 := fun wx (hx : HTab wx) => fa_pack (a := 8) (b := 9) (c := 0) (by decide) faI rfl wx hx
  have k1 := fun B wx (hx : ArAt B wx fa0) => Born_any hx faH
  have k2 := fun B wx (hx : ArAt B wx fa1) => Store_any hx faH k v
  have c0 := fun B wx (hx : ArAt B wx (fa2 k v)) => Store_any hx faG k 1
  have c1 := fun B wx (hx : ArAt B wx (fa2 k v)) => Load_any hx faH (8 + k)
  have c2 := fun B wx (hx : ArAt B wx (fa2 k v)) => Add_any hx faE k 1
  have c3 := fun B wx (hx : ArAt B wx (fa2 k v)) => Raw_any hx (2 + k)
  have c4 := fun B wx (hx : ArAt B wx (fa2 k v)) => Swap_any hx 0 k v 1
  have c5 := fun B wx (hx : ArAt B wx (fa2 k v)) => Load_any hx faH (-1 - k)
  have k6 := fun B wx (hx : ArAt B wx (fa3 k v)) => Fault_any hx
  have k7 := fun B wx (hx : ArAt B wx (fa3 k v)) => Load_any hx faH k
  have k8 := fun B wx (hx : ArAt B wx (fa4 k v)) => Fault_any hx
  have k9 := fun B wx (hx : ArAt B wx (fa4 k v)) => Uses_any hx
  have k10 := fun B wx (hx : ArAt B wx (fa4 k v)) => Born_any hx faH
  have k11 := fun B wx (hx : ArAt B wx (fa4 k v)) => Born_any hx faJ
  have k12 := fun B wx (hx : ArAt B wx (fa4 k v)) => Born_any hx faI
  rw [fa_born] at k1
  rw [fa_store x1 x2] at k2
  rw [store_out (fa_no (by decide))] at c0
  rw [load_out fun h => by have := h.2.2; rw [fa_h.2.2.1] at this; omega] at c1
  rw [add_out (fa_no (by decide))] at c2
  rw [raw_out fun h => by have := h.2; rw [show (fa2 k v).nr = 2 from rfl] at this; omega] at c3
  rw [swap_out (fa_no (by decide))] at c4
  rw [load_out fun h => by have := h.2.1; omega] at c5
  rw [show (fa3 k v).bad = true from rfl] at k6
  rw [fa_load x1 x2] at k7
  rw [show (fa4 k v).bad = true from rfl] at k8
  rw [fa_uses] at k9
  rw [fa_again] at k10
  rw [fa_over] at k11
  rw [fa_free] at k12
  rw [show badA (fa2 k v) = fa3 k v from rfl] at c0 c1 c2 c3 c4 c5
  generalize faH = H at *
  generalize faG = G at *
  generalize faE = E at *
  generalize faJ = J at *
  generalize faI = I at *
  generalize fa0 = s0 at *
  generalize fa1 = s1 at *
  generalize fa2 k v = s2 at *
  generalize fa3 k v = s3 at *
  generalize fa4 k v = s4 at *
  generalize fa5 k v = s5 at *
  have C1 : Hid (∀ n, n = 8 + k → ∀ B wx, ArAt B wx s2 → Calls Tryd.prog 17 #[ptrA B, .int .i64 H, .int .i64 n] wx (Left9 B wx (.int .i64 0) s3)) := fun n hn B wx hx => by rw [hn]; exact c1 B wx hx
  have C3 : Hid (∀ n, n = 2 + k → ∀ B wx, ArAt B wx s2 → Calls Tryd.prog 22 #[ptrA B, .int .i64 n] wx (Left9 B wx (.int .i64 0) s3)) := fun n hn B wx hx => by rw [hn]; exact c3 B wx hx
  have C5 : Hid (∀ n, n = -1 - k → ∀ B wx, ArAt B wx s2 → Calls Tryd.prog 17 #[ptrA B, .int .i64 H, .int .i64 n] wx (Left9 B wx (.int .i64 0) s3)) := fun n hn B wx hx => by rw [hn]; exact c5 B wx hx
  clear c1 c3 c5
  go_enter Tryd.func4, Tryd.ntmps4
  go_wp2_with fail
  refine h0.mono ?_
  rintro e w1 ⟨B, rfl, hA, hb, hB⟩
  go_wp2_with fail
  refine (p1 _ hA.tab).mono ?_
  rintro e w2 ⟨rfl, hb2⟩
  replace hA := hA.below hb2
  replace hb := below_then hb hb2
  clear hb2
  go_wp2_with fail
  refine (p2 _ hA.tab).mono ?_
  rintro e w3 ⟨rfl, hb2⟩
  replace hA := hA.below hb2
  replace hb := below_then hb hb2
  clear hb2
  go_wp2_with fail
  refine (k1 _ _ hA).mono ?_
  rintro e w4 ⟨rfl, hA4, hF4⟩
  replace hb := step_low hb hF4 hB
  clear hA hF4 k1
  go_wp2_with fail
  refine (Px _).mono ?_
  rintro e w5 ⟨rfl, rfl⟩
  go_wp2_with fail
  refine (k2 _ _ hA4).mono ?_
  rintro e w6 ⟨rfl, hA6, hF6⟩
  replace hb := step_low hb hF6 hB
  clear hA4 hF6 k2
  go_wp2_with fail
  refine (Py _).mono ?_
  rintro e w5 ⟨rfl, rfl⟩
  clear Px Py h0
  rcases (by omega : c = 0 ∨ c = 1 ∨ c = 2 ∨ c = 3 ∨ c = 4 ∨ c = 5) with rfl | rfl | rfl | rfl | rfl | rfl
  · go_wp2_with fail
    refine (c0 _ _ hA6).mono ?_
    rintro e w7 ⟨rfl, hA7, hF7⟩
    replace hb := step_low hb hF7 hB
    clear hA6 hF7 c0 C1 c2 C3 c4 C5
    go_wp2_with fail
    refine (k6 _ _ hA7).mono ?_
    rintro e w8 ⟨rfl, rfl⟩
    go_wp2_with fail
    refine (k7 _ _ hA7).mono ?_
    rintro e w9 ⟨rfl, hA9, hF9⟩
    replace hb := step_low hb hF9 hB
    clear hA7 hF9 k7 k6
    go_wp2_with fail
    refine (k8 _ _ hA9).mono ?_
    rintro e w8 ⟨rfl, rfl⟩
    go_wp2_with fail
    refine (k9 _ _ hA9).mono ?_
    rintro e w8 ⟨rfl, rfl⟩
    go_wp2_with fail
    refine (p1 _ hA9.tab).mono ?_
    rintro e w10 ⟨rfl, hb2⟩
    replace hA9 := hA9.below hb2
    replace hb := below_then hb hb2
    clear hb2
    go_wp2_with fail
    refine (k10 _ _ hA9).mono ?_
    rintro e w11 ⟨rfl, hA10, hF10⟩
    replace hb := step_low hb hF10 hB
    clear hA9 hF10 k10
    go_wp2_with fail
    refine (p4 _ hA10.tab).mono ?_
    rintro e w12 ⟨rfl, hb2⟩
    replace hA10 := hA10.below hb2
    replace hb := below_then hb hb2
    clear hb2
    go_wp2_with fail
    refine (k11 _ _ hA10).mono ?_
    rintro e w13 ⟨rfl, hA11, hF11⟩
    replace hb := step_low hb hF11 hB
    clear hA10 hF11 k11
    go_wp2_with fail
    refine (p5 _ hA11.tab).mono ?_
    rintro e w14 ⟨rfl, hb2⟩
    replace hA11 := hA11.below hb2
    replace hb := below_then hb hb2
    clear hb2
    go_wp2_with fail
    refine (k12 _ _ hA11).mono ?_
    rintro e w15 ⟨rfl, hA12, hF12⟩
    replace hb := step_low hb hF12 hB
    clear hA11 hF12 k12
    go_wp2_with fail
    refine (awake_any _ hA12.tab).mono ?_
    rintro e w16 ⟨rfl, hb2⟩
    replace hb := below_then hb hb2
    go_wp2_with fail
    go_ret
    exact ⟨rfl, hb⟩
  · go_wp2_with fail
    refine (C1.out _ (by omega) _ _ hA6).mono ?_
    rintro e w7 ⟨rfl, hA7, hF7⟩
    replace hb := step_low hb hF7 hB
    clear hA6 hF7 c0 C1 c2 C3 c4 C5
    go_wp2_with fail
    refine (k6 _ _ hA7).mono ?_
    rintro e w8 ⟨rfl, rfl⟩
    go_wp2_with fail
    refine (k7 _ _ hA7).mono ?_
    rintro e w9 ⟨rfl, hA9, hF9⟩
    replace hb := step_low hb hF9 hB
    clear hA7 hF9 k7 k6
    go_wp2_with fail
    refine (k8 _ _ hA9).mono ?_
    rintro e w8 ⟨rfl, rfl⟩
    go_wp2_with fail
    refine (k9 _ _ hA9).mono ?_
    rintro e w8 ⟨rfl, rfl⟩
    go_wp2_with fail
    refine (p1 _ hA9.tab).mono ?_
    rintro e w10 ⟨rfl, hb2⟩
    replace hA9 := hA9.below hb2
    replace hb := below_then hb hb2
    clear hb2
    go_wp2_with fail
    refine (k10 _ _ hA9).mono ?_
    rintro e w11 ⟨rfl, hA10, hF10⟩
    replace hb := step_low hb hF10 hB
    clear hA9 hF10 k10
    go_wp2_with fail
    refine (p4 _ hA10.tab).mono ?_
    rintro e w12 ⟨rfl, hb2⟩
    replace hA10 := hA10.below hb2
    replace hb := below_then hb hb2
    clear hb2
    go_wp2_with fail
    refine (k11 _ _ hA10).mono ?_
    rintro e w13 ⟨rfl, hA11, hF11⟩
    replace hb := step_low hb hF11 hB
    clear hA10 hF11 k11
    go_wp2_with fail
    refine (p5 _ hA11.tab).mono ?_
    rintro e w14 ⟨rfl, hb2⟩
    replace hA11 := hA11.below hb2
    replace hb := below_then hb hb2
    clear hb2
    go_wp2_with fail
    refine (k12 _ _ hA11).mono ?_
    rintro e w15 ⟨rfl, hA12, hF12⟩
    replace hb := step_low hb hF12 hB
    clear hA11 hF12 k12
    go_wp2_with fail
    refine (awake_any _ hA12.tab).mono ?_
    rintro e w16 ⟨rfl, hb2⟩
    replace hb := below_then hb hb2
    go_wp2_with fail
    go_ret
    exact ⟨rfl, hb⟩
  · go_wp2_with fail
    refine (p3 _ hA6.tab).mono ?_
    rintro e w3 ⟨rfl, hb2⟩
    replace hA6 := hA6.below hb2
    replace hb := below_then hb hb2
    clear hb2
    go_wp2_with fail
    refine (c2 _ _ hA6).mono ?_
    rintro e w7 ⟨rfl, hA7, hF7⟩
    replace hb := step_low hb hF7 hB
    clear hA6 hF7 c0 C1 c2 C3 c4 C5
    go_wp2_with fail
    refine (k6 _ _ hA7).mono ?_
    rintro e w8 ⟨rfl, rfl⟩
    go_wp2_with fail
    refine (k7 _ _ hA7).mono ?_
    rintro e w9 ⟨rfl, hA9, hF9⟩
    replace hb := step_low hb hF9 hB
    clear hA7 hF9 k7 k6
    go_wp2_with fail
    refine (k8 _ _ hA9).mono ?_
    rintro e w8 ⟨rfl, rfl⟩
    go_wp2_with fail
    refine (k9 _ _ hA9).mono ?_
    rintro e w8 ⟨rfl, rfl⟩
    go_wp2_with fail
    refine (p1 _ hA9.tab).mono ?_
    rintro e w10 ⟨rfl, hb2⟩
    replace hA9 := hA9.below hb2
    replace hb := below_then hb hb2
    clear hb2
    go_wp2_with fail
    refine (k10 _ _ hA9).mono ?_
    rintro e w11 ⟨rfl, hA10, hF10⟩
    replace hb := step_low hb hF10 hB
    clear hA9 hF10 k10
    go_wp2_with fail
    refine (p4 _ hA10.tab).mono ?_
    rintro e w12 ⟨rfl, hb2⟩
    replace hA10 := hA10.below hb2
    replace hb := below_then hb hb2
    clear hb2
    go_wp2_with fail
    refine (k11 _ _ hA10).mono ?_
    rintro e w13 ⟨rfl, hA11, hF11⟩
    replace hb := step_low hb hF11 hB
    clear hA10 hF11 k11
    go_wp2_with fail
    refine (p5 _ hA11.tab).mono ?_
    rintro e w14 ⟨rfl, hb2⟩
    replace hA11 := hA11.below hb2
    replace hb := below_then hb hb2
    clear hb2
    go_wp2_with fail
    refine (k12 _ _ hA11).mono ?_
    rintro e w15 ⟨rfl, hA12, hF12⟩
    replace hb := step_low hb hF12 hB
    clear hA11 hF12 k12
    go_wp2_with fail
    refine (awake_any _ hA12.tab).mono ?_
    rintro e w16 ⟨rfl, hb2⟩
    replace hb := below_then hb hb2
    go_wp2_with fail
    go_ret
    exact ⟨rfl, hb⟩
  · go_wp2_with fail
    refine (C3.out _ (by omega) _ _ hA6).mono ?_
    rintro e w7 ⟨rfl, hA7, hF7⟩
    replace hb := step_low hb hF7 hB
    clear hA6 hF7 c0 C1 c2 C3 c4 C5
    go_wp2_with fail
    refine (k6 _ _ hA7).mono ?_
    rintro e w8 ⟨rfl, rfl⟩
    go_wp2_with fail
    refine (k7 _ _ hA7).mono ?_
    rintro e w9 ⟨rfl, hA9, hF9⟩
    replace hb := step_low hb hF9 hB
    clear hA7 hF9 k7 k6
    go_wp2_with fail
    refine (k8 _ _ hA9).mono ?_
    rintro e w8 ⟨rfl, rfl⟩
    go_wp2_with fail
    refine (k9 _ _ hA9).mono ?_
    rintro e w8 ⟨rfl, rfl⟩
    go_wp2_with fail
    refine (p1 _ hA9.tab).mono ?_
    rintro e w10 ⟨rfl, hb2⟩
    replace hA9 := hA9.below hb2
    replace hb := below_then hb hb2
    clear hb2
    go_wp2_with fail
    refine (k10 _ _ hA9).mono ?_
    rintro e w11 ⟨rfl, hA10, hF10⟩
    replace hb := step_low hb hF10 hB
    clear hA9 hF10 k10
    go_wp2_with fail
    refine (p4 _ hA10.tab).mono ?_
    rintro e w12 ⟨rfl, hb2⟩
    replace hA10 := hA10.below hb2
    replace hb := below_then hb hb2
    clear hb2
    go_wp2_with fail
    refine (k11 _ _ hA10).mono ?_
    rintro e w13 ⟨rfl, hA11, hF11⟩
    replace hb := step_low hb hF11 hB
    clear hA10 hF11 k11
    go_wp2_with fail
    refine (p5 _ hA11.tab).mono ?_
    rintro e w14 ⟨rfl, hb2⟩
    replace hA11 := hA11.below hb2
    replace hb := below_then hb hb2
    clear hb2
    go_wp2_with fail
    refine (k12 _ _ hA11).mono ?_
    rintro e w15 ⟨rfl, hA12, hF12⟩
    replace hb := step_low hb hF12 hB
    clear hA11 hF12 k12
    go_wp2_with fail
    refine (awake_any _ hA12.tab).mono ?_
    rintro e w16 ⟨rfl, hb2⟩
    replace hb := below_then hb hb2
    go_wp2_with fail
    go_ret
    exact ⟨rfl, hb⟩
  · go_wp2_with fail
    refine (c4 _ _ hA6).mono ?_
    rintro e w7 ⟨rfl, hA7, hF7⟩
    replace hb := step_low hb hF7 hB
    clear hA6 hF7 c0 C1 c2 C3 c4 C5
    go_wp2_with fail
    refine (k6 _ _ hA7).mono ?_
    rintro e w8 ⟨rfl, rfl⟩
    go_wp2_with fail
    refine (k7 _ _ hA7).mono ?_
    rintro e w9 ⟨rfl, hA9, hF9⟩
    replace hb := step_low hb hF9 hB
    clear hA7 hF9 k7 k6
    go_wp2_with fail
    refine (k8 _ _ hA9).mono ?_
    rintro e w8 ⟨rfl, rfl⟩
    go_wp2_with fail
    refine (k9 _ _ hA9).mono ?_
    rintro e w8 ⟨rfl, rfl⟩
    go_wp2_with fail
    refine (p1 _ hA9.tab).mono ?_
    rintro e w10 ⟨rfl, hb2⟩
    replace hA9 := hA9.below hb2
    replace hb := below_then hb hb2
    clear hb2
    go_wp2_with fail
    refine (k10 _ _ hA9).mono ?_
    rintro e w11 ⟨rfl, hA10, hF10⟩
    replace hb := step_low hb hF10 hB
    clear hA9 hF10 k10
    go_wp2_with fail
    refine (p4 _ hA10.tab).mono ?_
    rintro e w12 ⟨rfl, hb2⟩
    replace hA10 := hA10.below hb2
    replace hb := below_then hb hb2
    clear hb2
    go_wp2_with fail
    refine (k11 _ _ hA10).mono ?_
    rintro e w13 ⟨rfl, hA11, hF11⟩
    replace hb := step_low hb hF11 hB
    clear hA10 hF11 k11
    go_wp2_with fail
    refine (p5 _ hA11.tab).mono ?_
    rintro e w14 ⟨rfl, hb2⟩
    replace hA11 := hA11.below hb2
    replace hb := below_then hb hb2
    clear hb2
    go_wp2_with fail
    refine (k12 _ _ hA11).mono ?_
    rintro e w15 ⟨rfl, hA12, hF12⟩
    replace hb := step_low hb hF12 hB
    clear hA11 hF12 k12
    go_wp2_with fail
    refine (awake_any _ hA12.tab).mono ?_
    rintro e w16 ⟨rfl, hb2⟩
    replace hb := below_then hb hb2
    go_wp2_with fail
    go_ret
    exact ⟨rfl, hb⟩
  · go_wp2_with fail
    refine (C5.out _ (by omega) _ _ hA6).mono ?_
    rintro e w7 ⟨rfl, hA7, hF7⟩
    replace hb := step_low hb hF7 hB
    clear hA6 hF7 c0 C1 c2 C3 c4 C5
    go_wp2_with fail
    refine (k6 _ _ hA7).mono ?_
    rintro e w8 ⟨rfl, rfl⟩
    go_wp2_with fail
    refine (k7 _ _ hA7).mono ?_
    rintro e w9 ⟨rfl, hA9, hF9⟩
    replace hb := step_low hb hF9 hB
    clear hA7 hF9 k7 k6
    go_wp2_with fail
    refine (k8 _ _ hA9).mono ?_
    rintro e w8 ⟨rfl, rfl⟩
    go_wp2_with fail
    refine (k9 _ _ hA9).mono ?_
    rintro e w8 ⟨rfl, rfl⟩
    go_wp2_with fail
    refine (p1 _ hA9.tab).mono ?_
    rintro e w10 ⟨rfl, hb2⟩
    replace hA9 := hA9.below hb2
    replace hb := below_then hb hb2
    clear hb2
    go_wp2_with fail
    refine (k10 _ _ hA9).mono ?_
    rintro e w11 ⟨rfl, hA10, hF10⟩
    replace hb := step_low hb hF10 hB
    clear hA9 hF10 k10
    go_wp2_with fail
    refine (p4 _ hA10.tab).mono ?_
    rintro e w12 ⟨rfl, hb2⟩
    replace hA10 := hA10.below hb2
    replace hb := below_then hb hb2
    clear hb2
    go_wp2_with fail
    refine (k11 _ _ hA10).mono ?_
    rintro e w13 ⟨rfl, hA11, hF11⟩
    replace hb := step_low hb hF11 hB
    clear hA10 hF11 k11
    go_wp2_with fail
    refine (p5 _ hA11.tab).mono ?_
    rintro e w14 ⟨rfl, hb2⟩
    replace hA11 := hA11.below hb2
    replace hb := below_then hb hb2
    clear hb2
    go_wp2_with fail
    refine (k12 _ _ hA11).mono ?_
    rintro e w15 ⟨rfl, hA12, hF12⟩
    replace hb := step_low hb hF12 hB
    clear hA11 hF12 k12
    go_wp2_with fail
    refine (awake_any _ hA12.tab).mono ?_
    rintro e w16 ⟨rfl, hb2⟩
    replace hb := below_then hb hb2
    go_wp2_with fail
    go_ret
    exact ⟨rfl, hb⟩
end Go.Proofs.YtbfgffppbahmiaaDoor
