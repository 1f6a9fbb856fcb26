/-
  Helpers: AllW4.
-/
import Derived.Test.YtnhogbgnnnniaaaDoorAsmAllBun37
import Derived.Test.YtnhogbgnnnniaaaDoorAsmAllBun39
import Derived.Test.YtnhogbgnnnniaaaDoorAsmAllBun36
import Derived.Test.YtnhogbgnnnniaaaDoorAsmAllBun31
import Derived.Test.YtnhogbgnnnniaaaDoorAsmAllBun24
import Derived.Test.YtnhogbgnnnniaaaDoorAsmAllBun22
import Derived.Test.YtnhogbgnnnniaaaDoorAsmAllBun12
import Derived.Deep.RegionHeld3
namespace Go.Proofs.YtnhogbgnnnniaaaDoor
open Go.RowKit L3
open C2 (In Pr SlF SlI Tab BoxedP bigB)

theorem small_of {fs : List (List In)} (h : ¬ bigB fs = true) : fs.length ≤ 12 ∧ ∀ f ∈ fs, f.length ≤ 40 := by
  unfold bigB at h
  simp only [Bool.or_eq_true, decide_eq_true_eq, List.any_eq_true, not_or, not_exists, not_and] at h
  exact ⟨by omega, fun f hf => by have := h.2 f hf; omega⟩
theorem parse_small (l : List UInt8) : (parseF l).1.fs.length ≤ 12 ∧ ∀ f ∈ (parseF l).1.fs, f.length ≤ 40 := by
  have h0 : pr0.fs.length ≤ 12 ∧ ∀ f ∈ pr0.fs, f.length ≤ 40 := ⟨by simp [pr0], by simp [pr0]⟩
  unfold parseF
  split
  · exact h0
  · split
    · exact h0
    · rename_i all _
      by_cases hb : bigB (progF all).fs = true
      · rw [if_pos hb]; exact h0
      · rw [if_neg hb]
        split
        · exact h0
        · exact small_of hb
set_option maxRecDepth 4000 in
set_option maxHeartbeats 8000000 in
theorem asmall_walk (l : List UInt8) (p : Pr) (fv : Value) (w : World) (hT : Tab w) (hFT : FTab w) (hPT : PTab w) (hF : SlF w fv p.fs) (hl : p.fs.length ≤ maxLen) (hm : ∀ f ∈ p.fs, f.length ≤ maxLen) :
    Calls Tryd.prog 3 #[.string (strB l), .agg #[fv, .int .i64 p.futs, .int .i64 p.depth, .int .i64 p.fuel]] w fun e w' => e = .returned (.bool true) ∧ Below w.heap.size w w' := by
  have hF0 := hF
  obtain ⟨fa, fc, rfl, -⟩ := hF0
  have hp0 : 2 < w.heap.size := block_lt_of_cell (Lib.TabIs.cell hPT gPow 0 (by decide))
  have hB1 := BoxedP.made hF
  have hb1 := C2.below_alloc (Below.refl w.heap.size w) (.cells #[.slice fa p.fs.length fc, .int .i64 p.futs, .int .i64 p.depth, .int .i64 p.fuel] 24)
  have HPA : Hid (∀ w', Below w.heap.size w w' → Calls Tryd.prog 9 #[.string (strB l)] w' fun e w'' => ParsePost l w' e w'') := fun w' h => Parse_any l w' (hT.below h) (hFT.below h)
  have HPR : Hid (∀ w', Calls Tryd.prog 10 #[.string (strB l)] w' fun e w'' => ParsePost l w' e w'') := fun w' => RParse_any l w'
  obtain ⟨S0, hS0⟩ : ∃ S, strB l = S := ⟨_, rfl⟩
  rw [hS0] at HPA HPR ⊢
  clear hF hS0
  go_enter Tryd.func3, Tryd.ntmps3
  obtain ⟨c0, c1, c2, c3⟩ := hB1.cells
  go_wp2_with fail
  refine (C2.few_any p _ _ hB1.fns hl hm).mono ?_
  rintro e w1 ⟨⟨r, rfl, hr⟩, hb2'⟩
  have hb2 := below_then hb1 hb2'
  have hB2 := hB1.kept hb2'
  clear hb2' hB1 hl hm c0 c1 c2 c3
  cases r
  · clear hr
    go_wp2_with (go_at_call 8; refine (awake_any _ (hT.below hb2) (hFT.below hb2)).mono ?_; rintro e w2 ⟨rfl, hb3⟩)
    go_ret
    exact ⟨rfl, below_then hb2 hb3⟩
  · obtain ⟨hn15, hf45⟩ := hr rfl
    have hsm := parse_small l
    go_wp2_with fail
    refine (HPA.out _ hb2).mono ?_
    rintro e w2 ⟨ga, gl, gc, rfl, hGF, hbP⟩
    obtain ⟨Y, hY⟩ : ∃ Y, parseF l = Y := ⟨_, rfl⟩
    unfold ParsePost at HPR
    rw [hY] at hGF HPR hsm ⊢
    obtain ⟨P, x, y⟩ := Y
    simp only at hGF HPR hsm ⊢
    have hb3 := below_then hb2 hbP
    have hB3 := hB2.kept hbP
    have hA3 := below_one w2 (.cells #[.slice ga gl gc, .int .i64 P.futs, .int .i64 P.depth, .int .i64 P.fuel] 24)
    have hG4 := hGF.kept hA3
    have hbx4 : (w2.alloc (.cells #[.slice ga gl gc, .int .i64 P.futs, .int .i64 P.depth, .int .i64 P.fuel] 24)).heap[w2.heap.size]? = some (.cells #[.slice ga gl gc, .int .i64 P.futs, .int .i64 P.depth, .int .i64 P.fuel] 24 (0, 0)) := heap_alloc_new _ _
    have hb4 := below_then hb3 hA3
    have hB4 := hB3.kept hA3
    clear hbP hA3 hGF hB3 hB2 hb2 hb3 hY HPA
    go_wp2_with fail
    refine (HPR.out _).mono ?_
    rintro e w4 ⟨ha, hl, hc, rfl, hHF, hbQ⟩
    have hA5 := below_one w4 (.cells #[.slice ha hl hc, .int .i64 P.futs, .int .i64 P.depth, .int .i64 P.fuel] 24)
    have hQ5 := below_then hbQ hA5
    have hG5 := hG4.kept hQ5
    have hH5 := hHF.kept hA5
    have hbx5 := (hQ5.block _ (lt_of_block hbx4)).trans hbx4
    have hby5 : (w4.alloc (.cells #[.slice ha hl hc, .int .i64 P.futs, .int .i64 P.depth, .int .i64 P.fuel] 24)).heap[w4.heap.size]? = some (.cells #[.slice ha hl hc, .int .i64 P.futs, .int .i64 P.depth, .int .i64 P.fuel] 24 (0, 0)) := heap_alloc_new _ _
    have hb5 := below_then hb4 hQ5
    have hB5 := hB4.kept hQ5
    clear hbQ hA5 hQ5 hG4 hHF hbx4 hb4 hB4 HPR
    go_wp2_with fail
    generalize hW : w4.alloc (.cells #[.slice ha hl hc, .int .i64 P.futs, .int .i64 P.depth, .int .i64 P.fuel] 24) = W at *
    generalize hG1 : w2.heap.size = G1 at *
    generalize hG2 : w4.heap.size = G2 at *
    clear hW hG1 hG2
    have HS : Hid (∀ w', Below W.heap.size W w' → Calls Tryd.prog 11 #[.agg #[.slice ga gl gc, .int .i64 P.futs, .int .i64 P.depth, .int .i64 P.fuel], .agg #[.slice ha hl hc, .int .i64 P.futs, .int .i64 P.depth, .int .i64 P.fuel]] w' fun e w'' => e = .returned (.bool true) ∧ Below w'.heap.size w' w'') := fun w' h => by
      refine (C2.sameProg_any P P _ _ w' (hG5.kept h) (hH5.kept h) (by omega) (fun f hf => by have := hsm.2 f hf; omega) (by omega) (fun f hf => by have := hsm.2 f hf; omega)).mono ?_
      rintro e w'' ⟨⟨r, rfl, hr⟩, hb⟩
      exact ⟨by rw [hr.2 rfl], hb⟩
    have HK : Hid (∀ w', Below W.heap.size W w' → Calls Tryd.prog 13 #[.agg #[.slice fa p.fs.length fc, .int .i64 p.futs, .int .i64 p.depth, .int .i64 p.fuel]] w' fun e w'' => ∃ ga gc, e = .returned (.agg #[.slice ga p.fs.length gc, .int .i64 p.futs, .int .i64 p.depth, .int .i64 p.fuel]) ∧ SlF w'' (.slice ga p.fs.length gc) p.fs ∧ Below w'.heap.size w' w'') := fun w' h => C2.copy_any p _ _ (hB5.kept h).fns hn15 hf45
    obtain ⟨SX, hSX⟩ : ∃ S, strB (txtF p) = S := ⟨_, rfl⟩
    have HX : Hid (∀ fv w', Below W.heap.size W w' → SlF w' fv p.fs → Calls Tryd.prog 12 #[.agg #[fv, .int .i64 p.futs, .int .i64 p.depth, .int .i64 p.fuel]] w' fun e w'' => e = .returned (.string SX) ∧ Below w'.heap.size w' w'') := fun fv w' h hs => by
      have h5 := below_then hb5 h
      have := Text_any p fv w' (hT.below h5) (hFT.below h5) (hPT.low h5 hp0) hs (by omega) (fun f hf => by have := hf45 f hf; omega)
      unfold TextPost at this
      rw [hSX] at this
      exact this
    have HR : Hid (∀ w', Below W.heap.size W w' → Calls Tryd.prog 14 #[.agg #[.slice fa p.fs.length fc, .int .i64 p.futs, .int .i64 p.depth, .int .i64 p.fuel]] w' fun e w'' => e = .returned (.string SX) ∧ Below w'.heap.size w' w'') := fun w' h => by
      have := RText_any p _ w' (hB5.kept h).fns (by omega) (fun f hf => by have := hf45 f hf; omega)
      unfold RTextPost at this
      rw [hSX] at this
      exact this
    have HA : Hid (∀ w', Below W.heap.size W w' → Calls Tryd.prog 8 #[] w' fun e w'' => e = .returned (.bool true) ∧ Below w'.heap.size w' w'') := fun w' h => awake_any w' (hT.below (below_then hb5 h)) (hFT.below (below_then hb5 h))
    have sx : (x == x) = true := by simp
    have sy : (y == y) = true := by simp
    have sS : (SX.toList == SX.toList) = true := by simp
    obtain ⟨z0_0, z1_0, z2_0, z3_0⟩ := hB5.cells
    obtain ⟨z4_0, z5_0, z6_0, z7_0⟩ := out_cells hbx5
    obtain ⟨z8_0, z9_0, z10_0, z11_0⟩ := out_cells hby5
    generalize P.futs = F at *
    generalize P.depth = D at *
    generalize P.fuel = U at *
    clear hr hn15 hf45 hsm hG5 hH5 hbx5 hby5 hB5 hSX hT hFT hPT
    go_wp2_with fail
    go_region_held3 (fun w' => w'.cell? ⟨w.heap.size, 0, none⟩ = some (.slice fa p.fs.length fc) ∧ w'.cell? ⟨w.heap.size, 1, none⟩ = some (.int .i64 p.futs) ∧ w'.cell? ⟨w.heap.size, 2, none⟩ = some (.int .i64 p.depth) ∧ w'.cell? ⟨w.heap.size, 3, none⟩ = some (.int .i64 p.fuel) ∧ w'.cell? ⟨G1, 0, none⟩ = some (.slice ga gl gc) ∧ w'.cell? ⟨G1, 1, none⟩ = some (.int .i64 F) ∧ w'.cell? ⟨G1, 2, none⟩ = some (.int .i64 D) ∧ w'.cell? ⟨G1, 3, none⟩ = some (.int .i64 U) ∧ w'.cell? ⟨G2, 0, none⟩ = some (.slice ha hl hc) ∧ w'.cell? ⟨G2, 1, none⟩ = some (.int .i64 F) ∧ w'.cell? ⟨G2, 2, none⟩ = some (.int .i64 D) ∧ w'.cell? ⟨G2, 3, none⟩ = some (.int .i64 U)) (first | exact ⟨z0_0, z1_0, z2_0, z3_0, z4_0, z5_0, z6_0, z7_0, z8_0, z9_0, z10_0, z11_0⟩ | exact ⟨z0_6, z1_6, z2_6, z3_6, z4_6, z5_6, z6_6, z7_6, z8_6, z9_6, z10_6, z11_6⟩ | exact ⟨z0_5, z1_5, z2_5, z3_5, z4_5, z5_5, z6_5, z7_5, z8_5, z9_5, z10_5, z11_5⟩ | exact ⟨z0_4, z1_4, z2_4, z3_4, z4_4, z5_4, z6_4, z7_4, z8_4, z9_4, z10_4, z11_4⟩ | exact ⟨z0_3, z1_3, z2_3, z3_3, z4_3, z5_3, z6_3, z7_3, z8_3, z9_3, z10_3, z11_3⟩ | exact ⟨z0_2, z1_2, z2_2, z3_2, z4_2, z5_2, z6_2, z7_2, z8_2, z9_2, z10_2, z11_2⟩) (first | (go_at_call 11; refine (HS.out _ (Below.refl _ _).drew).mono ?_; rintro e v2 ⟨rfl, b2x⟩; have b2 : Below W.heap.size W v2 := below_then ((Below.refl _ _).drew : Below W.heap.size W W.drew) b2x; have z0_2 := C2.still_of_below b2 _ _ z0_0; have z1_2 := C2.still_of_below b2 _ _ z1_0; have z2_2 := C2.still_of_below b2 _ _ z2_0; have z3_2 := C2.still_of_below b2 _ _ z3_0; have z4_2 := C2.still_of_below b2 _ _ z4_0; have z5_2 := C2.still_of_below b2 _ _ z5_0; have z6_2 := C2.still_of_below b2 _ _ z6_0; have z7_2 := C2.still_of_below b2 _ _ z7_0; have z8_2 := C2.still_of_below b2 _ _ z8_0; have z9_2 := C2.still_of_below b2 _ _ z9_0; have z10_2 := C2.still_of_below b2 _ _ z10_0; have z11_2 := C2.still_of_below b2 _ _ z11_0) | (go_at_call 13; refine (HK.out _ b2).mono ?_; rintro e v3 ⟨ka, kc, rfl, sK, b3x⟩; have b3 : Below W.heap.size W v3 := below_then b2 b3x; have z0_3 := C2.still_of_below b3 _ _ z0_0; have z1_3 := C2.still_of_below b3 _ _ z1_0; have z2_3 := C2.still_of_below b3 _ _ z2_0; have z3_3 := C2.still_of_below b3 _ _ z3_0; have z4_3 := C2.still_of_below b3 _ _ z4_0; have z5_3 := C2.still_of_below b3 _ _ z5_0; have z6_3 := C2.still_of_below b3 _ _ z6_0; have z7_3 := C2.still_of_below b3 _ _ z7_0; have z8_3 := C2.still_of_below b3 _ _ z8_0; have z9_3 := C2.still_of_below b3 _ _ z9_0; have z10_3 := C2.still_of_below b3 _ _ z10_0; have z11_3 := C2.still_of_below b3 _ _ z11_0) | (go_at_call 12; refine (HX.out _ _ b3 sK).mono ?_; rintro e v4 ⟨rfl, b4x⟩; have b4 : Below W.heap.size W v4 := below_then b3 b4x; have z0_4 := C2.still_of_below b4 _ _ z0_0; have z1_4 := C2.still_of_below b4 _ _ z1_0; have z2_4 := C2.still_of_below b4 _ _ z2_0; have z3_4 := C2.still_of_below b4 _ _ z3_0; have z4_4 := C2.still_of_below b4 _ _ z4_0; have z5_4 := C2.still_of_below b4 _ _ z5_0; have z6_4 := C2.still_of_below b4 _ _ z6_0; have z7_4 := C2.still_of_below b4 _ _ z7_0; have z8_4 := C2.still_of_below b4 _ _ z8_0; have z9_4 := C2.still_of_below b4 _ _ z9_0; have z10_4 := C2.still_of_below b4 _ _ z10_0; have z11_4 := C2.still_of_below b4 _ _ z11_0) | (go_at_call 14; refine (HR.out _ b4).mono ?_; rintro e v5 ⟨rfl, b5x⟩; have b5 : Below W.heap.size W v5 := below_then b4 b5x; have z0_5 := C2.still_of_below b5 _ _ z0_0; have z1_5 := C2.still_of_below b5 _ _ z1_0; have z2_5 := C2.still_of_below b5 _ _ z2_0; have z3_5 := C2.still_of_below b5 _ _ z3_0; have z4_5 := C2.still_of_below b5 _ _ z4_0; have z5_5 := C2.still_of_below b5 _ _ z5_0; have z6_5 := C2.still_of_below b5 _ _ z6_0; have z7_5 := C2.still_of_below b5 _ _ z7_0; have z8_5 := C2.still_of_below b5 _ _ z8_0; have z9_5 := C2.still_of_below b5 _ _ z9_0; have z10_5 := C2.still_of_below b5 _ _ z10_0; have z11_5 := C2.still_of_below b5 _ _ z11_0) | (go_at_call 8; refine (HA.out _ b5).mono ?_; rintro e v6 ⟨rfl, b6x⟩; have b6 : Below W.heap.size W v6 := below_then b5 b6x; have z0_6 := C2.still_of_below b6 _ _ z0_0; have z1_6 := C2.still_of_below b6 _ _ z1_0; have z2_6 := C2.still_of_below b6 _ _ z2_0; have z3_6 := C2.still_of_below b6 _ _ z3_0; have z4_6 := C2.still_of_below b6 _ _ z4_0; have z5_6 := C2.still_of_below b6 _ _ z5_0; have z6_6 := C2.still_of_below b6 _ _ z6_0; have z7_6 := C2.still_of_below b6 _ _ z7_0; have z8_6 := C2.still_of_below b6 _ _ z8_0; have z9_6 := C2.still_of_below b6 _ _ z9_0; have z10_6 := C2.still_of_below b6 _ _ z10_0; have z11_6 := C2.still_of_below b6 _ _ z11_0))
    all_goals
      go_wp2_with fail
      go_ret
      exact ⟨rfl, below_then hb5 b6⟩
end Go.Proofs.YtnhogbgnnnniaaaDoor
