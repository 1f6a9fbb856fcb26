/-
  The law CodeAll: its walk.
-/
import Derived.Test.YtjaiicjnabpapaaDoorRefBack
import Derived.Test.YtjaiicjnabpapaaDoorRef4
import Derived.Test.YtjaiicjnabpapaaDoorCopy2
import Derived.Deep.RegionLaw
namespace Go.Proofs.YtjaiicjnabpapaaDoor
open Go.RowKit
set_option maxHeartbeats 4000000 in
set_option maxRecDepth 4000 in
theorem all_walk (hRG : ∀ (s : ByteArray) (w : World), s.size ≤ 3000 → Calls Tryd.prog 15 #[.string s] w fun e w' => RGetPost s w e w')
    (p : Pr) (fv : Value) (s : ByteArray) (o a b c : Int) (w : World) (hT : Tab w) (hF : SlF w fv p.fs) (hl : p.fs.length ≤ maxLen) (hm : ∀ f ∈ p.fs, f.length ≤ maxLen) :
    Calls Tryd.prog 3 #[.agg #[fv, .int .i64 p.futs, .int .i64 p.depth, .int .i64 p.fuel], .string s, .agg #[.int .i64 o, .int .i64 a, .int .i64 b, .int .i64 c]] w fun e w' => e = .returned (.bool true) ∧ Below w.heap.size w w' := by
  have hF0 := hF
  obtain ⟨fa, fc, rfl, -⟩ := hF0
  have hB1 := (BoxedP.made hF).kept (below_alloc (Below.refl _ _) (.cells #[.int .i64 o, .int .i64 a, .int .i64 b, .int .i64 c] 26))
  have hX1 := boxed_one (w.alloc (.cells #[.slice fa p.fs.length fc, .int .i64 p.futs, .int .i64 p.depth, .int .i64 p.fuel] 24)) o a b c
  rw [show (w.alloc (.cells #[.slice fa p.fs.length fc, .int .i64 p.futs, .int .i64 p.depth, .int .i64 p.fuel] 24)).heap.size = w.heap.size + 1 by simp] at hX1
  have hb1 := below_alloc (below_alloc (Below.refl w.heap.size w) (.cells #[.slice fa p.fs.length fc, .int .i64 p.futs, .int .i64 p.depth, .int .i64 p.fuel] 24)) (.cells #[.int .i64 o, .int .i64 a, .int .i64 b, .int .i64 c] 26)
  have HG : Hid (∀ (s : ByteArray) (w : World), s.size ≤ 3000 → Calls Tryd.prog 15 #[.string s] w fun e w' => RGetPost s w e w') := hRG
  clear hF hRG
  go_enter Tryd.func3, Tryd.ntmps3
  obtain ⟨c0, c1, c2, c3⟩ := hB1.cells
  go_wp2_with fail
  refine (few_any p _ _ hB1.fns hl hm).mono ?_
  rintro e w1 ⟨⟨r, rfl, hr⟩, hb2'⟩
  have hb2 := below_then hb1 hb2'
  have hB2 := hB1.kept hb2'
  have hX2 := hX1.kept hb2'
  clear hb2' hB1 hX1 hl hm c0 c1 c2 c3
  by_cases hstop : r = false ∨ 3000 < s.size
  · have HR : Hid (r = true → p.fs.length ≤ 15 ∧ ∀ f ∈ p.fs, f.length ≤ 45) := hr
    clear hr
    rcases hstop with rfl | h3
    · go_wp2_with (go_at_call 10; refine (awake_any _ (hT.below hb2)).mono ?_; rintro e w2 ⟨rfl, hb3⟩)
      go_ret
      exact ⟨rfl, below_then hb2 hb3⟩
    · have hd : decide ((3000 : Int) < (s.size : Int)) = true := by simp; omega
      cases r
      · go_wp2_with (go_at_call 10; refine (awake_any _ (hT.below hb2)).mono ?_; rintro e w2 ⟨rfl, hb3⟩)
        go_ret
        exact ⟨rfl, below_then hb2 hb3⟩
      · go_wp2_with (go_at_call 10; refine (awake_any _ (hT.below hb2)).mono ?_; rintro e w2 ⟨rfl, hb3⟩)
        go_ret
        exact ⟨rfl, below_then hb2 hb3⟩
  · obtain rfl : r = true := by cases r <;> simp_all
    have h3 : ¬ 3000 < s.size := fun h => hstop (.inr h)
    have hd : decide ((3000 : Int) < (s.size : Int)) = false := by simp; omega
    obtain ⟨hn15, hf45⟩ := hr rfl
    clear hr hstop
    have hn : p.fs.length ≤ 1000000 := by omega
    have hm : ∀ f ∈ p.fs, f.length ≤ 1000000 := fun f hf => by have := hf45 f hf; omega
    have HM : Hid (∀ f ∈ p.fs, f.length ≤ 1000000) := hm
    have H45 : Hid (∀ f ∈ p.fs, f.length ≤ 45) := hf45
    clear hm hf45
    obtain ⟨c0, c1, c2, c3⟩ := hB2.cells
    go_wp2_with fail
    refine (copy_any p _ _ hB2.fns hn15 H45.out).mono ?_
    rintro e w2 ⟨ga, gc, rfl, hG, hb3'⟩
    have hb3 := below_then hb2 hb3'
    have hB3 := hB2.kept hb3'
    have hX3 := hX2.kept hb3'
    clear hb3' hB2 hX2 c0 c1 c2 c3
    go_wp2_with fail
    refine (Put_any p _ _ (hT.below hb3) hG hn HM.out).mono ?_
    rintro e w3 ⟨rfl, hb4'⟩
    have hb4 := below_then hb3 hb4'
    have hB4 := hB3.kept hb4'
    have hX4 := hX3.kept hb4'
    clear hb4' hB3 hX3 hG
    obtain ⟨c0, c1, c2, c3⟩ := hB4.cells
    generalize hA : strB (putT p) = A at *
    generalize hE : putE p = E at *
    go_wp2_with fail
    refine (RPut_any p _ _ hB4.fns hn HM.out).mono ?_
    rintro e w4 ⟨rfl, hb5'⟩
    have hb5 := below_then hb4 hb5'
    have hX5 := hX4.kept hb5'
    rw [hA, hE]
    clear hb5' hB4 hX4 c0 c1 c2 c3 hA hE
    have sE : (E == E) = true := by simp
    have sA := str_eq (rfl : A = A)
    go_wp2_with fail
    refine (Get_any s _ (hT.below hb5)).mono ?_
    rintro e w5 ⟨hb6', h⟩
    have hb6 := below_then hb5 hb6'
    have hX6 := hX5.kept hb6'
    clear hb6' hX5
    rcases h with ⟨q, gv, hq, hsq, rfl, hQ⟩ | ⟨hno, rfl⟩
    · have HSQ : Hid (s = strB (putB q)) := hsq
      have hQ0 := hQ
      obtain ⟨qa, qc, rfl, -⟩ := hQ0
      have hQ1 := BoxedP.made hQ
      have hba := below_alloc (Below.refl w5.heap.size w5) (.cells #[.slice qa q.fs.length qc, .int .i64 q.futs, .int .i64 q.depth, .int .i64 q.fuel] 24)
      have hb7 := below_then hb6 hba
      have hX7 := hX6.kept hba
      clear hba hX6 hQ hsq
      go_wp2_with fail
      refine (HG.out s _ (by omega)).mono ?_
      rintro e w6 ⟨hb8', h⟩
      have hb8 := below_then hb7 hb8'
      have hX8 := hX7.kept hb8'
      have hQ8 := hQ1.kept hb8'
      clear hb8' hX7 hQ1
      rcases h with ⟨q2, ra, rc, hq2, hsq2, rfl, hR⟩ | ⟨hno, rfl⟩
      · obtain rfl : q = q2 := put_inj hq hq2 (strB_inj (HSQ.out.symm.trans hsq2))
        have hR1 := BoxedP.made hR
        have hba := below_alloc (Below.refl w6.heap.size w6) (.cells #[.slice ra q.fs.length rc, .int .i64 q.futs, .int .i64 q.depth, .int .i64 q.fuel] 24)
        have hb9 := below_then hb8 hba
        have hX9 := hX8.kept hba
        have hQ9 := hQ8.kept hba
        obtain ⟨d0, d1, d2, d3⟩ := hQ9.cells
        obtain ⟨e0, e1, e2, e3⟩ := hR1.cells
        obtain ⟨x0, x1, x2, x3⟩ := hX9
        clear hba hX8 hQ8 hR hsq2
        have fQ := hQ9.fns.still (w' := (w6.alloc (.cells #[.slice ra q.fs.length rc, .int .i64 q.futs, .int .i64 q.depth, .int .i64 q.fuel] 24)).drew) fun _ _ h => h
        have fR := hR1.fns.still (w' := (w6.alloc (.cells #[.slice ra q.fs.length rc, .int .i64 q.futs, .int .i64 q.depth, .int .i64 q.fuel] 24)).drew) fun _ _ h => h
        go_wp2_with fail
        go_region_law (first | (go_simp; go_at_call 16; refine (sameProg_any q q _ _ _ fQ fR hq.few' hq.small' hq.few' hq.small').mono ?_; rintro e w7 ⟨⟨r, rfl, hr⟩, hs7'⟩; have hrt : r = true := hr.2 rfl; subst hrt; clear hr; have hbS : Below w.heap.size w w7 := below_then hb9.drew hs7'; have tS := hT.below hbS; have y0 : w7.cell? ⟨w.heap.size + 1, 0, none⟩ = some (.int .i64 o) := still_of_below hs7' _ _ x0; have y1 : w7.cell? ⟨w.heap.size + 1, 1, none⟩ = some (.int .i64 a) := still_of_below hs7' _ _ x1; have y2 : w7.cell? ⟨w.heap.size + 1, 2, none⟩ = some (.int .i64 b) := still_of_below hs7' _ _ x2; have y3 : w7.cell? ⟨w.heap.size + 1, 3, none⟩ = some (.int .i64 c) := still_of_below hs7' _ _ x3) | (go_simp; go_at_call 17; refine (shape_any _ _ _ _ _ (by first | exact tS | exact tR)).mono ?_; rintro e w8 ⟨rfl, hs8'⟩; have hbC : Below w.heap.size w w8 := (by first | exact below_then hbS hs8' | exact below_then hbR hs8'); have tC := hT.below hbC; have z0 : w8.cell? ⟨w.heap.size + 1, 0, none⟩ = some (.int .i64 o) := still_of_below hs8' _ _ (by first | exact y0 | exact v0); have z1 : w8.cell? ⟨w.heap.size + 1, 1, none⟩ = some (.int .i64 a) := still_of_below hs8' _ _ (by first | exact y1 | exact v1); have z2 : w8.cell? ⟨w.heap.size + 1, 2, none⟩ = some (.int .i64 b) := still_of_below hs8' _ _ (by first | exact y2 | exact v2); have z3 : w8.cell? ⟨w.heap.size + 1, 3, none⟩ = some (.int .i64 c) := still_of_below hs8' _ _ (by first | exact y3 | exact v3)) | (go_simp; go_at_call 18; refine (RShape_any _ _ _ _ _).mono ?_; rintro e w9 ⟨rfl, hs9'⟩; have hbR : Below w.heap.size w w9 := (by first | exact below_then hbS hs9' | exact below_then hbC hs9'); have tR := hT.below hbR; have v0 : w9.cell? ⟨w.heap.size + 1, 0, none⟩ = some (.int .i64 o) := still_of_below hs9' _ _ (by first | exact y0 | exact z0); have v1 : w9.cell? ⟨w.heap.size + 1, 1, none⟩ = some (.int .i64 a) := still_of_below hs9' _ _ (by first | exact y1 | exact z1); have v2 : w9.cell? ⟨w.heap.size + 1, 2, none⟩ = some (.int .i64 b) := still_of_below hs9' _ _ (by first | exact y2 | exact z2); have v3 : w9.cell? ⟨w.heap.size + 1, 3, none⟩ = some (.int .i64 c) := still_of_below hs9' _ _ (by first | exact y3 | exact z3)) | (go_simp; go_at_call 10; refine (awake_any _ (by first | exact tR | exact tC)).mono ?_; rintro e wz ⟨rfl, hsz'⟩; have hbZ : Below w.heap.size w wz := (by first | exact below_then hbR hsz' | exact below_then hbC hsz')))
        all_goals (go_wp2_with fail; go_ret; exact ⟨rfl, hbZ⟩)
      · exact absurd HSQ.out (hno q hq)
    · have hba := below_alloc (Below.refl w5.heap.size w5) (.cells #[.slice none 0 0, .int .i64 0, .int .i64 0, .int .i64 0] 24)
      have hb7 := below_then hb6 hba
      have hX7 := hX6.kept hba
      have hZ1 : (w5.alloc (.cells #[.slice none 0 0, .int .i64 0, .int .i64 0, .int .i64 0] 24)).heap[w5.heap.size]? = some (.cells #[.slice none 0 0, .int .i64 0, .int .i64 0, .int .i64 0] 24 (0, 0)) := heap_alloc_new _ _
      have HNO : Hid (∀ P, Good P → ¬ s = strB (putB P)) := hno
      clear hba hX6 hno
      go_wp2_with fail
      refine (HG.out s _ (by omega)).mono ?_
      rintro e w6 ⟨hb8', h⟩
      have hb8 := below_then hb7 hb8'
      have hX8 := hX7.kept hb8'
      have hZ2 := (hb8'.block _ (lt_of_block hZ1)).trans hZ1
      clear hb8' hX7 hZ1
      rcases h with ⟨q2, ra, rc, hq2, hsq2, -, -⟩ | ⟨-, rfl⟩
      · exact absurd hsq2 (HNO.out q2 hq2)
      · have hba := below_alloc (Below.refl w6.heap.size w6) (.cells #[.slice none 0 0, .int .i64 0, .int .i64 0, .int .i64 0] 24)
        have hb9 := below_then hb8 hba
        have hX9 := hX8.kept hba
        have hZ3 := (hba.block _ (lt_of_block hZ2)).trans hZ2
        have d0 := cell_of_row _ _ 0 _ _ _ hZ3
        have d1 := cell_of_row _ _ 1 _ _ _ hZ3
        have d2 := cell_of_row _ _ 2 _ _ _ hZ3
        have d3 := cell_of_row _ _ 3 _ _ _ hZ3
        simp at d0 d1 d2 d3
        obtain ⟨x0, x1, x2, x3⟩ := hX9
        clear hba hX8 hZ2 hZ3
        have fQ : SlF (w6.alloc (.cells #[.slice none 0 0, .int .i64 0, .int .i64 0, .int .i64 0] 24)).drew (.slice none 0 0) (⟨[], 0, 0, 0⟩ : Pr).fs := ⟨none, 0, rfl, fun k hk => by simp at hk⟩
        go_wp2_with fail
        go_region_law (first | (go_simp; go_at_call 16; refine (sameProg_any ⟨[], 0, 0, 0⟩ ⟨[], 0, 0, 0⟩ _ _ _ fQ fQ (by simp) (by simp) (by simp) (by simp)).mono ?_; rintro e w7 ⟨⟨r, rfl, hr⟩, hs7'⟩; have hrt : r = true := hr.2 rfl; subst hrt; clear hr; have hbS : Below w.heap.size w w7 := below_then hb9.drew hs7'; have tS := hT.below hbS; have y0 : w7.cell? ⟨w.heap.size + 1, 0, none⟩ = some (.int .i64 o) := still_of_below hs7' _ _ x0; have y1 : w7.cell? ⟨w.heap.size + 1, 1, none⟩ = some (.int .i64 a) := still_of_below hs7' _ _ x1; have y2 : w7.cell? ⟨w.heap.size + 1, 2, none⟩ = some (.int .i64 b) := still_of_below hs7' _ _ x2; have y3 : w7.cell? ⟨w.heap.size + 1, 3, none⟩ = some (.int .i64 c) := still_of_below hs7' _ _ x3) | (go_simp; go_at_call 17; refine (shape_any _ _ _ _ _ (by first | exact tS | exact tR)).mono ?_; rintro e w8 ⟨rfl, hs8'⟩; have hbC : Below w.heap.size w w8 := (by first | exact below_then hbS hs8' | exact below_then hbR hs8'); have tC := hT.below hbC; have z0 : w8.cell? ⟨w.heap.size + 1, 0, none⟩ = some (.int .i64 o) := still_of_below hs8' _ _ (by first | exact y0 | exact v0); have z1 : w8.cell? ⟨w.heap.size + 1, 1, none⟩ = some (.int .i64 a) := still_of_below hs8' _ _ (by first | exact y1 | exact v1); have z2 : w8.cell? ⟨w.heap.size + 1, 2, none⟩ = some (.int .i64 b) := still_of_below hs8' _ _ (by first | exact y2 | exact v2); have z3 : w8.cell? ⟨w.heap.size + 1, 3, none⟩ = some (.int .i64 c) := still_of_below hs8' _ _ (by first | exact y3 | exact v3)) | (go_simp; go_at_call 18; refine (RShape_any _ _ _ _ _).mono ?_; rintro e w9 ⟨rfl, hs9'⟩; have hbR : Below w.heap.size w w9 := (by first | exact below_then hbS hs9' | exact below_then hbC hs9'); have tR := hT.below hbR; have v0 : w9.cell? ⟨w.heap.size + 1, 0, none⟩ = some (.int .i64 o) := still_of_below hs9' _ _ (by first | exact y0 | exact z0); have v1 : w9.cell? ⟨w.heap.size + 1, 1, none⟩ = some (.int .i64 a) := still_of_below hs9' _ _ (by first | exact y1 | exact z1); have v2 : w9.cell? ⟨w.heap.size + 1, 2, none⟩ = some (.int .i64 b) := still_of_below hs9' _ _ (by first | exact y2 | exact z2); have v3 : w9.cell? ⟨w.heap.size + 1, 3, none⟩ = some (.int .i64 c) := still_of_below hs9' _ _ (by first | exact y3 | exact z3)) | (go_simp; go_at_call 10; refine (awake_any _ (by first | exact tR | exact tC)).mono ?_; rintro e wz ⟨rfl, hsz'⟩; have hbZ : Below w.heap.size w wz := (by first | exact below_then hbR hsz' | exact below_then hbC hsz')))
        all_goals (go_wp2_with fail; go_ret; exact ⟨rfl, hbZ⟩)
end Go.Proofs.YtjaiicjnabpapaaDoor
