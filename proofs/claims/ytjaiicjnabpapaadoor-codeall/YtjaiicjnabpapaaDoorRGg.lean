/-
  The reference: Get.
-/
import Derived.Test.YtjaiicjnabpapaaDoorRGo
namespace Go.Proofs.YtjaiicjnabpapaaDoor
open Go.RowKit

set_option maxHeartbeats 4000000 in
set_option maxRecDepth 1000000 in
theorem RGet_l (l : List UInt8) (w : World) (hs : l.length ≤ 3000) :
    Calls Tryd.prog 15 #[.string (strB l)] w fun e w' => RGetPost (strB l) w e w' := by
  have zs : (strB l).size = l.length := strB_size l
  obtain ⟨i0, hi', hz0, hz1', hz2⟩ := info_parts infoIns
  obtain ⟨i1, ki, kz0, kz1, kz2⟩ := info_parts infoFns
  by_cases h8 : l.length < 8
  · have hd8 : decide ((l.length : Int) < 8) = true := by simp; omega
    go_enter Tryd.func15, Tryd.ntmps15
    have c0 : (w.alloc (.cells #[.slice none 0 0, .int .i64 0, .int .i64 0, .int .i64 0] 24)).cell? ⟨w.heap.size, 0, none⟩ = some (.slice none 0 0) := by simp
    go_wp2_with fail
    refine bodyPost_ret (v := .tuple #[.agg #[.slice none 0 0, .int .i64 0, .int .i64 0, .int .i64 0], .int .i64 4]) (by simp [results, Tryd.results15, go_sem]) rfl (getF_no (fun P hP e => ?_) (below_alloc (Below.refl _ _) _))
    have := putB_length P
    have e2 : l = putB P := strB_inj e
    rw [e2] at h8
    omega
  · have hd8 : decide ((l.length : Int) < 8) = false := by simp; omega
    have i3 := fun wx => idx_at l 3 3 rfl (by omega) wx
    have i4 := fun wx => idx_at l 4 4 rfl (by omega) wx
    have i5 := fun wx => idx_at l 5 5 rfl (by omega) wx
    have i6 := fun wx => idx_at l 6 6 rfl (by omega) wx
    have i7 := fun wx => idx_at l 7 7 rfl (by omega) wx
    have b3 := byteAt_bd l 3
    have b4 := byteAt_bd l 4
    have b5 := byteAt_bd l 5
    have b6 := byteAt_bd l 6
    have b7 := byteAt_bd l 7
    obtain ⟨x3, hx3⟩ : ∃ x, byteAt l 3 = x := ⟨_, rfl⟩
    rw [hx3] at i3 b3
    have X3 : Hid (byteAt l 3 = x3) := hx3
    clear hx3
    obtain ⟨x4, hx4⟩ : ∃ x, byteAt l 4 = x := ⟨_, rfl⟩
    rw [hx4] at i4 b4
    have X4 : Hid (byteAt l 4 = x4) := hx4
    clear hx4
    obtain ⟨x5, hx5⟩ : ∃ x, byteAt l 5 = x := ⟨_, rfl⟩
    rw [hx5] at i5 b5
    have X5 : Hid (byteAt l 5 = x5) := hx5
    clear hx5
    obtain ⟨x6, hx6⟩ : ∃ x, byteAt l 6 = x := ⟨_, rfl⟩
    rw [hx6] at i6 b6
    have X6 : Hid (byteAt l 6 = x6) := hx6
    clear hx6
    obtain ⟨x7, hx7⟩ : ∃ x, byteAt l 7 = x := ⟨_, rfl⟩
    rw [hx7] at i7 b7
    have X7 : Hid (byteAt l 7 = x7) := hx7
    clear hx7
    go_enter Tryd.func15, Tryd.ntmps15
    go_wp2_with fail
    go_region
    go_wp2_with fail
    have hP0 : PW w (((w.alloc (.cells #[.slice none 0 0, .int .i64 0, .int .i64 0, .int .i64 0] 24)).alloc (.cells #[.slice none 0 0, .int .i64 x3, .int .i64 x4, .int .i64 (bits .or .i64 (x5 * 256) x6)] 24)).drew) w.heap.size (w.heap.size + 1) (.slice none 0 0) x3 x4 (bits .or .i64 (x5 * 256) x6) [] [] :=
      ⟨by omega, by omega, heap_alloc2_old w _ _, heap_alloc2_new w _ _, World.ownsRow_nil _ _ _ _, rfl, fun j h => by simp at h, (below_alloc (below_alloc (Below.refl _ _) _) _).drew⟩
    have hfu : bits .or .i64 (x5 * 256) x6 = x5 * 256 + x6 := or64i _ _ 8 256 rfl (by omega) (by omega) (by omega) (by omega) (by omega) (by omega)
    have HFU : Hid (bits .or .i64 (x5 * 256) x6 = x5 * 256 + x6) := hfu
    clear hfu
    generalize bits .or .i64 (x5 * 256) x6 = fu at *
    generalize hW0 : ((w.alloc (.cells #[.slice none 0 0, .int .i64 0, .int .i64 0, .int .i64 0] 24)).alloc (.cells #[.slice none 0 0, .int .i64 x3, .int .i64 x4, .int .i64 fu] 24)).drew = W0 at *
    clear hW0 i3 i4 i5 i6
    refine qb_use (fun _ _ _ h => h) (out_loop (w := w) (x3 := x3) (x4 := x4) (fu := fu) hs (by omega) _ _ _ _ _ _ _ _ _ _ _ _ _ _ _ _ _ _ _ _ _ _ _ _ _ _ _ _ _ _ _ _ _ _ _ _ _ _ _ _ _ _ _ _ _ _ _ _ _ _ _ _ _ _ _ _ _ _ _ _ _ _ _ _ _ _ _ _ _ _ _ _ _ _ _ _ _ _ _ _ _ _ _ _ _ _ _ _ _ _ _ _ _ _ _ _ _ _ _ _ _ _ _ _ _ _ _ _ _ _ _ _ _ _ _ _ _ _ _ _ _ _ _ _ _ _ _ _ _ _ _ _ _ _ _ _ _ _ _ _ _ _ _ _ _ _ _ ⟨0, 8, _, _, [], by omega, by omega, rfl, rfl, rfl, by simp, hP0, outer_start _⟩ _ ?_)
    intro a' W hX
    unfold OX at hX
    obtain ⟨v5, hX⟩ := hX
    obtain ⟨v6, hX⟩ := hX
    obtain ⟨v7, hX⟩ := hX
    obtain ⟨v8, hX⟩ := hX
    obtain ⟨v9, hX⟩ := hX
    obtain ⟨v10, hX⟩ := hX
    obtain ⟨v11, hX⟩ := hX
    obtain ⟨v33, hX⟩ := hX
    obtain ⟨v34, hX⟩ := hX
    obtain ⟨v35, hX⟩ := hX
    obtain ⟨v36, hX⟩ := hX
    obtain ⟨v37, hX⟩ := hX
    obtain ⟨v38, hX⟩ := hX
    obtain ⟨v39, hX⟩ := hX
    obtain ⟨v40, hX⟩ := hX
    obtain ⟨v41, hX⟩ := hX
    obtain ⟨v42, hX⟩ := hX
    obtain ⟨v43, hX⟩ := hX
    obtain ⟨v44, hX⟩ := hX
    obtain ⟨v45, hX⟩ := hX
    obtain ⟨v46, hX⟩ := hX
    obtain ⟨v47, hX⟩ := hX
    obtain ⟨v48, hX⟩ := hX
    obtain ⟨v49, hX⟩ := hX
    obtain ⟨v50, hX⟩ := hX
    obtain ⟨v51, hX⟩ := hX
    obtain ⟨v52, hX⟩ := hX
    obtain ⟨v53, hX⟩ := hX
    obtain ⟨v54, hX⟩ := hX
    obtain ⟨v55, hX⟩ := hX
    obtain ⟨v56, hX⟩ := hX
    obtain ⟨v57, hX⟩ := hX
    obtain ⟨v58, hX⟩ := hX
    obtain ⟨v59, hX⟩ := hX
    obtain ⟨v60, hX⟩ := hX
    obtain ⟨v61, hX⟩ := hX
    obtain ⟨v62, hX⟩ := hX
    obtain ⟨v63, hX⟩ := hX
    obtain ⟨v64, hX⟩ := hX
    obtain ⟨v65, hX⟩ := hX
    obtain ⟨v66, hX⟩ := hX
    obtain ⟨v67, hX⟩ := hX
    obtain ⟨v68, hX⟩ := hX
    obtain ⟨v69, hX⟩ := hX
    obtain ⟨v70, hX⟩ := hX
    obtain ⟨v71, hX⟩ := hX
    obtain ⟨v72, hX⟩ := hX
    obtain ⟨v73, hX⟩ := hX
    obtain ⟨v74, hX⟩ := hX
    obtain ⟨v75, hX⟩ := hX
    obtain ⟨v76, hX⟩ := hX
    obtain ⟨v77, hX⟩ := hX
    obtain ⟨v78, hX⟩ := hX
    obtain ⟨v79, hX⟩ := hX
    obtain ⟨v80, hX⟩ := hX
    obtain ⟨v81, hX⟩ := hX
    obtain ⟨v82, hX⟩ := hX
    obtain ⟨v83, hX⟩ := hX
    obtain ⟨v84, hX⟩ := hX
    obtain ⟨v85, hX⟩ := hX
    obtain ⟨v86, hX⟩ := hX
    obtain ⟨v87, hX⟩ := hX
    obtain ⟨v88, hX⟩ := hX
    obtain ⟨v89, hX⟩ := hX
    obtain ⟨v90, hX⟩ := hX
    obtain ⟨v91, hX⟩ := hX
    obtain ⟨v92, hX⟩ := hX
    obtain ⟨v93, hX⟩ := hX
    obtain ⟨v94, hX⟩ := hX
    obtain ⟨v95, hX⟩ := hX
    obtain ⟨v96, hX⟩ := hX
    obtain ⟨v97, hX⟩ := hX
    obtain ⟨v98, hX⟩ := hX
    obtain ⟨v99, hX⟩ := hX
    obtain ⟨v100, hX⟩ := hX
    obtain ⟨v101, hX⟩ := hX
    obtain ⟨v102, hX⟩ := hX
    obtain ⟨v103, hX⟩ := hX
    obtain ⟨v104, hX⟩ := hX
    obtain ⟨v105, hX⟩ := hX
    obtain ⟨v106, hX⟩ := hX
    obtain ⟨v107, hX⟩ := hX
    obtain ⟨v108, hX⟩ := hX
    obtain ⟨v109, hX⟩ := hX
    obtain ⟨v110, hX⟩ := hX
    obtain ⟨v111, hX⟩ := hX
    obtain ⟨v112, hX⟩ := hX
    obtain ⟨v113, hX⟩ := hX
    obtain ⟨v114, hX⟩ := hX
    obtain ⟨v115, hX⟩ := hX
    obtain ⟨v116, hX⟩ := hX
    obtain ⟨v117, hX⟩ := hX
    obtain ⟨v118, hX⟩ := hX
    obtain ⟨v119, hX⟩ := hX
    obtain ⟨v120, hX⟩ := hX
    obtain ⟨v121, hX⟩ := hX
    obtain ⟨v122, hX⟩ := hX
    obtain ⟨v123, hX⟩ := hX
    obtain ⟨v124, hX⟩ := hX
    obtain ⟨v125, hX⟩ := hX
    obtain ⟨v126, hX⟩ := hX
    obtain ⟨v127, hX⟩ := hX
    obtain ⟨v128, hX⟩ := hX
    obtain ⟨v129, hX⟩ := hX
    obtain ⟨v130, hX⟩ := hX
    obtain ⟨v131, hX⟩ := hX
    obtain ⟨v132, hX⟩ := hX
    obtain ⟨v133, hX⟩ := hX
    obtain ⟨hr, rfl⟩ := hX
    obtain ⟨i, a, xv, vals, fs, ⟨hi, ha, rfl, rfl, hfl', hsm, hP, hO⟩, hlt⟩ := hr
    have HL : Hid (fs.length = i) := hfl'
    have HSM : Hid (∀ f ∈ fs, f.length ≤ 255) := hsm
    have HO : Hid (OuterOk l i a fs) := hO
    clear hfl' hsm hO
    have hsame := get_same HO.out hlt X3.out X4.out X5.out X6.out HFU.out
    have HSAME : Hid (∀ P, Good P → l = putB P → (⟨fs, x3, x4, fu⟩ : Pr) = P) := hsame
    have hSl := hP.slF (w' := W) fun b _ _ => rfl
    obtain ⟨ya, yc, rfl⟩ : ∃ ya yc, xv = .slice ya fs.length yc := by
      rw [← hP.len]
      rcases hP.row.2 with ⟨h, h0⟩ | ⟨g, cap, cur, h, _⟩
      · exact ⟨none, 0, by rw [h, h0]⟩
      · exact ⟨_, cap, h⟩
    have b0 := cell_of_row W _ 0 _ _ _ hP.box
    have b1 := cell_of_row W _ 1 _ _ _ hP.box
    have b2 := cell_of_row W _ 2 _ _ _ hP.box
    have b3 := cell_of_row W _ 3 _ _ _ hP.box
    simp at b0 b1 b2 b3
    have hfl : fs.length ≤ 255 := by rw [HL.out]; exact hi
    have HPUT : Hid (Calls Tryd.prog 13 #[.agg #[.slice ya fs.length yc, .int .i64 x3, .int .i64 x4, .int .i64 fu]] W fun e w' => RPutPost ⟨fs, x3, x4, fu⟩ W e w') := RPut_any ⟨fs, x3, x4, fu⟩ _ W hSl (by simp only; omega) (fun f hf => by have := HSM.out f hf; omega)
    have HP : Hid (PW w W w.heap.size (w.heap.size + 1) (.slice ya fs.length yc) x3 x4 fu vals fs) := hP
    clear hsame hSl hP hlt
    simp only [QB, Exit.inBlock, Exit.then, ↓reduceIte]
    go_wp2_with fail
    refine HPUT.out.mono ?_
    rintro e w2 ⟨rfl, hb2⟩
    have hP2 := HP.out.kept hb2
    clear HPUT b0 b1 b2 b3
    have x0' := cell_of_row w2 _ 0 _ _ _ hP2.box
    have x1' := cell_of_row w2 _ 1 _ _ _ hP2.box
    have x2' := cell_of_row w2 _ 2 _ _ _ hP2.box
    have x3' := cell_of_row w2 _ 3 _ _ _ hP2.box
    have r0 := cell_of_row w2 _ 0 _ _ _ hP2.res
    have r1 := cell_of_row w2 _ 1 _ _ _ hP2.res
    have r2 := cell_of_row w2 _ 2 _ _ _ hP2.res
    have r3 := cell_of_row w2 _ 3 _ _ _ hP2.res
    have f0 := frozen_of_row w2 _ 0 _ _ hP2.res
    have f1 := frozen_of_row w2 _ 1 _ _ hP2.res
    have f2 := frozen_of_row w2 _ 2 _ _ hP2.res
    have f3 := frozen_of_row w2 _ 3 _ _ hP2.res
    simp at x0' x1' x2' x3' r0 r1 r2 r3
    have hset : ∀ a b c d : Value, Below w.heap.size w ((((w2.setCell ⟨w.heap.size, 0, none⟩ a).setCell ⟨w.heap.size, 1, none⟩ b).setCell ⟨w.heap.size, 2, none⟩ c).setCell ⟨w.heap.size, 3, none⟩ d) := fun a b c d => (((hP2.below.setCell (p := ⟨w.heap.size, 0, none⟩) (by simp) _).setCell (p := ⟨w.heap.size, 1, none⟩) (by simp) _).setCell (p := ⟨w.heap.size, 2, none⟩) (by simp) _).setCell (p := ⟨w.heap.size, 3, none⟩) (by simp) _
    have HS : Hid (∀ a b c d : Value, Below w.heap.size w ((((w2.setCell ⟨w.heap.size, 0, none⟩ a).setCell ⟨w.heap.size, 1, none⟩ b).setCell ⟨w.heap.size, 2, none⟩ c).setCell ⟨w.heap.size, 3, none⟩ d)) := hset
    have HSL : Hid (∀ a b c d : Value, SlF ((((w2.setCell ⟨w.heap.size, 0, none⟩ a).setCell ⟨w.heap.size, 1, none⟩ b).setCell ⟨w.heap.size, 2, none⟩ c).setCell ⟨w.heap.size, 3, none⟩ d) (.slice ya fs.length yc) fs) := fun a b c d => hP2.slF fun k h1 h2 => by
      rw [Below.heap_setCell _ _ _ _ (by simp; omega), Below.heap_setCell _ _ _ _ (by simp; omega), Below.heap_setCell _ _ _ _ (by simp; omega), Below.heap_setCell _ _ _ _ (by simp; omega)]
    clear hset hP2 HP
    rcases putE_cases ⟨fs, x3, x4, fu⟩ with he | he | he
    · have e1 : (putE ⟨fs, x3, x4, fu⟩ != 0) = false := by simp [he]
      have hgood := good_of_code he
      have HE : Hid (putE ⟨fs, x3, x4, fu⟩ = 0) := he
      have htx := hgood.text
      by_cases hss : putB ⟨fs, x3, x4, fu⟩ = l
      · have HSS : Hid (putB ⟨fs, x3, x4, fu⟩ = l) := hss
        rw [htx, hss]
        clear he htx hss
        go_wp2_with fail
        exact bodyPost_ret (v := .tuple #[.agg #[.slice ya fs.length yc, .int .i64 x3, .int .i64 x4, .int .i64 fu], .int .i64 0]) (by simp [results, Tryd.results15, go_sem, r0, r1, r2, r3]) rfl ⟨HS.out _ _ _ _, .inl ⟨⟨fs, x3, x4, fu⟩, ya, yc, hgood, by rw [HSS.out], rfl, HSL.out _ _ _ _⟩⟩
      · have HNO : Hid (∀ P, Good P → ¬ strB l = strB (putB P)) := fun P hP e => by
          have e2 := strB_inj e
          have e3 := HSAME.out P hP e2
          exact hss (by rw [e3]; exact e2.symm)
        have hne : ¬ strB (putB ⟨fs, x3, x4, fu⟩) = strB l := fun e => hss (strB_inj e)
        rw [htx]
        generalize putB ⟨fs, x3, x4, fu⟩ = pb at *
        have ht := str_ne hne
        clear he htx hss hne
        go_wp2_with fail
        exact bodyPost_ret (v := .tuple #[.agg #[.slice none 0 0, .int .i64 0, .int .i64 0, .int .i64 0], .int .i64 4]) (by simp [results, Tryd.results15, go_sem, r0, r1, r2, r3]) rfl (getF_no HNO.out (HS.out _ _ _ _))
    · have HNO : Hid (∀ P, Good P → ¬ strB l = strB (putB P)) := fun P hP e => by
        have e3 := HSAME.out P hP (strB_inj e)
        have := hP.code
        rw [← e3, he] at this
        omega
      have e1 : (putE ⟨fs, x3, x4, fu⟩ != 0) = true := by simp [he]
      clear x0' x1' x2' x3' he
      go_wp2_with fail
      exact bodyPost_ret (v := .tuple #[.agg #[.slice none 0 0, .int .i64 0, .int .i64 0, .int .i64 0], .int .i64 4]) (by simp [results, Tryd.results15, go_sem, r0, r1, r2, r3]) rfl (getF_no HNO.out (HS.out _ _ _ _))
    · have HNO : Hid (∀ P, Good P → ¬ strB l = strB (putB P)) := fun P hP e => by
        have e3 := HSAME.out P hP (strB_inj e)
        have := hP.code
        rw [← e3, he] at this
        omega
      have e1 : (putE ⟨fs, x3, x4, fu⟩ != 0) = true := by simp [he]
      clear x0' x1' x2' x3' he
      go_wp2_with fail
      exact bodyPost_ret (v := .tuple #[.agg #[.slice none 0 0, .int .i64 0, .int .i64 0, .int .i64 0], .int .i64 4]) (by simp [results, Tryd.results15, go_sem, r0, r1, r2, r3]) rfl (getF_no HNO.out (HS.out _ _ _ _))
theorem RGet_any (s : ByteArray) (w : World) (hs : s.size ≤ 3000) : Calls Tryd.prog 15 #[.string s] w fun e w' => RGetPost s w e w' := by
  obtain ⟨l, rfl⟩ : ∃ l, s = strB l := ⟨s.data.toList, by simp [strB]⟩
  rw [strB_size] at hs
  exact RGet_l l w hs
end Go.Proofs.YtjaiicjnabpapaaDoor
