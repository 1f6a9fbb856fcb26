/-
  The law CodeNumbers: its walk.
-/
import Derived.Test.YthnmaffckkohkaaDoorBoxes
import Derived.Test.YthnmaffckkohkaaDoorSizes
namespace Go.Proofs.YthnmaffckkohkaaDoor
open Go.RowKit

set_option maxHeartbeats 2000000 in
theorem numbers_walk (nv : Value) (len : Nat) (cancels : Bool) (w : World) (hT : Tab w) (hn : NumsIn w nv len) (hl : len ≤ 9223372036854775807) :
    Calls Tryd.prog 5 #[nv, .bool cancels] w fun e w' => e = .returned (.bool true) ∧ Below w.heap.size w w' := by
  obtain ⟨ad, cap, rfl, hn1, hn2, hn3⟩ := hn
  by_cases h100 : 100 < len
  · have hd : decide ((100 : Int) < (len : Int)) = true := by simp; omega
    go_enter Tryd.func5, Tryd.ntmps5
    go_wp2_with (go_at_call 10; refine (awake_any _ hT).mono ?_; rintro e w1 ⟨rfl, hb1⟩)
    go_ret
    exact ⟨rfl, hb1⟩
  · have hd : decide ((100 : Int) < (len : Int)) = false := by simp; omega
    go_enter Tryd.func5, Tryd.ntmps5
    go_wp2_with fail
    refine (prog_any _ cancels w ⟨ad, len, cap, rfl, hn1, hn2, hn3⟩).mono ?_
    rintro e w1 ⟨p, fv, hok, rfl, hF, hb1⟩
    have hF1 := hF
    obtain ⟨fa, fc, rfl, -⟩ := hF
    have hgood := hok.good
    have hfew := hok.few
    have hB1 := BoxedP.made hF1
    have hb2 := below_alloc hb1 (.cells #[.slice fa p.fs.length fc, .int .i64 p.futs, .int .i64 p.depth, .int .i64 p.fuel] 24)
    clear hF1
    go_wp2_with fail
    refine (Put_own p hgood _ _ (hT.below hb2) hB1.fns).mono ?_
    rintro e w2 ⟨rfl, hb3'⟩
    have hb3 := below_then hb2 hb3'
    have hB2 := hB1.kept hb3'
    clear hb3' hB1
    go_wp2_with fail
    refine (Get_own p hgood _ (hT.below hb3)).mono ?_
    rintro e w3 ⟨hb4', ga, gc, rfl, hG⟩
    have hb4 := below_then hb3 hb4'
    have hB3 := hB2.kept hb4'
    have hC3 := BoxedP.made hG
    have hb5 := below_alloc hb4 (.cells #[.slice ga p.fs.length gc, .int .i64 p.futs, .int .i64 p.depth, .int .i64 p.fuel] 24)
    have hB4 := hB3.kept ((Below.refl _ _).alloc (Nat.le_refl _) (.cells #[.slice ga p.fs.length gc, .int .i64 p.futs, .int .i64 p.depth, .int .i64 p.fuel] 24))
    clear hb4' hB2 hB3 hG
    generalize strB (putB p) = S
    obtain ⟨c0, -, -, -⟩ := hB4.cells
    go_wp2_with fail
    generalize hW0 : w3.alloc (.cells #[.slice ga p.fs.length gc, .int .i64 p.futs, .int .i64 p.depth, .int .i64 p.fuel] 24) = W0 at *
    clear hW0
    go_loopw [10] (fun iv wr => ∃ i : Nat, i ≤ p.fs.length ∧ iv = .int .i64 i ∧ Below W0.heap.size W0 wr) (fun iv _ => p.fs.length - (intOf iv).toNat)
    case atStart => exact ⟨0, by omega, rfl, Below.refl _ _⟩
    case round =>
      obtain ⟨i, hi, rfl, hBl⟩ := hrel
      have hB5 := hB4.kept hBl
      obtain ⟨d0, d1, d2, d3⟩ := hB5.cells
      by_cases hlt : i < p.fs.length
      · obtain ⟨fa', fc', he, hfx⟩ := hB5.fns
        obtain ⟨rfl, rfl⟩ : fa' = fa ∧ fc' = fc := by simp at he; exact ⟨he.1.symm, he.2.symm⟩
        clear he
        obtain ⟨g, f, u, rfl, hc, xa, xc, rfl, hI⟩ := hfx i hlt
        have hfs := (hok.fns _ (List.getElem_mem hlt)).2.1
        have hsh := hgood.shapes _ (List.getElem_mem hlt)
        clear hfx
        obtain ⟨W, rfl⟩ : ∃ W, W = wr := ⟨wr, rfl⟩
        go_wp2_with fail
        go_loopw [11] (fun kv wr => ∃ k : Nat, k ≤ p.fs[i].length ∧ kv = .int .i64 k ∧ Below W.heap.size W wr) (fun kv _ => p.fs[i].length - (intOf kv).toNat)
        case atStart => exact ⟨0, by omega, rfl, Below.refl _ _⟩
        case round =>
          obtain ⟨k, hk, rfl, hBi⟩ := hrel
          have st := still_of_below hBi
          have d0' := st _ _ d0
          have hc' := st _ _ hc
          by_cases hkl : k < p.fs[i].length
          · obtain ⟨g', f', rfl, hA⟩ := hI k hkl
            obtain ⟨x0, x1, x2, x3⟩ := hA.still st
            have hs : shapeB p.fs[i][k].o p.fs[i][k].a p.fs[i][k].b p.fs[i][k].c = true := List.all_eq_true.1 hsh _ (List.getElem_mem hkl)
            have hTi : Tab wr := hT.below (below_then hb5 (below_then hBl hBi))
            go_wp2_with fail
            refine (shape_any _ _ _ _ _ hTi).mono ?_
            rintro e w4 ⟨rfl, hb6⟩
            rw [hs]
            clear hs
            go_wp2_with fail
            go_roundw
            case rel => exact ⟨k + 1, by omega, by go_num, below_then hBi hb6⟩
            case measure => simp [intOf]; omega
          · go_wp2_with fail
            go_roundw
            case rel => exact ⟨i + 1, by omega, by go_num, below_then hBl hBi⟩
            case measure => simp [intOf]; omega
      · have hC5 := hC3.kept hBl
        obtain ⟨e0, e1, e2, e3⟩ := hC5.cells
        go_wp2_with fail
        refine (sameProg_any p p _ _ _ hB5.fns hC5.fns hgood.few' hgood.small' hgood.few' hgood.small').mono ?_
        rintro e w4 ⟨⟨r, rfl, hr⟩, hb6⟩
        obtain rfl : r = true := hr.2 rfl
        clear hr
        have hb7 := below_then (below_then hb5 hBl) hb6
        go_wp2_with fail
        refine (awake_any _ (hT.below hb7)).mono ?_
        rintro e w5 ⟨rfl, hb8⟩
        go_wp2_with fail
        go_ret
        exact ⟨rfl, below_then hb7 hb8⟩
end Go.Proofs.YthnmaffckkohkaaDoor
