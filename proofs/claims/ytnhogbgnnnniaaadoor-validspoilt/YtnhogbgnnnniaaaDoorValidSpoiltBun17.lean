/-
  Helpers: C2Copy2, Va, SpW.
-/
import Derived.Test.YtnhogbgnnnniaaaDoorValidSpoiltBun14
import Derived.Test.YtnhogbgnnnniaaaDoorValidSpoiltBun16
import Derived.Test.YtnhogbgnnnniaaaDoorValidSpoiltBun10
import Derived.Test.YtnhogbgnnnniaaaDoorValidSpoiltBun13
import Derived.Test.YtnhogbgnnnniaaaDoorValidSpoiltBun11
import Derived.Test.YtnhogbgnnnniaaaDoorValidSpoiltBun15
import Derived.Deep.RegionHeld3
namespace Go.Proofs.YtnhogbgnnnniaaaDoor.C2
open Go.RowKit

def CopyPost (p : Pr) (w : World) (e : Ending) (w' : World) : Prop := ∃ fa fc, e = .returned (.agg #[.slice fa p.fs.length fc, .int .i64 p.futs, .int .i64 p.depth, .int .i64 p.fuel]) ∧ SlF w' (.slice fa p.fs.length fc) p.fs ∧ Below w.heap.size w w'
set_option maxHeartbeats 2000000 in
theorem copy_any (p : Pr) (fv : Value) (w : World) (hF : SlF w fv p.fs) (hl : p.fs.length ≤ 15) (hm : ∀ f ∈ p.fs, f.length ≤ 45) :
    Calls Tryd.prog 13 #[.agg #[fv, .int .i64 p.futs, .int .i64 p.depth, .int .i64 p.fuel]] w fun e w' => CopyPost p w e w' := by
  obtain ⟨i1, ki, kz0, kz1, kz2⟩ := info_parts infoFns
  have hF0 := hF
  obtain ⟨fa, fc, rfl, -⟩ := hF0
  have hB1 := BoxedP.made hF
  have hb1 := below_alloc (Below.refl w.heap.size w) (.cells #[.slice fa p.fs.length fc, .int .i64 p.futs, .int .i64 p.depth, .int .i64 p.fuel] 24)
  have hb2 := below_alloc (below_alloc hb1 (.cells #[.slice none 0 0, .int .i64 0, .int .i64 0, .int .i64 0] 24)) (.cells #[.slice none 0 0, .int .i64 p.futs, .int .i64 p.depth, .int .i64 p.fuel] 24)
  have hB2 := (hB1.kept (below_alloc (Below.refl _ _) (.cells #[.slice none 0 0, .int .i64 0, .int .i64 0, .int .i64 0] 24))).kept (below_alloc (Below.refl _ _) (.cells #[.slice none 0 0, .int .i64 p.futs, .int .i64 p.depth, .int .i64 p.fuel] 24))
  have hP0 : PW w (((w.alloc (.cells #[.slice fa p.fs.length fc, .int .i64 p.futs, .int .i64 p.depth, .int .i64 p.fuel] 24)).alloc (.cells #[.slice none 0 0, .int .i64 0, .int .i64 0, .int .i64 0] 24)).alloc (.cells #[.slice none 0 0, .int .i64 p.futs, .int .i64 p.depth, .int .i64 p.fuel] 24)) (w.heap.size + 1) (w.heap.size + 2) (.slice none 0 0) p.futs p.depth p.fuel [] [] :=
    ⟨by omega, by omega, by simpa using heap_alloc2_old (w.alloc (.cells #[.slice fa p.fs.length fc, .int .i64 p.futs, .int .i64 p.depth, .int .i64 p.fuel] 24)) _ _, by simpa using heap_alloc2_new (w.alloc (.cells #[.slice fa p.fs.length fc, .int .i64 p.futs, .int .i64 p.depth, .int .i64 p.fuel] 24)) _ _, World.ownsRow_nil _ _ _ _, rfl, fun j h => by simp at h, hb2⟩
  have HF : Hid (SlF w (.slice fa p.fs.length fc) p.fs) := hF
  clear hF
  go_enter Tryd.func13, Tryd.ntmps13
  go_wp2_with fail
  generalize hW0 : ((w.alloc (.cells #[.slice fa p.fs.length fc, .int .i64 p.futs, .int .i64 p.depth, .int .i64 p.fuel] 24)).alloc (.cells #[.slice none 0 0, .int .i64 0, .int .i64 0, .int .i64 0] 24)).alloc (.cells #[.slice none 0 0, .int .i64 p.futs, .int .i64 p.depth, .int .i64 p.fuel] 24) = W0 at *
  clear hW0 hB1 hb1
  go_loopw [4] (fun iv wr => ∃ (i : Nat) (xv : Value) (vals : List Value), i ≤ p.fs.length ∧ iv = .int .i64 i ∧ PW w wr (w.heap.size + 1) (w.heap.size + 2) xv p.futs p.depth p.fuel vals (p.fs.take i) ∧ wr.heap[w.heap.size]? = some (.cells #[.slice fa p.fs.length fc, .int .i64 p.futs, .int .i64 p.depth, .int .i64 p.fuel] 24 (0, 0))) (fun iv _ => p.fs.length - (intOf iv).toNat)
  case atStart => exact ⟨0, _, _, by omega, rfl, hP0, hB2.box⟩
  case round =>
    obtain ⟨i, xv, vals, hi, rfl, hP, hbx⟩ := hrel
    have hB : BoxedP wr w.heap.size fa fc p := ⟨hbx, HF.out.kept hP.below⟩
    have HX : Hid (wr.heap[w.heap.size]? = some (.cells #[.slice fa p.fs.length fc, .int .i64 p.futs, .int .i64 p.depth, .int .i64 p.fuel] 24 (0, 0))) := hbx
    clear hbx
    obtain ⟨d0, d1, d2, d3⟩ := hB.cells
    have hzP := lt_of_block hP.box
    have hvl : vals.length = i := by rw [hP.len, List.length_take]; omega
    have HV : Hid (vals.length = i) := hvl
    clear hvl
    by_cases hlt : i < p.fs.length
    · obtain ⟨fa', fc', he, hfx⟩ := hB.fns
      obtain ⟨rfl, rfl⟩ : fa' = fa ∧ fc' = fc := by simp at he; exact ⟨he.1.symm, he.2.symm⟩
      clear he
      obtain ⟨g, f, u, rfl, hc, hI⟩ := hfx i hlt
      have hI0 := hI
      obtain ⟨xa, xc, rfl, -⟩ := hI0
      have hmi := hm _ (List.getElem_mem hlt)
      have hvb : vals.length ≤ 15 := by rw [HV.out]; omega
      clear hfx
      have x0 := cell_of_row wr _ 0 _ _ _ hP.box
      simp at x0
      go_wp2_with fail
      have hID : SlI wr.drew (.slice xa p.fs[i].length xc) p.fs[i] := hI.still fun a v h => h
      clear hI
      go_region_law (first | (refine step_copy _ rfl (.const (.slice none 0 0)) (.tmp 25) rfl (.slice xa p.fs[i].length xc) p.fs[i] (by simp [Act.eval]) (by simp [Act.eval]) hID (by omega) ?_; intro va vc w1 hown1 hb1'; have hb1 : Below wr.heap.size wr w1 := below_then ((Below.refl _ _).drew) hb1'; have x1 := still_of_below hb1 _ _ x0; have x1a := fun o : Obj => still_alloc w1 o _ _ x1; have hP1 := hP.kept hb1; have hrow1 := hP1.row; have hz1 := lt_of_block hP1.box) | (refine step_append_lies _ rfl (.tmp 20) (.tmp 27) 22 rfl (w.heap.size + 2 + 1) 39 i1 (.slice none 0 0) 1 24 Tryd.underlying22 ki kz0 kz1 kz2 rfl (by decide) xv vals.length vals (by simp [Act.eval]) (hrow1.alloc _) ⟨w1.heap.size, 0, none⟩ 1 1 [.slice va p.fs[i].length vc] (by simp [Act.eval]) rfl (one_new _ _ _) (by intro u hu; simp at hu; subst hu; rfl) (by omega) (by unfold maxLen; omega) (by omega) (by simp; omega) _ rfl ?_; intro g7 cap7 w7 hown7 hgrow7 hat7 hlt7; have b7 := (hgrow7.block _ (by simp; omega) (fun e => by have := hrow1.lt _ e.symm; omega)).trans ((Below.heap_alloc _ _ _ hz1).trans hP1.box); have c7 := cell_of_row w7 _ 0 _ _ _ b7; simp at c7; have f7 := frozen_of_row w7 _ 0 _ _ b7))
      all_goals
        have hPn := hP.push (below_alloc hb1 _) (B := wr.heap.size) hzP (hown1.alloc (.cells #[.slice va p.fs[i].length vc] 39)) hgrow7 hown7
        have hbx : (w7.setCell ⟨w.heap.size + 2, 0, none⟩ (.slice (some ⟨g7, 0, none⟩) (vals.length + 1) cap7)).heap[w.heap.size]? = some _ := (Below.heap_setCell _ _ _ _ (by simp)).trans ((hgrow7.block _ (by simp; omega) (fun e => by have := hrow1.lt _ e.symm; omega)).trans ((Below.heap_alloc _ _ _ (by omega)).trans ((hb1.block _ (by omega)).trans HX.out)))
        clear hgrow7 hown7 hown1 hrow1 hP1 b7 c7 f7 x1 x1a
        go_wp2_with fail
        go_roundw
        case rel => exact ⟨i + 1, _, _, by omega, by go_num, by rw [List.take_succ_eq_append_getElem hlt]; exact hPn, hbx⟩
        case measure => simp [intOf]; omega
    · have hii : i = p.fs.length := by omega
      have b0 := cell_of_row wr _ 0 _ _ _ hP.box
      have b1 := cell_of_row wr _ 1 _ _ _ hP.box
      have b2 := cell_of_row wr _ 2 _ _ _ hP.box
      have b3 := cell_of_row wr _ 3 _ _ _ hP.box
      have r0 := cell_of_row wr _ 0 _ _ _ hP.res
      have r1 := cell_of_row wr _ 1 _ _ _ hP.res
      have r2 := cell_of_row wr _ 2 _ _ _ hP.res
      have r3 := cell_of_row wr _ 3 _ _ _ hP.res
      have f0 := frozen_of_row wr _ 0 _ _ hP.res
      have f1 := frozen_of_row wr _ 1 _ _ hP.res
      have f2 := frozen_of_row wr _ 2 _ _ hP.res
      have f3 := frozen_of_row wr _ 3 _ _ hP.res
      simp at b0 b1 b2 b3 r0 r1 r2 r3
      rw [hii, List.take_length] at hP
      have hvl : vals.length = p.fs.length := hP.len
      obtain ⟨ya, yl, yc, hxv, hyl⟩ : ∃ ya yl yc, xv = .slice ya yl yc ∧ yl = vals.length := by
        rcases hP.row.2 with ⟨h, h0⟩ | ⟨g, cap, cur, h, _⟩
        · exact ⟨_, _, _, h, h0.symm⟩
        · exact ⟨_, _, _, h, rfl⟩
      rw [hvl] at hyl
      subst hxv hyl
      have hSl : SlF ((((wr.setCell ⟨w.heap.size + 1, 0, none⟩ (.slice ya p.fs.length yc)).setCell ⟨w.heap.size + 1, 1, none⟩ (.int .i64 p.futs)).setCell ⟨w.heap.size + 1, 2, none⟩ (.int .i64 p.depth)).setCell ⟨w.heap.size + 1, 3, none⟩ (.int .i64 p.fuel)) (.slice ya p.fs.length yc) p.fs := hP.slF fun b h1 h2 => by
        rw [Below.heap_setCell _ _ _ _ (by simp; omega), Below.heap_setCell _ _ _ _ (by simp; omega), Below.heap_setCell _ _ _ _ (by simp; omega), Below.heap_setCell _ _ _ _ (by simp; omega)]
      have hBl : Below w.heap.size w ((((wr.setCell ⟨w.heap.size + 1, 0, none⟩ (.slice ya p.fs.length yc)).setCell ⟨w.heap.size + 1, 1, none⟩ (.int .i64 p.futs)).setCell ⟨w.heap.size + 1, 2, none⟩ (.int .i64 p.depth)).setCell ⟨w.heap.size + 1, 3, none⟩ (.int .i64 p.fuel)) := (((hP.below.setCell (p := ⟨w.heap.size + 1, 0, none⟩) (by simp) _).setCell (p := ⟨w.heap.size + 1, 1, none⟩) (by simp) _).setCell (p := ⟨w.heap.size + 1, 2, none⟩) (by simp) _).setCell (p := ⟨w.heap.size + 1, 3, none⟩) (by simp) _
      clear hP hvl hii
      go_wp2_with fail
      exact bodyPost_ret (v := .agg #[.slice ya p.fs.length yc, .int .i64 p.futs, .int .i64 p.depth, .int .i64 p.fuel]) (by simp [results, Tryd.results13, go_sem, r0, r1, r2, r3]) rfl ⟨_, _, rfl, hSl, hBl⟩
end Go.Proofs.YtnhogbgnnnniaaaDoor.C2
namespace Go.Proofs.YtnhogbgnnnniaaaDoor
open Go.RowKit
open C2 (In Pr SlF SlI InsAt Tab BoxedP below_alloc below_then still_of_below Still putE)

def pA : Pr := ⟨[[⟨15, 0, 0, 0⟩]], 0, 0, 1⟩
def pN : Pr := ⟨[], 0, 0, 1⟩
theorem pA_code : checkF pA = 0 := by decide +kernel
theorem pN_code : checkF pN = 5 := by decide +kernel
theorem pA_lies (w : World) : SlF ((w.alloc (.cells #[.int .i64 15, .int .i64 0, .int .i64 0, .int .i64 0] 42)).alloc (.cells #[.slice (some ⟨w.heap.size, 0, none⟩) 1 1] 39)) (.slice (some ⟨w.heap.size + 1, 0, none⟩) 1 1) pA.fs := by
  have h0 : ((w.alloc (.cells #[.int .i64 15, .int .i64 0, .int .i64 0, .int .i64 0] 42)).alloc (.cells #[.slice (some ⟨w.heap.size, 0, none⟩) 1 1] 39)).heap[w.heap.size]? = some (.cells #[.int .i64 15, .int .i64 0, .int .i64 0, .int .i64 0] 42 (0, 0)) := heap_alloc2_old _ _ _
  have h1 : ((w.alloc (.cells #[.int .i64 15, .int .i64 0, .int .i64 0, .int .i64 0] 42)).alloc (.cells #[.slice (some ⟨w.heap.size, 0, none⟩) 1 1] 39)).heap[w.heap.size + 1]? = some (.cells #[.slice (some ⟨w.heap.size, 0, none⟩) 1 1] 39 (0, 0)) := heap_alloc2_new _ _ _
  refine ⟨_, _, rfl, fun k hk => ?_⟩
  obtain rfl : k = 0 := by simp [pA] at hk; exact hk
  refine ⟨_, _, .slice (some ⟨w.heap.size, 0, none⟩) 1 1, rfl, by rw [cell_of_row _ _ _ _ _ _ h1]; rfl, ?_⟩
  refine ⟨_, _, rfl, fun j hj => ?_⟩
  obtain rfl : j = 0 := by simp [pA] at hj; exact hj
  refine ⟨_, _, rfl, ?_⟩
  constructor <;> rw [cell_of_row _ _ _ _ _ _ h0] <;> rfl
theorem awake_any (w : World) (hT : Tab w) : Calls Tryd.prog 15 #[] w fun e w' => e = .returned (.bool true) ∧ Below w.heap.size w w' := by
  have hb1 := below_alloc (below_alloc (Below.refl w.heap.size w) (.cells #[.int .i64 15, .int .i64 0, .int .i64 0, .int .i64 0] 42)) (.cells #[.slice (some ⟨w.heap.size, 0, none⟩) 1 1] 39)
  have h1 := Check_any pA _ _ (hT.below hb1) (pA_lies w) (by simp [pA]) (by simp [pA])
  rw [pA_code] at h1
  have h2 : ∀ w, Tab w → Calls Tryd.prog 16 #[.agg #[.slice none 0 0, .int .i64 0, .int .i64 0, .int .i64 1]] w fun e w' => e = .returned (.int .i64 5) ∧ Below w.heap.size w w' := fun w hT => by
    have h := Check_any pN (.slice none 0 0) w hT ⟨none, 0, rfl, fun k h => by simp [pN] at h⟩ (by simp [pN]) (by simp [pN])
    rw [pN_code] at h
    exact h
  have H1 : Hid (Calls Tryd.prog 16 #[.agg #[.slice (some ⟨w.heap.size + 1, 0, none⟩) 1 1, .int .i64 0, .int .i64 0, .int .i64 1]] ((w.alloc (.cells #[.int .i64 15, .int .i64 0, .int .i64 0, .int .i64 0] 42)).alloc (.cells #[.slice (some ⟨w.heap.size, 0, none⟩) 1 1] 39)) fun e w' => e = .returned (.int .i64 0) ∧ Below ((w.alloc (.cells #[.int .i64 15, .int .i64 0, .int .i64 0, .int .i64 0] 42)).alloc (.cells #[.slice (some ⟨w.heap.size, 0, none⟩) 1 1] 39)).heap.size ((w.alloc (.cells #[.int .i64 15, .int .i64 0, .int .i64 0, .int .i64 0] 42)).alloc (.cells #[.slice (some ⟨w.heap.size, 0, none⟩) 1 1] 39)) w') := h1
  have H2 : Hid (∀ w, Tab w → Calls Tryd.prog 16 #[.agg #[.slice none 0 0, .int .i64 0, .int .i64 0, .int .i64 1]] w fun e w' => e = .returned (.int .i64 5) ∧ Below w.heap.size w w') := h2
  clear h1 h2
  go_enter Tryd.func15, Tryd.ntmps15
  go_wp2_with fail
  refine H1.out.mono ?_
  rintro e w1 ⟨rfl, hb2⟩
  have hb3 := below_then hb1 hb2
  clear H1
  go_wp2_with fail
  refine (H2.out _ (hT.below hb3)).mono ?_
  rintro e w2 ⟨rfl, hb4⟩
  go_wp2_with fail
  go_ret
  exact ⟨rfl, below_then hb3 hb4⟩
theorem same_same (v u : Value) (xs : List Int) (w : World) (hv : SlN w v xs) (hu : SlN w u xs) (hx : xs.length ≤ 1000000) :
    Calls Tryd.prog 18 #[v, u] w fun e w' => e = .returned (.bool true) ∧ Below w.heap.size w w' := by
  have h := sameInts_any v u xs xs w hv hu hx hx
  rw [decide_eq_true rfl] at h
  exact h
end Go.Proofs.YtnhogbgnnnniaaaDoor
namespace Go.Proofs.YtnhogbgnnnniaaaDoor
open Go.RowKit
open C2 (In Pr SlF SlI InsAt Tab BoxedP OwnP OkPr below_alloc below_then still_of_below Still NumsIn placeI)

set_option maxRecDepth 4000 in
set_option maxHeartbeats 4000000 in
theorem spoilt_walk (nv : Value) (len : Nat) (a1 a2 : Int) (w : World) (hT : Tab w) (hn : NumsIn w nv len) (hl : len ≤ 9223372036854775807) :
    Calls Tryd.prog 5 #[nv, .int .i64 a1, .int .i64 a2] w fun e w' => e = .returned (.bool true) ∧ Below w.heap.size w w' := by
  obtain ⟨ad, cap, rfl, hn1, hn2, hn3⟩ := hn
  by_cases h100 : 100 < len
  · have hd : decide ((100 : Int) < (len : Int)) = true := by simp; omega
    go_enter Tryd.func5, Tryd.ntmps5
    go_wp2_with (go_at_call 15; refine (awake_any _ hT).mono ?_; rintro e w1 ⟨rfl, hb1⟩)
    go_ret
    exact ⟨rfl, hb1⟩
  have hd : decide ((100 : Int) < (len : Int)) = false := by simp; omega
  go_enter Tryd.func5, Tryd.ntmps5
  go_wp2_with fail
  refine (C2.prog_own _ true w ⟨ad, len, cap, rfl, hn1, hn2, hn3⟩).mono ?_
  rintro e w1 ⟨p, fv, vals, hok, -, rfl, hO, hb1⟩
  have hsome := hok.some
  have hfew := hok.few
  obtain ⟨gf, cf, rfl, hgf, hrow⟩ := OwnP_row hO (by omega)
  have hB1 := BoxedP.made hO.slF
  have hb2 := below_alloc hb1 (.cells #[.slice (some ⟨gf, 0, none⟩) p.fs.length cf, .int .i64 p.futs, .int .i64 p.depth, .int .i64 p.fuel] 24)
  have hO2 : OwnP (w1.alloc (.cells #[.slice (some ⟨gf, 0, none⟩) p.fs.length cf, .int .i64 p.futs, .int .i64 p.depth, .int .i64 p.fuel] 24)) (w.heap.size + 1) (.slice (some ⟨gf, 0, none⟩) p.fs.length cf) vals p.fs := hO.kept fun g _ hg => Below.heap_alloc _ _ _ hg
  have hz1 := hb1.size
  have HB1 : Hid (∀ g, (w.heap.size + 1 ≤ g → g < w1.heap.size → True)) := fun _ _ _ => trivial
  clear hO hrow HB1 hn1 hn2 hn3
  have hns : ∀ f ∈ p.fs, f.length ≤ 11 := fun f hf => (hok.fns f hf).2.1
  go_wp2_with fail
  refine (C2.copy_any p _ _ hB1.fns (by omega) fun f hf => by have := hns f hf; omega).mono ?_
  rintro e w2 ⟨ga, gc, rfl, hG, hb3'⟩
  have hb3 := below_then hb2 hb3'
  have hB2 := hB1.kept hb3'
  have hO3 := hO2.kept (w' := w2) fun g _ hg => hb3'.block g hg
  clear hB1 hO2 
  go_wp2_with fail
  refine (Check_any p _ _ (hT.below hb3) hG (by omega) fun f hf => by have := hns f hf; omega).mono ?_
  rintro e w3 ⟨rfl, hb4'⟩
  rw [ok_check hok]
  have hb4 := below_then hb3 hb4'
  have hB3 := hB2.kept hb4'
  have hO4 := hO3.kept (w' := w3) fun g _ hg => hb4'.block g hg
  have hz3 : w1.heap.size < w3.heap.size := lt_of_block hB3.box
  clear hB2 hO3 hG hb3' hb4' hb1 hb2 hb3
  obtain ⟨i, hi⟩ : ∃ i : Nat, placeI a2 p.fs.length = i := ⟨(placeI a2 p.fs.length).toNat, by have := C2.placeI_bd a2 p.fs.length (by omega); omega⟩
  have hil : i < p.fs.length := by have := C2.placeI_bd a2 p.fs.length (by omega); omega
  have hfi := hok.fns _ (List.getElem_mem hil)
  have hf2 := hfi.1
  have hf11 := hfi.2.1
  obtain ⟨g, c, cur, hv, hgB, hgc, hR⟩ := OwnP_fn hO4 hil (by omega)
  have hvl : i < vals.length := by rw [hO4.len]; exact hil
  have hv2 : vals[i]'hvl = .slice (some ⟨g, 0, none⟩) p.fs[i].length c := hv
  clear hv
  have hv := hv2
  clear hv2
  obtain ⟨gf', cf', hfe, hgf', hrow⟩ := OwnP_row hO4 (by omega)
  obtain ⟨rfl, rfl⟩ : gf = gf' ∧ cf = cf' := by simp at hfe; exact hfe
  have hcell := hrow i hvl
  rw [hv] at hcell
  obtain ⟨k, hk⟩ : ∃ k : Nat, placeI a2 p.fs[i].length = k := ⟨(placeI a2 p.fs[i].length).toNat, by have := C2.placeI_bd a2 p.fs[i].length (by omega); omega⟩
  have hkl : k < p.fs[i].length := by have := C2.placeI_bd a2 p.fs[i].length (by omega); omega
  have HP1 : Hid (∀ w', Calls Tryd.prog 24 #[.int .i64 a2, .int .i64 p.fs.length] w' fun e w'' => e = .returned (.int .i64 i) ∧ w'' = w') := fun w' => by have := C2.place_any a2 p.fs.length w' (by omega) (by omega); rw [hi] at this; exact this
  have HP2 : Hid (∀ w', Calls Tryd.prog 24 #[.int .i64 a2, .int .i64 p.fs[i].length] w' fun e w'' => e = .returned (.int .i64 k) ∧ w'' = w') := fun w' => by have := C2.place_any a2 p.fs[i].length w' (by omega) (by omega); rw [hk] at this; exact this
  obtain ⟨d0, d1, d2, d3⟩ := hB3.cells
  clear hfe hgf' hrow hi hk hfi
  go_wp2_with fail
  go_region_held3 (fun w' => w'.cell? ⟨w1.heap.size, 0, none⟩ = some (.slice (some ⟨gf, 0, none⟩) p.fs.length cf) ∧ w'.cell? ⟨gf, i, none⟩ = some (.slice (some ⟨g, 0, none⟩) p.fs[i].length c)) (first | exact ⟨d0, hcell⟩) (first | (go_at_call 24; refine (HP1.out _).mono ?_; rintro e w' ⟨rfl, rfl⟩))
  go_wp2_with fail
  refine (HP2.out _).mono ?_
  rintro e w' ⟨rfl, rfl⟩
  obtain ⟨X, hX⟩ : ∃ X, w3.drew = X := ⟨_, rfl⟩
  have hbd : Below w3.heap.size w3 X := by rw [← hX]; exact (Below.refl _ _).drew
  have hbX := below_then hb4 hbd
  have hBX := hB3.kept hbd
  have hOX := hO4.kept (w' := X) fun g _ hg => hbd.block g hg
  have hgX := (hbd.block _ (lt_of_block hgc)).trans hgc
  have hne : g ≠ w1.heap.size := fun e => by rw [e, hB3.box] at hgc; simp at hgc
  have hns' : ∀ k x, ∀ f ∈ p.fs.set i (p.fs[i].set k x), f.length ≤ 1000000 := fun k x f hf => by
    rcases List.mem_or_eq_of_mem_set hf with hf | rfl
    · have := hns f hf; omega
    · simp; omega
  have HNS : Hid (∀ k x, ∀ f ∈ p.fs.set i (p.fs[i].set k x), f.length ≤ 1000000) := hns'
  have HNS0 : Hid (∀ f ∈ p.fs, f.length ≤ 11) := hns
  have HT : Hid (∀ w', Below w.heap.size w w' → Tab w') := fun w' h => hT.below h
  rw [hX]
  clear d0 d1 d2 d3 hB3 hO4 hgc hbd hX hns hns' hb4 hcell HP1 HP2 hT
  obtain ⟨d0, d1, d2, d3⟩ := hBX.cells
  have z0 := rows_cells hgX hR (k := 0) (by omega)
  obtain ⟨⟨x0, x1, x2, x3⟩, fz⟩ := z0
  have fz0 := fz 0
  have fz1 := fz 1
  have fz2 := fz 2
  have fz3 := fz 3
  simp only [Nat.zero_mul, Nat.zero_add] at x0 x1 x2 x3
  obtain ⟨q, hq⟩ : ∃ q : Int, placeI a1 8 = q := ⟨_, rfl⟩
  have hq2 := C2.placeI_bd a1 8 (by omega)
  rw [hq] at hq2
  have HP3 : Hid (∀ w', Calls Tryd.prog 24 #[.int .i64 a1, .int .i64 8] w' fun e w'' => e = .returned (.int .i64 q) ∧ w'' = w') := fun w' => by have := C2.place_any a1 8 w' (by omega) (by omega); rw [hq] at this; exact this
  obtain ⟨L, hL⟩ : ∃ L, p.fs[i].length = L := ⟨_, rfl⟩
  have HL : Hid (p.fs[i].length = L) := hL
  rw [hL]
  have hv' := hv
  rw [hL] at hv' hf2 hf11 hkl
  clear hq hL hv'
  rcases (by omega : q = 0 ∨ q = 1 ∨ q = 2 ∨ q = 3 ∨ q = 4 ∨ q = 5 ∨ q = 6 ∨ q = 7) with rfl | rfl | rfl | rfl | rfl | rfl | rfl | rfl
  · go_wp2_with fail
    refine (HP3.out _).mono ?_
    rintro e w' ⟨rfl, rfl⟩
    obtain ⟨m, rfl⟩ : ∃ m, L = m + 1 := ⟨L - 1, by omega⟩
    obtain ⟨⟨y0, y1, y2, y3⟩, -⟩ := rows_cells hgX hR (k := m) (by rw [HL.out]; omega)
    have gz0 := fz (m * 4)
    have gz1 := fz (m * 4 + 1)
    have gz2 := fz (m * 4 + 2)
    have gz3 := fz (m * 4 + 3)
    have HBW := set4_below hbX (g := g) (by omega) (m * 4) (⟨14, 0, 0, 0⟩ : In)
    have HS := turned4 hOX hil hv hgX hR (k := m) (o := m * 4) (by rw [HL.out]; omega) (by omega) (⟨14, 0, 0, 0⟩ : In)
    have HSP : Hid (checkF ⟨p.fs.set i (p.fs[i].set m (⟨14, 0, 0, 0⟩ : In)), p.futs, p.depth, p.fuel⟩ = 5) := sp0 hok hil HL.out
    go_wp2_with fail
    refine (Check_any ⟨p.fs.set i (p.fs[i].set m (⟨14, 0, 0, 0⟩ : In)), p.futs, p.depth, p.fuel⟩ _ _ (HT.out _ HBW) HS (by simp; omega) (HNS.out _ _)).mono ?_
    rintro e w5 ⟨rfl, hb5⟩
    rw [HSP.out]
    have hb6 := below_then HBW hb5
    go_wp2_with (go_at_call 15; refine (awake_any _ (HT.out _ hb6)).mono ?_; rintro e w6 ⟨rfl, hb7⟩)
    go_ret
    exact ⟨rfl, below_then hb6 hb7⟩
  · go_wp2_with fail
    refine (HP3.out _).mono ?_
    rintro e w' ⟨rfl, rfl⟩
    have HBW := set4_below hbX (g := g) (by omega) (0) (⟨7, L, 0, 0⟩ : In)
    have HS := turned4 hOX hil hv hgX hR (k := 0) (o := 0) (by rw [HL.out]; omega) (by omega) (⟨7, L, 0, 0⟩ : In)
    have HSP : Hid (checkF ⟨p.fs.set i (p.fs[i].set 0 (⟨7, L, 0, 0⟩ : In)), p.futs, p.depth, p.fuel⟩ = 5) := (by rw [← HL.out]; exact sp1 hok hil)
    go_wp2_with fail
    refine (Check_any ⟨p.fs.set i (p.fs[i].set 0 (⟨7, L, 0, 0⟩ : In)), p.futs, p.depth, p.fuel⟩ _ _ (HT.out _ HBW) HS (by simp; omega) (HNS.out _ _)).mono ?_
    rintro e w5 ⟨rfl, hb5⟩
    rw [HSP.out]
    have hb6 := below_then HBW hb5
    go_wp2_with (go_at_call 15; refine (awake_any _ (HT.out _ hb6)).mono ?_; rintro e w6 ⟨rfl, hb7⟩)
    go_ret
    exact ⟨rfl, below_then hb6 hb7⟩
  · go_wp2_with fail
    refine (HP3.out _).mono ?_
    rintro e w' ⟨rfl, rfl⟩
    have HBW := set4_below hbX (g := g) (by omega) (0) (⟨8, 0, L, 0⟩ : In)
    have HS := turned4 hOX hil hv hgX hR (k := 0) (o := 0) (by rw [HL.out]; omega) (by omega) (⟨8, 0, L, 0⟩ : In)
    have HSP : Hid (checkF ⟨p.fs.set i (p.fs[i].set 0 (⟨8, 0, L, 0⟩ : In)), p.futs, p.depth, p.fuel⟩ = 5) := (by rw [← HL.out]; exact sp2 hok hil)
    go_wp2_with fail
    refine (Check_any ⟨p.fs.set i (p.fs[i].set 0 (⟨8, 0, L, 0⟩ : In)), p.futs, p.depth, p.fuel⟩ _ _ (HT.out _ HBW) HS (by simp; omega) (HNS.out _ _)).mono ?_
    rintro e w5 ⟨rfl, hb5⟩
    rw [HSP.out]
    have hb6 := below_then HBW hb5
    go_wp2_with (go_at_call 15; refine (awake_any _ (HT.out _ hb6)).mono ?_; rintro e w6 ⟨rfl, hb7⟩)
    go_ret
    exact ⟨rfl, below_then hb6 hb7⟩
  · go_wp2_with fail
    refine (HP3.out _).mono ?_
    rintro e w' ⟨rfl, rfl⟩
    have HBW := set4_below hbX (g := g) (by omega) (0) (⟨9, 0, p.fs.length, 0⟩ : In)
    have HS := turned4 hOX hil hv hgX hR (k := 0) (o := 0) (by rw [HL.out]; omega) (by omega) (⟨9, 0, p.fs.length, 0⟩ : In)
    have HSP : Hid (checkF ⟨p.fs.set i (p.fs[i].set 0 (⟨9, 0, p.fs.length, 0⟩ : In)), p.futs, p.depth, p.fuel⟩ = 5) := sp3 hok hil
    go_wp2_with fail
    refine (Check_any ⟨p.fs.set i (p.fs[i].set 0 (⟨9, 0, p.fs.length, 0⟩ : In)), p.futs, p.depth, p.fuel⟩ _ _ (HT.out _ HBW) HS (by simp; omega) (HNS.out _ _)).mono ?_
    rintro e w5 ⟨rfl, hb5⟩
    rw [HSP.out]
    have hb6 := below_then HBW hb5
    go_wp2_with (go_at_call 15; refine (awake_any _ (HT.out _ hb6)).mono ?_; rintro e w6 ⟨rfl, hb7⟩)
    go_ret
    exact ⟨rfl, below_then hb6 hb7⟩
  · go_wp2_with fail
    refine (HP3.out _).mono ?_
    rintro e w' ⟨rfl, rfl⟩
    have HBW := set4_below hbX (g := g) (by omega) (0) (⟨11, p.futs, 0, 0⟩ : In)
    have HS := turned4 hOX hil hv hgX hR (k := 0) (o := 0) (by rw [HL.out]; omega) (by omega) (⟨11, p.futs, 0, 0⟩ : In)
    have HSP : Hid (checkF ⟨p.fs.set i (p.fs[i].set 0 (⟨11, p.futs, 0, 0⟩ : In)), p.futs, p.depth, p.fuel⟩ = 5) := sp4 hok hil
    go_wp2_with fail
    refine (Check_any ⟨p.fs.set i (p.fs[i].set 0 (⟨11, p.futs, 0, 0⟩ : In)), p.futs, p.depth, p.fuel⟩ _ _ (HT.out _ HBW) HS (by simp; omega) (HNS.out _ _)).mono ?_
    rintro e w5 ⟨rfl, hb5⟩
    rw [HSP.out]
    have hb6 := below_then HBW hb5
    go_wp2_with (go_at_call 15; refine (awake_any _ (HT.out _ hb6)).mono ?_; rintro e w6 ⟨rfl, hb7⟩)
    go_ret
    exact ⟨rfl, below_then hb6 hb7⟩
  · go_wp2_with fail
    refine (HP3.out _).mono ?_
    rintro e w' ⟨rfl, rfl⟩
    have hkl2 : k < p.fs[i].length := by rw [HL.out]; exact hkl
    obtain ⟨⟨y0, y1, y2, y3⟩, -⟩ := rows_cells hgX hR (k := k) hkl2
    have gz0 := fz (k * 4)
    have HBW := hbX.setCell (p := ⟨g, k * 4, none⟩) (by show w.heap.size ≤ g; omega) (.int .i64 16)
    have HS := turned1 hOX hil hv hgX hR (k := k) hkl2 16
    have HSP : Hid (checkF ⟨p.fs.set i (p.fs[i].set k ⟨16, p.fs[i][k].a, p.fs[i][k].b, p.fs[i][k].c⟩), p.futs, p.depth, p.fuel⟩ = 1) := sp5 hok hil hkl2 _ _ _
    go_wp2_with fail
    refine (Check_any ⟨p.fs.set i (p.fs[i].set k ⟨16, p.fs[i][k].a, p.fs[i][k].b, p.fs[i][k].c⟩), p.futs, p.depth, p.fuel⟩ _ _ (HT.out _ HBW) HS (by simp; omega) (HNS.out _ _)).mono ?_
    rintro e w5 ⟨rfl, hb5⟩
    rw [HSP.out]
    have hb6 := below_then HBW hb5
    go_wp2_with (go_at_call 15; refine (awake_any _ (HT.out _ hb6)).mono ?_; rintro e w6 ⟨rfl, hb7⟩)
    go_ret
    exact ⟨rfl, below_then hb6 hb7⟩
  · go_wp2_with fail
    refine (HP3.out _).mono ?_
    rintro e w' ⟨rfl, rfl⟩
    have gz0 := frozen_of_row _ _ 0 _ _ hBX.box
    have hbox := hBX.box
    have hzb := lt_of_block hbox
    have hrow := hOX.row
    have hvle : vals.length = p.fs.length := hOX.len
    have HO : Hid (OwnP w' (w.heap.size + 1) (.slice (some ⟨gf, 0, none⟩) p.fs.length cf) vals p.fs) := hOX
    have hrow2 : w'.ownsRow (w.heap.size + 1) 39 1 (.slice (some ⟨gf, 0, none⟩) p.fs.length cf) p.fs.length vals := by have h := hrow; rw [hvle] at h; exact h
    have hbsz := hbX.size
    have HBOX : Hid (w'.heap[w1.heap.size]? = some (.cells #[.slice (some ⟨gf, 0, none⟩) p.fs.length cf, .int .i64 p.futs, .int .i64 p.depth, .int .i64 p.fuel] 24 (0, 0))) := hbox
    have HV : Hid (vals.length = p.fs.length) := hvle
    have hgfb : (Value.slice (some ⟨gf, 0, none⟩) p.fs.length cf).ownBlock ≠ some w1.heap.size := own_not hrow hbox (by decide)
    clear hrow hvle hbox x0 x1 x2 x3 fz0 fz1 fz2 fz3 fz hv hR hgX hOX hBX
    obtain ⟨i1, ki, kz0, kz1, kz2⟩ := info_parts C2.infoFns
    go_wp2_with (at_builtin; refine wpList_append_own _ rfl _ _ 22 rfl (w.heap.size + 1) 39 i1 (.slice none 0 0) 1 24 Tryd.underlying22 ki kz0 kz1 kz2 rfl (by decide) _ _ _ rfl (hrow2.alloc _) ⟨w'.heap.size, 0, none⟩ 1 1 [.slice none 0 0] rfl rfl ?e1 ?e2 ?e3 ?e4 ?e5 ?_)
    case e1 => exact C2.one_new _ _ _
    case e2 => intro u hu; simp at hu; subst hu; rfl
    case e3 => unfold maxLen; omega
    case e4 => omega
    case e5 => simp; omega
    intro v' w4 hown4 hgrow _
    have hOa : OwnP (w'.alloc (.cells #[.slice none 0 0] 39)) (w.heap.size + 1) (.slice (some ⟨gf, 0, none⟩) p.fs.length cf) vals p.fs := HO.out.kept fun g _ hg => Below.heap_alloc _ _ _ hg
    have hO4 := OwnP_snoc (fv' := v') hOa hgrow (by rw [HV.out]; exact hown4)
    have hbox4 : w4.heap[w1.heap.size]? = some (.cells #[.slice (some ⟨gf, 0, none⟩) p.fs.length cf, .int .i64 p.futs, .int .i64 p.depth, .int .i64 p.fuel] 24 (0, 0)) := (hgrow.block _ (by simp; omega) fun e => hgfb e.symm).trans ((Below.heap_alloc _ _ _ hzb).trans HBOX.out)
    obtain ⟨r0, r1, r2, r3⟩ := prog_cells hbox4
    have gz4 := frozen_of_row _ _ 0 _ _ hbox4
    obtain ⟨va, vl, vc, rfl⟩ : ∃ va vl vc, v' = .slice va vl vc := by
      rcases hown4.2 with ⟨h, _⟩ | ⟨g, cap, cur, h, _⟩
      · exact ⟨_, _, _, h⟩
      · exact ⟨_, _, _, h⟩
    have HS := (OwnP_far hO4 hbox4 (w' := w4.setCell ⟨w1.heap.size, 0, none⟩ (.slice va vl vc)) fun g hg => Below.heap_setCell _ _ _ _ hg).slF
    have HBW : Below w.heap.size w (w4.setCell ⟨w1.heap.size, 0, none⟩ (.slice va vl vc)) := ((below_alloc hbX _).trans ⟨hgrow.os, hgrow.tape, hgrow.output, hgrow.size, fun k hk => hgrow.block k (by simp; omega) fun e => by simp [Value.ownBlock] at e; omega⟩).setCell (p := ⟨w1.heap.size, 0, none⟩) (by show w.heap.size ≤ w1.heap.size; omega) _
    have HSP : Hid (checkF ⟨p.fs ++ [[]], p.futs, p.depth, p.fuel⟩ = 5) := sp6 hok
    clear hgrow hown4 hO4 hOa
    go_wp2_with fail
    refine (Check_any ⟨p.fs ++ [[]], p.futs, p.depth, p.fuel⟩ _ _ (HT.out _ HBW) HS (by simp; omega) (fun f hf => by simp at hf; rcases hf with hf | rfl; have := HNS0.out f hf; omega; simp)).mono ?_
    rintro e w5 ⟨rfl, hb5⟩
    rw [HSP.out]
    have hb6 := below_then HBW hb5
    go_wp2_with (go_at_call 15; refine (awake_any _ (HT.out _ hb6)).mono ?_; rintro e w6 ⟨rfl, hb7⟩)
    go_ret
    exact ⟨rfl, below_then hb6 hb7⟩
  · go_wp2_with fail
    refine (HP3.out _).mono ?_
    rintro e w' ⟨rfl, rfl⟩
    have gz3 := frozen_of_row _ _ 3 _ _ hBX.box
    have HBW := hbX.setCell (p := ⟨w1.heap.size, 3, none⟩) (by show w.heap.size ≤ w1.heap.size; omega) (.int .i64 0)
    have HS : SlF (w'.setCell ⟨w1.heap.size, 3, none⟩ (.int .i64 0)) (.slice (some ⟨gf, 0, none⟩) p.fs.length cf) p.fs := (OwnP_far hOX hBX.box (w' := w'.setCell ⟨w1.heap.size, 3, none⟩ (.int .i64 0)) fun g hg => Below.heap_setCell _ _ _ _ hg).slF
    have HSP : Hid (checkF ⟨p.fs, p.futs, p.depth, 0⟩ = 1) := sp7 hok
    go_wp2_with fail
    refine (Check_any ⟨p.fs, p.futs, p.depth, 0⟩ _ _ (HT.out _ HBW) HS (by show p.fs.length ≤ _; omega) (fun f hf => by have := HNS0.out f hf; omega)).mono ?_
    rintro e w5 ⟨rfl, hb5⟩
    rw [HSP.out]
    have hb6 := below_then HBW hb5
    go_wp2_with (go_at_call 15; refine (awake_any _ (HT.out _ hb6)).mono ?_; rintro e w6 ⟨rfl, hb7⟩)
    go_ret
    exact ⟨rfl, below_then hb6 hb7⟩
end Go.Proofs.YtnhogbgnnnniaaaDoor
