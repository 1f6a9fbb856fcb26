/-
  Helpers: C2Copy2, V5Va.
-/
import Derived.Test.YtpmapdialjdcbaaDoorBun604dacd90425
import Derived.Test.YtpmapdialjdcbaaDoorBun730366782aa5
import Derived.Test.YtpmapdialjdcbaaDoorBun08ba12097ca8
import Derived.Test.YtpmapdialjdcbaaDoorBunc9d98ac31031
import Derived.Test.YtpmapdialjdcbaaDoorBun9ff45d95bd25
namespace Go.Proofs.YtpmapdialjdcbaaDoor.C2
open Go.RowKit

def CopyPost (p : Pr) (w : World) (e : Ending) (w' : World) : Prop := ∃ fa fc, e = .returned (.agg #[.slice fa p.fs.length fc, .int .i64 p.futs, .int .i64 p.depth, .int .i64 p.fuel]) ∧ SlF w' (.slice fa p.fs.length fc) p.fs ∧ Below w.heap.size w w'
set_option maxHeartbeats 2000000 in
theorem copy_any (p : Pr) (fv : Value) (w : World) (hF : SlF w fv p.fs) (hl : p.fs.length ≤ 15) (hm : ∀ f ∈ p.fs, f.length ≤ 45) :
    Calls Tryd.prog 13 #[.agg #[fv, .int .i64 p.futs, .int .i64 p.depth, .int .i64 p.fuel]] w fun e w' => CopyPost p w e w' := by
  obtain ⟨i1, ki, kz0, kz1, kz2⟩ := info_parts infoFns
  have hF0 := hF
  obtain ⟨fa, fc, rfl, -⟩ := hF0
  have hB1 := BoxedP.made hF
  have hb1 := below_alloc (Below.refl w.heap.size w) (.cells #[.slice fa p.fs.length fc, .int .i64 p.futs, .int .i64 p.depth, .int .i64 p.fuel] 24)
  have hb2 := below_alloc (below_alloc hb1 (.cells #[.slice none 0 0, .int .i64 0, .int .i64 0, .int .i64 0] 24)) (.cells #[.slice none 0 0, .int .i64 p.futs, .int .i64 p.depth, .int .i64 p.fuel] 24)
  have hB2 := (hB1.kept (below_alloc (Below.refl _ _) (.cells #[.slice none 0 0, .int .i64 0, .int .i64 0, .int .i64 0] 24))).kept (below_alloc (Below.refl _ _) (.cells #[.slice none 0 0, .int .i64 p.futs, .int .i64 p.depth, .int .i64 p.fuel] 24))
  have hP0 : PW w (((w.alloc (.cells #[.slice fa p.fs.length fc, .int .i64 p.futs, .int .i64 p.depth, .int .i64 p.fuel] 24)).alloc (.cells #[.slice none 0 0, .int .i64 0, .int .i64 0, .int .i64 0] 24)).alloc (.cells #[.slice none 0 0, .int .i64 p.futs, .int .i64 p.depth, .int .i64 p.fuel] 24)) (w.heap.size + 1) (w.heap.size + 2) (.slice none 0 0) p.futs p.depth p.fuel [] [] :=
    ⟨by omega, by omega, by simpa using heap_alloc2_old (w.alloc (.cells #[.slice fa p.fs.length fc, .int .i64 p.futs, .int .i64 p.depth, .int .i64 p.fuel] 24)) _ _, by simpa using heap_alloc2_new (w.alloc (.cells #[.slice fa p.fs.length fc, .int .i64 p.futs, .int .i64 p.depth, .int .i64 p.fuel] 24)) _ _, World.ownsRow_nil _ _ _ _, rfl, fun j h => by simp at h, hb2⟩
  have HF : Hid (SlF w (.slice fa p.fs.length fc) p.fs) := hF
  clear hF
  go_enter Tryd.func13, Tryd.ntmps13
  go_wp2_with fail
  generalize hW0 : ((w.alloc (.cells #[.slice fa p.fs.length fc, .int .i64 p.futs, .int .i64 p.depth, .int .i64 p.fuel] 24)).alloc (.cells #[.slice none 0 0, .int .i64 0, .int .i64 0, .int .i64 0] 24)).alloc (.cells #[.slice none 0 0, .int .i64 p.futs, .int .i64 p.depth, .int .i64 p.fuel] 24) = W0 at *
  clear hW0 hB1 hb1
  go_loopw [4] (fun iv wr => ∃ (i : Nat) (xv : Value) (vals : List Value), i ≤ p.fs.length ∧ iv = .int .i64 i ∧ PW w wr (w.heap.size + 1) (w.heap.size + 2) xv p.futs p.depth p.fuel vals (p.fs.take i) ∧ wr.heap[w.heap.size]? = some (.cells #[.slice fa p.fs.length fc, .int .i64 p.futs, .int .i64 p.depth, .int .i64 p.fuel] 24 (0, 0))) (fun iv _ => p.fs.length - (intOf iv).toNat)
  case atStart => exact ⟨0, _, _, by omega, rfl, hP0, hB2.box⟩
  case round =>
    obtain ⟨i, xv, vals, hi, rfl, hP, hbx⟩ := hrel
    have hB : BoxedP wr w.heap.size fa fc p := ⟨hbx, HF.out.kept hP.below⟩
    have HX : Hid (wr.heap[w.heap.size]? = some (.cells #[.slice fa p.fs.length fc, .int .i64 p.futs, .int .i64 p.depth, .int .i64 p.fuel] 24 (0, 0))) := hbx
    clear hbx
    obtain ⟨d0, d1, d2, d3⟩ := hB.cells
    have hzP := lt_of_block hP.box
    have hvl : vals.length = i := by rw [hP.len, List.length_take]; omega
    have HV : Hid (vals.length = i) := hvl
    clear hvl
    by_cases hlt : i < p.fs.length
    · obtain ⟨fa', fc', he, hfx⟩ := hB.fns
      obtain ⟨rfl, rfl⟩ : fa' = fa ∧ fc' = fc := by simp at he; exact ⟨he.1.symm, he.2.symm⟩
      clear he
      obtain ⟨g, f, u, rfl, hc, hI⟩ := hfx i hlt
      have hI0 := hI
      obtain ⟨xa, xc, rfl, -⟩ := hI0
      have hmi := hm _ (List.getElem_mem hlt)
      have hvb : vals.length ≤ 15 := by rw [HV.out]; omega
      clear hfx
      have x0 := cell_of_row wr _ 0 _ _ _ hP.box
      simp at x0
      go_wp2_with fail
      have hID : SlI wr.drew (.slice xa p.fs[i].length xc) p.fs[i] := hI.still fun a v h => h
      clear hI
      go_region_law (first | (refine step_copy _ rfl (.const (.slice none 0 0)) (.tmp 25) rfl (.slice xa p.fs[i].length xc) p.fs[i] (by simp [Act.eval]) (by simp [Act.eval]) hID (by omega) ?_; intro va vc w1 hown1 hb1'; have hb1 : Below wr.heap.size wr w1 := below_then ((Below.refl _ _).drew) hb1'; have x1 := still_of_below hb1 _ _ x0; have x1a := fun o : Obj => still_alloc w1 o _ _ x1; have hP1 := hP.kept hb1; have hrow1 := hP1.row; have hz1 := lt_of_block hP1.box) | (refine step_append_lies _ rfl (.tmp 20) (.tmp 27) 22 rfl (w.heap.size + 2 + 1) 55 i1 (.slice none 0 0) 1 24 Tryd.underlying22 ki kz0 kz1 kz2 rfl (by decide) xv vals.length vals (by simp [Act.eval]) (hrow1.alloc _) ⟨w1.heap.size, 0, none⟩ 1 1 [.slice va p.fs[i].length vc] (by simp [Act.eval]) rfl (one_new _ _ _) (by intro u hu; simp at hu; subst hu; rfl) (by omega) (by unfold maxLen; omega) (by omega) (by simp; omega) _ rfl ?_; intro g7 cap7 w7 hown7 hgrow7 hat7 hlt7; have b7 := (hgrow7.block _ (by simp; omega) (fun e => by have := hrow1.lt _ e.symm; omega)).trans ((Below.heap_alloc _ _ _ hz1).trans hP1.box); have c7 := cell_of_row w7 _ 0 _ _ _ b7; simp at c7; have f7 := frozen_of_row w7 _ 0 _ _ b7))
      all_goals
        have hPn := hP.push (below_alloc hb1 _) (B := wr.heap.size) hzP (hown1.alloc (.cells #[.slice va p.fs[i].length vc] 55)) hgrow7 hown7
        have hbx : (w7.setCell ⟨w.heap.size + 2, 0, none⟩ (.slice (some ⟨g7, 0, none⟩) (vals.length + 1) cap7)).heap[w.heap.size]? = some _ := (Below.heap_setCell _ _ _ _ (by simp)).trans ((hgrow7.block _ (by simp; omega) (fun e => by have := hrow1.lt _ e.symm; omega)).trans ((Below.heap_alloc _ _ _ (by omega)).trans ((hb1.block _ (by omega)).trans HX.out)))
        clear hgrow7 hown7 hown1 hrow1 hP1 b7 c7 f7 x1 x1a
        go_wp2_with fail
        go_roundw
        case rel => exact ⟨i + 1, _, _, by omega, by go_num, by rw [List.take_succ_eq_append_getElem hlt]; exact hPn, hbx⟩
        case measure => simp [intOf]; omega
    · have hii : i = p.fs.length := by omega
      have b0 := cell_of_row wr _ 0 _ _ _ hP.box
      have b1 := cell_of_row wr _ 1 _ _ _ hP.box
      have b2 := cell_of_row wr _ 2 _ _ _ hP.box
      have b3 := cell_of_row wr _ 3 _ _ _ hP.box
      have r0 := cell_of_row wr _ 0 _ _ _ hP.res
      have r1 := cell_of_row wr _ 1 _ _ _ hP.res
      have r2 := cell_of_row wr _ 2 _ _ _ hP.res
      have r3 := cell_of_row wr _ 3 _ _ _ hP.res
      have f0 := frozen_of_row wr _ 0 _ _ hP.res
      have f1 := frozen_of_row wr _ 1 _ _ hP.res
      have f2 := frozen_of_row wr _ 2 _ _ hP.res
      have f3 := frozen_of_row wr _ 3 _ _ hP.res
      simp at b0 b1 b2 b3 r0 r1 r2 r3
      rw [hii, List.take_length] at hP
      have hvl : vals.length = p.fs.length := hP.len
      obtain ⟨ya, yl, yc, hxv, hyl⟩ : ∃ ya yl yc, xv = .slice ya yl yc ∧ yl = vals.length := by
        rcases hP.row.2 with ⟨h, h0⟩ | ⟨g, cap, cur, h, _⟩
        · exact ⟨_, _, _, h, h0.symm⟩
        · exact ⟨_, _, _, h, rfl⟩
      rw [hvl] at hyl
      subst hxv hyl
      have hSl : SlF ((((wr.setCell ⟨w.heap.size + 1, 0, none⟩ (.slice ya p.fs.length yc)).setCell ⟨w.heap.size + 1, 1, none⟩ (.int .i64 p.futs)).setCell ⟨w.heap.size + 1, 2, none⟩ (.int .i64 p.depth)).setCell ⟨w.heap.size + 1, 3, none⟩ (.int .i64 p.fuel)) (.slice ya p.fs.length yc) p.fs := hP.slF fun b h1 h2 => by
        rw [Below.heap_setCell _ _ _ _ (by simp; omega), Below.heap_setCell _ _ _ _ (by simp; omega), Below.heap_setCell _ _ _ _ (by simp; omega), Below.heap_setCell _ _ _ _ (by simp; omega)]
      have hBl : Below w.heap.size w ((((wr.setCell ⟨w.heap.size + 1, 0, none⟩ (.slice ya p.fs.length yc)).setCell ⟨w.heap.size + 1, 1, none⟩ (.int .i64 p.futs)).setCell ⟨w.heap.size + 1, 2, none⟩ (.int .i64 p.depth)).setCell ⟨w.heap.size + 1, 3, none⟩ (.int .i64 p.fuel)) := (((hP.below.setCell (p := ⟨w.heap.size + 1, 0, none⟩) (by simp) _).setCell (p := ⟨w.heap.size + 1, 1, none⟩) (by simp) _).setCell (p := ⟨w.heap.size + 1, 2, none⟩) (by simp) _).setCell (p := ⟨w.heap.size + 1, 3, none⟩) (by simp) _
      clear hP hvl hii
      go_wp2_with fail
      exact bodyPost_ret (v := .agg #[.slice ya p.fs.length yc, .int .i64 p.futs, .int .i64 p.depth, .int .i64 p.fuel]) (by simp [results, Tryd.results13, go_sem, r0, r1, r2, r3]) rfl ⟨_, _, rfl, hSl, hBl⟩
end Go.Proofs.YtpmapdialjdcbaaDoor.C2
namespace Go.Proofs.YtpmapdialjdcbaaDoor.V5
open Go.RowKit
open C2 (In Pr SlF SlI InsAt Tab BoxedP below_alloc below_then still_of_below Still putE)

def pA : Pr := ⟨[[⟨15, 0, 0, 0⟩]], 0, 0, 1⟩
def pN : Pr := ⟨[], 0, 0, 1⟩
theorem pA_code : checkF pA = 0 := by decide +kernel
theorem pN_code : checkF pN = 5 := by decide +kernel
theorem pA_lies (w : World) : SlF ((w.alloc (.cells #[.int .i64 15, .int .i64 0, .int .i64 0, .int .i64 0] 54)).alloc (.cells #[.slice (some ⟨w.heap.size, 0, none⟩) 1 1] 55)) (.slice (some ⟨w.heap.size + 1, 0, none⟩) 1 1) pA.fs := by
  have h0 : ((w.alloc (.cells #[.int .i64 15, .int .i64 0, .int .i64 0, .int .i64 0] 54)).alloc (.cells #[.slice (some ⟨w.heap.size, 0, none⟩) 1 1] 55)).heap[w.heap.size]? = some (.cells #[.int .i64 15, .int .i64 0, .int .i64 0, .int .i64 0] 54 (0, 0)) := heap_alloc2_old _ _ _
  have h1 : ((w.alloc (.cells #[.int .i64 15, .int .i64 0, .int .i64 0, .int .i64 0] 54)).alloc (.cells #[.slice (some ⟨w.heap.size, 0, none⟩) 1 1] 55)).heap[w.heap.size + 1]? = some (.cells #[.slice (some ⟨w.heap.size, 0, none⟩) 1 1] 55 (0, 0)) := heap_alloc2_new _ _ _
  refine ⟨_, _, rfl, fun k hk => ?_⟩
  obtain rfl : k = 0 := by simp [pA] at hk; exact hk
  refine ⟨_, _, .slice (some ⟨w.heap.size, 0, none⟩) 1 1, rfl, by rw [cell_of_row _ _ _ _ _ _ h1]; rfl, ?_⟩
  refine ⟨_, _, rfl, fun j hj => ?_⟩
  obtain rfl : j = 0 := by simp [pA] at hj; exact hj
  refine ⟨_, _, rfl, ?_⟩
  constructor <;> rw [cell_of_row _ _ _ _ _ _ h0] <;> rfl
theorem same_same (v u : Value) (xs : List Int) (w : World) (hv : SlN w v xs) (hu : SlN w u xs) (hx : xs.length ≤ 1000000) :
    Calls Tryd.prog 17 #[v, u] w fun e w' => e = .returned (.bool true) ∧ Below w.heap.size w w' := by
  have h := sameInts_any v u xs xs w hv hu hx hx
  rw [decide_eq_true rfl] at h
  exact h
end Go.Proofs.YtpmapdialjdcbaaDoor.V5
