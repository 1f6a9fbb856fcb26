/-
  Helpers: C2Copy2, Va, Vall.
-/
import Derived.Test.YtnhogbgnnnniaaaDoorValidAllBun14
import Derived.Test.YtnhogbgnnnniaaaDoorValidAllBun16
import Derived.Test.YtnhogbgnnnniaaaDoorValidAllBun10
import Derived.Test.YtnhogbgnnnniaaaDoorValidAllBun13
import Derived.Test.YtnhogbgnnnniaaaDoorValidAllBun11
namespace Go.Proofs.YtnhogbgnnnniaaaDoor.C2
open Go.RowKit

def CopyPost (p : Pr) (w : World) (e : Ending) (w' : World) : Prop := ∃ fa fc, e = .returned (.agg #[.slice fa p.fs.length fc, .int .i64 p.futs, .int .i64 p.depth, .int .i64 p.fuel]) ∧ SlF w' (.slice fa p.fs.length fc) p.fs ∧ Below w.heap.size w w'
set_option maxHeartbeats 2000000 in
theorem copy_any (p : Pr) (fv : Value) (w : World) (hF : SlF w fv p.fs) (hl : p.fs.length ≤ 15) (hm : ∀ f ∈ p.fs, f.length ≤ 45) :
    Calls Tryd.prog 13 #[.agg #[fv, .int .i64 p.futs, .int .i64 p.depth, .int .i64 p.fuel]] w fun e w' => CopyPost p w e w' := by
  obtain ⟨i1, ki, kz0, kz1, kz2⟩ := info_parts infoFns
  have hF0 := hF
  obtain ⟨fa, fc, rfl, -⟩ := hF0
  have hB1 := BoxedP.made hF
  have hb1 := below_alloc (Below.refl w.heap.size w) (.cells #[.slice fa p.fs.length fc, .int .i64 p.futs, .int .i64 p.depth, .int .i64 p.fuel] 24)
  have hb2 := below_alloc (below_alloc hb1 (.cells #[.slice none 0 0, .int .i64 0, .int .i64 0, .int .i64 0] 24)) (.cells #[.slice none 0 0, .int .i64 p.futs, .int .i64 p.depth, .int .i64 p.fuel] 24)
  have hB2 := (hB1.kept (below_alloc (Below.refl _ _) (.cells #[.slice none 0 0, .int .i64 0, .int .i64 0, .int .i64 0] 24))).kept (below_alloc (Below.refl _ _) (.cells #[.slice none 0 0, .int .i64 p.futs, .int .i64 p.depth, .int .i64 p.fuel] 24))
  have hP0 : PW w (((w.alloc (.cells #[.slice fa p.fs.length fc, .int .i64 p.futs, .int .i64 p.depth, .int .i64 p.fuel] 24)).alloc (.cells #[.slice none 0 0, .int .i64 0, .int .i64 0, .int .i64 0] 24)).alloc (.cells #[.slice none 0 0, .int .i64 p.futs, .int .i64 p.depth, .int .i64 p.fuel] 24)) (w.heap.size + 1) (w.heap.size + 2) (.slice none 0 0) p.futs p.depth p.fuel [] [] :=
    ⟨by omega, by omega, by simpa using heap_alloc2_old (w.alloc (.cells #[.slice fa p.fs.length fc, .int .i64 p.futs, .int .i64 p.depth, .int .i64 p.fuel] 24)) _ _, by simpa using heap_alloc2_new (w.alloc (.cells #[.slice fa p.fs.length fc, .int .i64 p.futs, .int .i64 p.depth, .int .i64 p.fuel] 24)) _ _, World.ownsRow_nil _ _ _ _, rfl, fun j h => by simp at h, hb2⟩
  have HF : Hid (SlF w (.slice fa p.fs.length fc) p.fs) := hF
  clear hF
  go_enter Tryd.func13, Tryd.ntmps13
  go_wp2_with fail
  generalize hW0 : ((w.alloc (.cells #[.slice fa p.fs.length fc, .int .i64 p.futs, .int .i64 p.depth, .int .i64 p.fuel] 24)).alloc (.cells #[.slice none 0 0, .int .i64 0, .int .i64 0, .int .i64 0] 24)).alloc (.cells #[.slice none 0 0, .int .i64 p.futs, .int .i64 p.depth, .int .i64 p.fuel] 24) = W0 at *
  clear hW0 hB1 hb1
  go_loopw [4] (fun iv wr => ∃ (i : Nat) (xv : Value) (vals : List Value), i ≤ p.fs.length ∧ iv = .int .i64 i ∧ PW w wr (w.heap.size + 1) (w.heap.size + 2) xv p.futs p.depth p.fuel vals (p.fs.take i) ∧ wr.heap[w.heap.size]? = some (.cells #[.slice fa p.fs.length fc, .int .i64 p.futs, .int .i64 p.depth, .int .i64 p.fuel] 24 (0, 0))) (fun iv _ => p.fs.length - (intOf iv).toNat)
  case atStart => exact ⟨0, _, _, by omega, rfl, hP0, hB2.box⟩
  case round =>
    obtain ⟨i, xv, vals, hi, rfl, hP, hbx⟩ := hrel
    have hB : BoxedP wr w.heap.size fa fc p := ⟨hbx, HF.out.kept hP.below⟩
    have HX : Hid (wr.heap[w.heap.size]? = some (.cells #[.slice fa p.fs.length fc, .int .i64 p.futs, .int .i64 p.depth, .int .i64 p.fuel] 24 (0, 0))) := hbx
    clear hbx
    obtain ⟨d0, d1, d2, d3⟩ := hB.cells
    have hzP := lt_of_block hP.box
    have hvl : vals.length = i := by rw [hP.len, List.length_take]; omega
    have HV : Hid (vals.length = i) := hvl
    clear hvl
    by_cases hlt : i < p.fs.length
    · obtain ⟨fa', fc', he, hfx⟩ := hB.fns
      obtain ⟨rfl, rfl⟩ : fa' = fa ∧ fc' = fc := by simp at he; exact ⟨he.1.symm, he.2.symm⟩
      clear he
      obtain ⟨g, f, u, rfl, hc, hI⟩ := hfx i hlt
      have hI0 := hI
      obtain ⟨xa, xc, rfl, -⟩ := hI0
      have hmi := hm _ (List.getElem_mem hlt)
      have hvb : vals.length ≤ 15 := by rw [HV.out]; omega
      clear hfx
      have x0 := cell_of_row wr _ 0 _ _ _ hP.box
      simp at x0
      go_wp2_with fail
      have hID : SlI wr.drew (.slice xa p.fs[i].length xc) p.fs[i] := hI.still fun a v h => h
      clear hI
      go_region_law (first | (refine step_copy _ rfl (.const (.slice none 0 0)) (.tmp 25) rfl (.slice xa p.fs[i].length xc) p.fs[i] (by simp [Act.eval]) (by simp [Act.eval]) hID (by omega) ?_; intro va vc w1 hown1 hb1'; have hb1 : Below wr.heap.size wr w1 := below_then ((Below.refl _ _).drew) hb1'; have x1 := still_of_below hb1 _ _ x0; have x1a := fun o : Obj => still_alloc w1 o _ _ x1; have hP1 := hP.kept hb1; have hrow1 := hP1.row; have hz1 := lt_of_block hP1.box) | (refine step_append_lies _ rfl (.tmp 20) (.tmp 27) 22 rfl (w.heap.size + 2 + 1) 39 i1 (.slice none 0 0) 1 24 Tryd.underlying22 ki kz0 kz1 kz2 rfl (by decide) xv vals.length vals (by simp [Act.eval]) (hrow1.alloc _) ⟨w1.heap.size, 0, none⟩ 1 1 [.slice va p.fs[i].length vc] (by simp [Act.eval]) rfl (one_new _ _ _) (by intro u hu; simp at hu; subst hu; rfl) (by omega) (by unfold maxLen; omega) (by omega) (by simp; omega) _ rfl ?_; intro g7 cap7 w7 hown7 hgrow7 hat7 hlt7; have b7 := (hgrow7.block _ (by simp; omega) (fun e => by have := hrow1.lt _ e.symm; omega)).trans ((Below.heap_alloc _ _ _ hz1).trans hP1.box); have c7 := cell_of_row w7 _ 0 _ _ _ b7; simp at c7; have f7 := frozen_of_row w7 _ 0 _ _ b7))
      all_goals
        have hPn := hP.push (below_alloc hb1 _) (B := wr.heap.size) hzP (hown1.alloc (.cells #[.slice va p.fs[i].length vc] 39)) hgrow7 hown7
        have hbx : (w7.setCell ⟨w.heap.size + 2, 0, none⟩ (.slice (some ⟨g7, 0, none⟩) (vals.length + 1) cap7)).heap[w.heap.size]? = some _ := (Below.heap_setCell _ _ _ _ (by simp)).trans ((hgrow7.block _ (by simp; omega) (fun e => by have := hrow1.lt _ e.symm; omega)).trans ((Below.heap_alloc _ _ _ (by omega)).trans ((hb1.block _ (by omega)).trans HX.out)))
        clear hgrow7 hown7 hown1 hrow1 hP1 b7 c7 f7 x1 x1a
        go_wp2_with fail
        go_roundw
        case rel => exact ⟨i + 1, _, _, by omega, by go_num, by rw [List.take_succ_eq_append_getElem hlt]; exact hPn, hbx⟩
        case measure => simp [intOf]; omega
    · have hii : i = p.fs.length := by omega
      have b0 := cell_of_row wr _ 0 _ _ _ hP.box
      have b1 := cell_of_row wr _ 1 _ _ _ hP.box
      have b2 := cell_of_row wr _ 2 _ _ _ hP.box
      have b3 := cell_of_row wr _ 3 _ _ _ hP.box
      have r0 := cell_of_row wr _ 0 _ _ _ hP.res
      have r1 := cell_of_row wr _ 1 _ _ _ hP.res
      have r2 := cell_of_row wr _ 2 _ _ _ hP.res
      have r3 := cell_of_row wr _ 3 _ _ _ hP.res
      have f0 := frozen_of_row wr _ 0 _ _ hP.res
      have f1 := frozen_of_row wr _ 1 _ _ hP.res
      have f2 := frozen_of_row wr _ 2 _ _ hP.res
      have f3 := frozen_of_row wr _ 3 _ _ hP.res
      simp at b0 b1 b2 b3 r0 r1 r2 r3
      rw [hii, List.take_length] at hP
      have hvl : vals.length = p.fs.length := hP.len
      obtain ⟨ya, yl, yc, hxv, hyl⟩ : ∃ ya yl yc, xv = .slice ya yl yc ∧ yl = vals.length := by
        rcases hP.row.2 with ⟨h, h0⟩ | ⟨g, cap, cur, h, _⟩
        · exact ⟨_, _, _, h, h0.symm⟩
        · exact ⟨_, _, _, h, rfl⟩
      rw [hvl] at hyl
      subst hxv hyl
      have hSl : SlF ((((wr.setCell ⟨w.heap.size + 1, 0, none⟩ (.slice ya p.fs.length yc)).setCell ⟨w.heap.size + 1, 1, none⟩ (.int .i64 p.futs)).setCell ⟨w.heap.size + 1, 2, none⟩ (.int .i64 p.depth)).setCell ⟨w.heap.size + 1, 3, none⟩ (.int .i64 p.fuel)) (.slice ya p.fs.length yc) p.fs := hP.slF fun b h1 h2 => by
        rw [Below.heap_setCell _ _ _ _ (by simp; omega), Below.heap_setCell _ _ _ _ (by simp; omega), Below.heap_setCell _ _ _ _ (by simp; omega), Below.heap_setCell _ _ _ _ (by simp; omega)]
      have hBl : Below w.heap.size w ((((wr.setCell ⟨w.heap.size + 1, 0, none⟩ (.slice ya p.fs.length yc)).setCell ⟨w.heap.size + 1, 1, none⟩ (.int .i64 p.futs)).setCell ⟨w.heap.size + 1, 2, none⟩ (.int .i64 p.depth)).setCell ⟨w.heap.size + 1, 3, none⟩ (.int .i64 p.fuel)) := (((hP.below.setCell (p := ⟨w.heap.size + 1, 0, none⟩) (by simp) _).setCell (p := ⟨w.heap.size + 1, 1, none⟩) (by simp) _).setCell (p := ⟨w.heap.size + 1, 2, none⟩) (by simp) _).setCell (p := ⟨w.heap.size + 1, 3, none⟩) (by simp) _
      clear hP hvl hii
      go_wp2_with fail
      exact bodyPost_ret (v := .agg #[.slice ya p.fs.length yc, .int .i64 p.futs, .int .i64 p.depth, .int .i64 p.fuel]) (by simp [results, Tryd.results13, go_sem, r0, r1, r2, r3]) rfl ⟨_, _, rfl, hSl, hBl⟩
end Go.Proofs.YtnhogbgnnnniaaaDoor.C2
namespace Go.Proofs.YtnhogbgnnnniaaaDoor
open Go.RowKit
open C2 (In Pr SlF SlI InsAt Tab BoxedP below_alloc below_then still_of_below Still putE)

def pA : Pr := ⟨[[⟨15, 0, 0, 0⟩]], 0, 0, 1⟩
def pN : Pr := ⟨[], 0, 0, 1⟩
theorem pA_code : checkF pA = 0 := by decide +kernel
theorem pN_code : checkF pN = 5 := by decide +kernel
theorem pA_lies (w : World) : SlF ((w.alloc (.cells #[.int .i64 15, .int .i64 0, .int .i64 0, .int .i64 0] 42)).alloc (.cells #[.slice (some ⟨w.heap.size, 0, none⟩) 1 1] 39)) (.slice (some ⟨w.heap.size + 1, 0, none⟩) 1 1) pA.fs := by
  have h0 : ((w.alloc (.cells #[.int .i64 15, .int .i64 0, .int .i64 0, .int .i64 0] 42)).alloc (.cells #[.slice (some ⟨w.heap.size, 0, none⟩) 1 1] 39)).heap[w.heap.size]? = some (.cells #[.int .i64 15, .int .i64 0, .int .i64 0, .int .i64 0] 42 (0, 0)) := heap_alloc2_old _ _ _
  have h1 : ((w.alloc (.cells #[.int .i64 15, .int .i64 0, .int .i64 0, .int .i64 0] 42)).alloc (.cells #[.slice (some ⟨w.heap.size, 0, none⟩) 1 1] 39)).heap[w.heap.size + 1]? = some (.cells #[.slice (some ⟨w.heap.size, 0, none⟩) 1 1] 39 (0, 0)) := heap_alloc2_new _ _ _
  refine ⟨_, _, rfl, fun k hk => ?_⟩
  obtain rfl : k = 0 := by simp [pA] at hk; exact hk
  refine ⟨_, _, .slice (some ⟨w.heap.size, 0, none⟩) 1 1, rfl, by rw [cell_of_row _ _ _ _ _ _ h1]; rfl, ?_⟩
  refine ⟨_, _, rfl, fun j hj => ?_⟩
  obtain rfl : j = 0 := by simp [pA] at hj; exact hj
  refine ⟨_, _, rfl, ?_⟩
  constructor <;> rw [cell_of_row _ _ _ _ _ _ h0] <;> rfl
theorem awake_any (w : World) (hT : Tab w) : Calls Tryd.prog 15 #[] w fun e w' => e = .returned (.bool true) ∧ Below w.heap.size w w' := by
  have hb1 := below_alloc (below_alloc (Below.refl w.heap.size w) (.cells #[.int .i64 15, .int .i64 0, .int .i64 0, .int .i64 0] 42)) (.cells #[.slice (some ⟨w.heap.size, 0, none⟩) 1 1] 39)
  have h1 := Check_any pA _ _ (hT.below hb1) (pA_lies w) (by simp [pA]) (by simp [pA])
  rw [pA_code] at h1
  have h2 : ∀ w, Tab w → Calls Tryd.prog 16 #[.agg #[.slice none 0 0, .int .i64 0, .int .i64 0, .int .i64 1]] w fun e w' => e = .returned (.int .i64 5) ∧ Below w.heap.size w w' := fun w hT => by
    have h := Check_any pN (.slice none 0 0) w hT ⟨none, 0, rfl, fun k h => by simp [pN] at h⟩ (by simp [pN]) (by simp [pN])
    rw [pN_code] at h
    exact h
  have H1 : Hid (Calls Tryd.prog 16 #[.agg #[.slice (some ⟨w.heap.size + 1, 0, none⟩) 1 1, .int .i64 0, .int .i64 0, .int .i64 1]] ((w.alloc (.cells #[.int .i64 15, .int .i64 0, .int .i64 0, .int .i64 0] 42)).alloc (.cells #[.slice (some ⟨w.heap.size, 0, none⟩) 1 1] 39)) fun e w' => e = .returned (.int .i64 0) ∧ Below ((w.alloc (.cells #[.int .i64 15, .int .i64 0, .int .i64 0, .int .i64 0] 42)).alloc (.cells #[.slice (some ⟨w.heap.size, 0, none⟩) 1 1] 39)).heap.size ((w.alloc (.cells #[.int .i64 15, .int .i64 0, .int .i64 0, .int .i64 0] 42)).alloc (.cells #[.slice (some ⟨w.heap.size, 0, none⟩) 1 1] 39)) w') := h1
  have H2 : Hid (∀ w, Tab w → Calls Tryd.prog 16 #[.agg #[.slice none 0 0, .int .i64 0, .int .i64 0, .int .i64 1]] w fun e w' => e = .returned (.int .i64 5) ∧ Below w.heap.size w w') := h2
  clear h1 h2
  go_enter Tryd.func15, Tryd.ntmps15
  go_wp2_with fail
  refine H1.out.mono ?_
  rintro e w1 ⟨rfl, hb2⟩
  have hb3 := below_then hb1 hb2
  clear H1
  go_wp2_with fail
  refine (H2.out _ (hT.below hb3)).mono ?_
  rintro e w2 ⟨rfl, hb4⟩
  go_wp2_with fail
  go_ret
  exact ⟨rfl, below_then hb3 hb4⟩
theorem same_same (v u : Value) (xs : List Int) (w : World) (hv : SlN w v xs) (hu : SlN w u xs) (hx : xs.length ≤ 1000000) :
    Calls Tryd.prog 18 #[v, u] w fun e w' => e = .returned (.bool true) ∧ Below w.heap.size w w' := by
  have h := sameInts_any v u xs xs w hv hu hx hx
  rw [decide_eq_true rfl] at h
  exact h
end Go.Proofs.YtnhogbgnnnniaaaDoor
namespace Go.Proofs.YtnhogbgnnnniaaaDoor
open Go.RowKit
open C2 (In Pr SlF SlI InsAt Tab BoxedP below_alloc below_then still_of_below Still putE)

set_option maxHeartbeats 4000000 in
theorem all_walk (p : Pr) (fv : Value) (w : World) (hT : Tab w) (hF : SlF w fv p.fs) (hl : p.fs.length ≤ maxLen) (hm : ∀ f ∈ p.fs, f.length ≤ maxLen) :
    Calls Tryd.prog 4 #[.agg #[fv, .int .i64 p.futs, .int .i64 p.depth, .int .i64 p.fuel]] w fun e w' => e = .returned (.bool true) ∧ Below w.heap.size w w' := by
  have hF0 := hF
  obtain ⟨fa, fc, rfl, -⟩ := hF0
  have hB1 := BoxedP.made hF
  have hb1 := below_alloc (Below.refl w.heap.size w) (.cells #[.slice fa p.fs.length fc, .int .i64 p.futs, .int .i64 p.depth, .int .i64 p.fuel] 24)
  clear hF
  go_enter Tryd.func4, Tryd.ntmps4
  obtain ⟨c0, c1, c2, c3⟩ := hB1.cells
  go_wp2_with fail
  refine (C2.few_any p _ _ hB1.fns hl hm).mono ?_
  rintro e w1 ⟨⟨r, rfl, hr⟩, hb2'⟩
  have hb2 := below_then hb1 hb2'
  have hB2 := hB1.kept hb2'
  clear hb2' hB1 hl hm c0 c1 c2 c3
  cases r
  · clear hr
    go_wp2_with (go_at_call 15; refine (awake_any _ (hT.below hb2)).mono ?_; rintro e w2 ⟨rfl, hb3⟩)
    go_ret
    exact ⟨rfl, below_then hb2 hb3⟩
  · obtain ⟨hn15, hf45⟩ := hr rfl
    have HK : Hid (∀ w', Below w1.heap.size w1 w' → Calls Tryd.prog 13 #[.agg #[.slice fa p.fs.length fc, .int .i64 p.futs, .int .i64 p.depth, .int .i64 p.fuel]] w' fun e w'' => ∃ ga gc, e = .returned (.agg #[.slice ga p.fs.length gc, .int .i64 p.futs, .int .i64 p.depth, .int .i64 p.fuel]) ∧ SlF w'' (.slice ga p.fs.length gc) p.fs ∧ Below w'.heap.size w' w'') := fun w' h => C2.copy_any p _ _ (hB2.kept h).fns hn15 hf45
    have hn : p.fs.length ≤ 1000000 := by omega
    have hm : ∀ f ∈ p.fs, f.length ≤ 1000000 := fun f hf => by have := hf45 f hf; omega
    have hn2 : p.fs.length ≤ 1000 := by omega
    have hm2 : ∀ f ∈ p.fs, f.length ≤ 1000 := fun f hf => by have := hf45 f hf; omega
    have hTT : ∀ w', Below w1.heap.size w1 w' → Tab w' := fun w' h => hT.below (below_then hb2 h)
    obtain ⟨E, hE⟩ : ∃ E, checkF p = E := ⟨_, rfl⟩
    obtain ⟨B, hBc⟩ : ∃ B, cancelsF p.fs = B := ⟨_, rfl⟩
    have HC : Hid (∀ fv w', Below w1.heap.size w1 w' → SlF w' fv p.fs → Calls Tryd.prog 16 #[.agg #[fv, .int .i64 p.futs, .int .i64 p.depth, .int .i64 p.fuel]] w' fun e w'' => e = .returned (.int .i64 E) ∧ Below w'.heap.size w' w'') := fun fv w' h hs => by have := Check_any p fv w' (hTT _ h) hs hn hm; rw [hE] at this; exact this
    have HR : Hid (∀ w', Below w1.heap.size w1 w' → Calls Tryd.prog 17 #[.agg #[.slice fa p.fs.length fc, .int .i64 p.futs, .int .i64 p.depth, .int .i64 p.fuel]] w' fun e w'' => e = .returned (.int .i64 E) ∧ Below w'.heap.size w' w'') := fun w' h => by have := RCheck_any p _ w' (hB2.kept h).fns hn hm; rw [hE] at this; exact this
    have HF : Hid (∀ w', Below w1.heap.size w1 w' → Calls Tryd.prog 19 #[.agg #[.slice fa p.fs.length fc, .int .i64 p.futs, .int .i64 p.depth, .int .i64 p.fuel]] w' fun e w'' => FkPost p w' e w'') := fun w' h => Forks_any p _ w' (hB2.kept h).fns hn2 hm2
    have HG : Hid (∀ w', Below w1.heap.size w1 w' → Calls Tryd.prog 20 #[.agg #[.slice fa p.fs.length fc, .int .i64 p.futs, .int .i64 p.depth, .int .i64 p.fuel]] w' fun e w'' => FkPost p w' e w'') := fun w' h => RForks_any p _ w' (hB2.kept h).fns hn2 hm2
    have HS : Hid (∀ v u w', SlN w' v (forksF p.fs) → SlN w' u (forksF p.fs) → Calls Tryd.prog 18 #[v, u] w' fun e w'' => e = .returned (.bool true) ∧ Below w'.heap.size w' w'') := fun v u w' h1 h2 => same_same v u _ w' h1 h2 (by rw [forksF_length]; exact hn)
    have HX : Hid (∀ w', Below w1.heap.size w1 w' → Calls Tryd.prog 21 #[.agg #[.slice fa p.fs.length fc, .int .i64 p.futs, .int .i64 p.depth, .int .i64 p.fuel]] w' fun e w'' => e = .returned (.bool B) ∧ Below w'.heap.size w' w'') := fun w' h => by have := Cancels_any p _ w' (hB2.kept h).fns hn hm; rw [hBc] at this; exact this
    have HY : Hid (∀ w', Below w1.heap.size w1 w' → Calls Tryd.prog 22 #[.agg #[.slice fa p.fs.length fc, .int .i64 p.futs, .int .i64 p.depth, .int .i64 p.fuel]] w' fun e w'' => e = .returned (.bool B) ∧ Below w'.heap.size w' w'') := fun w' h => by have := RCancels_any p _ w' (hB2.kept h).fns hn2 hm2; rw [hBc] at this; exact this
    have HA : Hid (∀ w', Below w1.heap.size w1 w' → Calls Tryd.prog 15 #[] w' fun e w'' => e = .returned (.bool true) ∧ Below w'.heap.size w' w'') := fun w' h => awake_any w' (hTT _ h)
    have sE : (E == E) = true := by simp
    have sB : (B == B) = true := by simp
    obtain ⟨c0, c1, c2, c3⟩ := hB2.cells
    clear hr hn15 hf45 hn hm hn2 hm2 hTT hE hBc hB2
    go_wp2_with fail
    go_region_held3 (fun w' => w'.cell? ⟨w.heap.size, 0, none⟩ = some (.slice fa p.fs.length fc) ∧ w'.cell? ⟨w.heap.size, 1, none⟩ = some (.int .i64 p.futs) ∧ w'.cell? ⟨w.heap.size, 2, none⟩ = some (.int .i64 p.depth) ∧ w'.cell? ⟨w.heap.size, 3, none⟩ = some (.int .i64 p.fuel)) (first | exact ⟨c0, c1, c2, c3⟩ | exact ⟨c0_10, c1_10, c2_10, c3_10⟩ | exact ⟨c0_9, c1_9, c2_9, c3_9⟩ | exact ⟨c0_8, c1_8, c2_8, c3_8⟩ | exact ⟨c0_7, c1_7, c2_7, c3_7⟩ | exact ⟨c0_6, c1_6, c2_6, c3_6⟩ | exact ⟨c0_5, c1_5, c2_5, c3_5⟩ | exact ⟨c0_4, c1_4, c2_4, c3_4⟩ | exact ⟨c0_3, c1_3, c2_3, c3_3⟩ | exact ⟨c0_2, c1_2, c2_2, c3_2⟩) (first | (go_at_call 13; refine (HK.out _ (Below.refl _ _).drew).mono ?_; rintro e v2 ⟨ga, gc, rfl, sK, b2x⟩; have b2 : Below w1.heap.size w1 v2 := below_then ((Below.refl _ _).drew : Below w1.heap.size w1 w1.drew) b2x; have c0_2 := still_of_below b2 _ _ c0; have c1_2 := still_of_below b2 _ _ c1; have c2_2 := still_of_below b2 _ _ c2; have c3_2 := still_of_below b2 _ _ c3) | (go_at_call 16; refine (HC.out _ _ b2 sK).mono ?_; rintro e v3 ⟨rfl, b3x⟩; have b3 : Below w1.heap.size w1 v3 := below_then b2 b3x; have c0_3 := still_of_below b3 _ _ c0; have c1_3 := still_of_below b3 _ _ c1; have c2_3 := still_of_below b3 _ _ c2; have c3_3 := still_of_below b3 _ _ c3) | (go_at_call 17; refine (HR.out _ b3).mono ?_; rintro e v4 ⟨rfl, b4x⟩; have b4 : Below w1.heap.size w1 v4 := below_then b3 b4x; have c0_4 := still_of_below b4 _ _ c0; have c1_4 := still_of_below b4 _ _ c1; have c2_4 := still_of_below b4 _ _ c2; have c3_4 := still_of_below b4 _ _ c3) | (go_at_call 19; refine (HF.out _ b4).mono ?_; rintro e v5 ⟨ka, kc, rfl, sF, b5x⟩; have b5 : Below w1.heap.size w1 v5 := below_then b4 b5x; have c0_5 := still_of_below b5 _ _ c0; have c1_5 := still_of_below b5 _ _ c1; have c2_5 := still_of_below b5 _ _ c2; have c3_5 := still_of_below b5 _ _ c3) | (go_at_call 20; refine (HG.out _ b5).mono ?_; rintro e v6 ⟨la, lc, rfl, sG, b6x⟩; have b6 : Below w1.heap.size w1 v6 := below_then b5 b6x; have c0_6 := still_of_below b6 _ _ c0; have c1_6 := still_of_below b6 _ _ c1; have c2_6 := still_of_below b6 _ _ c2; have c3_6 := still_of_below b6 _ _ c3) | (go_at_call 18; refine (HS.out _ _ _ (sF.kept b6x) sG).mono ?_; rintro e v7 ⟨rfl, b7x⟩; have b7 : Below w1.heap.size w1 v7 := below_then b6 b7x; have c0_7 := still_of_below b7 _ _ c0; have c1_7 := still_of_below b7 _ _ c1; have c2_7 := still_of_below b7 _ _ c2; have c3_7 := still_of_below b7 _ _ c3) | (go_at_call 21; refine (HX.out _ b7).mono ?_; rintro e v8 ⟨rfl, b8x⟩; have b8 : Below w1.heap.size w1 v8 := below_then b7 b8x; have c0_8 := still_of_below b8 _ _ c0; have c1_8 := still_of_below b8 _ _ c1; have c2_8 := still_of_below b8 _ _ c2; have c3_8 := still_of_below b8 _ _ c3) | (go_at_call 22; refine (HY.out _ b8).mono ?_; rintro e v9 ⟨rfl, b9x⟩; have b9 : Below w1.heap.size w1 v9 := below_then b8 b9x; have c0_9 := still_of_below b9 _ _ c0; have c1_9 := still_of_below b9 _ _ c1; have c2_9 := still_of_below b9 _ _ c2; have c3_9 := still_of_below b9 _ _ c3) | (go_at_call 15; refine (HA.out _ b9).mono ?_; rintro e v10 ⟨rfl, b10x⟩; have b10 : Below w1.heap.size w1 v10 := below_then b9 b10x; have c0_10 := still_of_below b10 _ _ c0; have c1_10 := still_of_below b10 _ _ c1; have c2_10 := still_of_below b10 _ _ c2; have c3_10 := still_of_below b10 _ _ c3))
    all_goals
      go_wp2_with fail
      go_ret
      exact ⟨rfl, below_then hb2 b10⟩
end Go.Proofs.YtnhogbgnnnniaaaDoor
