/-
  Helpers: C2Copy2, Va, CnW.
-/
import Derived.Test.YtnhogbgnnnniaaaDoorValidCountsBun14
import Derived.Test.YtnhogbgnnnniaaaDoorValidCountsBun16
import Derived.Test.YtnhogbgnnnniaaaDoorValidCountsBun10
import Derived.Test.YtnhogbgnnnniaaaDoorValidCountsBun13
import Derived.Test.YtnhogbgnnnniaaaDoorValidCountsBun11
import Derived.Test.YtnhogbgnnnniaaaDoorValidCountsBun15
import Derived.Deep.RegionHeld3
import Derived.BigQuiet
namespace Go.Proofs.YtnhogbgnnnniaaaDoor.C2
open Go.RowKit

def CopyPost (p : Pr) (w : World) (e : Ending) (w' : World) : Prop := ∃ fa fc, e = .returned (.agg #[.slice fa p.fs.length fc, .int .i64 p.futs, .int .i64 p.depth, .int .i64 p.fuel]) ∧ SlF w' (.slice fa p.fs.length fc) p.fs ∧ Below w.heap.size w w'
set_option maxHeartbeats 2000000 in
theorem copy_any (p : Pr) (fv : Value) (w : World) (hF : SlF w fv p.fs) (hl : p.fs.length ≤ 15) (hm : ∀ f ∈ p.fs, f.length ≤ 45) :
    Calls Tryd.prog 13 #[.agg #[fv, .int .i64 p.futs, .int .i64 p.depth, .int .i64 p.fuel]] w fun e w' => CopyPost p w e w' := by
  obtain ⟨i1, ki, kz0, kz1, kz2⟩ := info_parts infoFns
  have hF0 := hF
  obtain ⟨fa, fc, rfl, -⟩ := hF0
  have hB1 := BoxedP.made hF
  have hb1 := below_alloc (Below.refl w.heap.size w) (.cells #[.slice fa p.fs.length fc, .int .i64 p.futs, .int .i64 p.depth, .int .i64 p.fuel] 24)
  have hb2 := below_alloc (below_alloc hb1 (.cells #[.slice none 0 0, .int .i64 0, .int .i64 0, .int .i64 0] 24)) (.cells #[.slice none 0 0, .int .i64 p.futs, .int .i64 p.depth, .int .i64 p.fuel] 24)
  have hB2 := (hB1.kept (below_alloc (Below.refl _ _) (.cells #[.slice none 0 0, .int .i64 0, .int .i64 0, .int .i64 0] 24))).kept (below_alloc (Below.refl _ _) (.cells #[.slice none 0 0, .int .i64 p.futs, .int .i64 p.depth, .int .i64 p.fuel] 24))
  have hP0 : PW w (((w.alloc (.cells #[.slice fa p.fs.length fc, .int .i64 p.futs, .int .i64 p.depth, .int .i64 p.fuel] 24)).alloc (.cells #[.slice none 0 0, .int .i64 0, .int .i64 0, .int .i64 0] 24)).alloc (.cells #[.slice none 0 0, .int .i64 p.futs, .int .i64 p.depth, .int .i64 p.fuel] 24)) (w.heap.size + 1) (w.heap.size + 2) (.slice none 0 0) p.futs p.depth p.fuel [] [] :=
    ⟨by omega, by omega, by simpa using heap_alloc2_old (w.alloc (.cells #[.slice fa p.fs.length fc, .int .i64 p.futs, .int .i64 p.depth, .int .i64 p.fuel] 24)) _ _, by simpa using heap_alloc2_new (w.alloc (.cells #[.slice fa p.fs.length fc, .int .i64 p.futs, .int .i64 p.depth, .int .i64 p.fuel] 24)) _ _, World.ownsRow_nil _ _ _ _, rfl, fun j h => by simp at h, hb2⟩
  have HF : Hid (SlF w (.slice fa p.fs.length fc) p.fs) := hF
  clear hF
  go_enter Tryd.func13, Tryd.ntmps13
  go_wp2_with fail
  generalize hW0 : ((w.alloc (.cells #[.slice fa p.fs.length fc, .int .i64 p.futs, .int .i64 p.depth, .int .i64 p.fuel] 24)).alloc (.cells #[.slice none 0 0, .int .i64 0, .int .i64 0, .int .i64 0] 24)).alloc (.cells #[.slice none 0 0, .int .i64 p.futs, .int .i64 p.depth, .int .i64 p.fuel] 24) = W0 at *
  clear hW0 hB1 hb1
  go_loopw [4] (fun iv wr => ∃ (i : Nat) (xv : Value) (vals : List Value), i ≤ p.fs.length ∧ iv = .int .i64 i ∧ PW w wr (w.heap.size + 1) (w.heap.size + 2) xv p.futs p.depth p.fuel vals (p.fs.take i) ∧ wr.heap[w.heap.size]? = some (.cells #[.slice fa p.fs.length fc, .int .i64 p.futs, .int .i64 p.depth, .int .i64 p.fuel] 24 (0, 0))) (fun iv _ => p.fs.length - (intOf iv).toNat)
  case atStart => exact ⟨0, _, _, by omega, rfl, hP0, hB2.box⟩
  case round =>
    obtain ⟨i, xv, vals, hi, rfl, hP, hbx⟩ := hrel
    have hB : BoxedP wr w.heap.size fa fc p := ⟨hbx, HF.out.kept hP.below⟩
    have HX : Hid (wr.heap[w.heap.size]? = some (.cells #[.slice fa p.fs.length fc, .int .i64 p.futs, .int .i64 p.depth, .int .i64 p.fuel] 24 (0, 0))) := hbx
    clear hbx
    obtain ⟨d0, d1, d2, d3⟩ := hB.cells
    have hzP := lt_of_block hP.box
    have hvl : vals.length = i := by rw [hP.len, List.length_take]; omega
    have HV : Hid (vals.length = i) := hvl
    clear hvl
    by_cases hlt : i < p.fs.length
    · obtain ⟨fa', fc', he, hfx⟩ := hB.fns
      obtain ⟨rfl, rfl⟩ : fa' = fa ∧ fc' = fc := by simp at he; exact ⟨he.1.symm, he.2.symm⟩
      clear he
      obtain ⟨g, f, u, rfl, hc, hI⟩ := hfx i hlt
      have hI0 := hI
      obtain ⟨xa, xc, rfl, -⟩ := hI0
      have hmi := hm _ (List.getElem_mem hlt)
      have hvb : vals.length ≤ 15 := by rw [HV.out]; omega
      clear hfx
      have x0 := cell_of_row wr _ 0 _ _ _ hP.box
      simp at x0
      go_wp2_with fail
      have hID : SlI wr.drew (.slice xa p.fs[i].length xc) p.fs[i] := hI.still fun a v h => h
      clear hI
      go_region_law (first | (refine step_copy _ rfl (.const (.slice none 0 0)) (.tmp 25) rfl (.slice xa p.fs[i].length xc) p.fs[i] (by simp [Act.eval]) (by simp [Act.eval]) hID (by omega) ?_; intro va vc w1 hown1 hb1'; have hb1 : Below wr.heap.size wr w1 := below_then ((Below.refl _ _).drew) hb1'; have x1 := still_of_below hb1 _ _ x0; have x1a := fun o : Obj => still_alloc w1 o _ _ x1; have hP1 := hP.kept hb1; have hrow1 := hP1.row; have hz1 := lt_of_block hP1.box) | (refine step_append_lies _ rfl (.tmp 20) (.tmp 27) 22 rfl (w.heap.size + 2 + 1) 39 i1 (.slice none 0 0) 1 24 Tryd.underlying22 ki kz0 kz1 kz2 rfl (by decide) xv vals.length vals (by simp [Act.eval]) (hrow1.alloc _) ⟨w1.heap.size, 0, none⟩ 1 1 [.slice va p.fs[i].length vc] (by simp [Act.eval]) rfl (one_new _ _ _) (by intro u hu; simp at hu; subst hu; rfl) (by omega) (by unfold maxLen; omega) (by omega) (by simp; omega) _ rfl ?_; intro g7 cap7 w7 hown7 hgrow7 hat7 hlt7; have b7 := (hgrow7.block _ (by simp; omega) (fun e => by have := hrow1.lt _ e.symm; omega)).trans ((Below.heap_alloc _ _ _ hz1).trans hP1.box); have c7 := cell_of_row w7 _ 0 _ _ _ b7; simp at c7; have f7 := frozen_of_row w7 _ 0 _ _ b7))
      all_goals
        have hPn := hP.push (below_alloc hb1 _) (B := wr.heap.size) hzP (hown1.alloc (.cells #[.slice va p.fs[i].length vc] 39)) hgrow7 hown7
        have hbx : (w7.setCell ⟨w.heap.size + 2, 0, none⟩ (.slice (some ⟨g7, 0, none⟩) (vals.length + 1) cap7)).heap[w.heap.size]? = some _ := (Below.heap_setCell _ _ _ _ (by simp)).trans ((hgrow7.block _ (by simp; omega) (fun e => by have := hrow1.lt _ e.symm; omega)).trans ((Below.heap_alloc _ _ _ (by omega)).trans ((hb1.block _ (by omega)).trans HX.out)))
        clear hgrow7 hown7 hown1 hrow1 hP1 b7 c7 f7 x1 x1a
        go_wp2_with fail
        go_roundw
        case rel => exact ⟨i + 1, _, _, by omega, by go_num, by rw [List.take_succ_eq_append_getElem hlt]; exact hPn, hbx⟩
        case measure => simp [intOf]; omega
    · have hii : i = p.fs.length := by omega
      have b0 := cell_of_row wr _ 0 _ _ _ hP.box
      have b1 := cell_of_row wr _ 1 _ _ _ hP.box
      have b2 := cell_of_row wr _ 2 _ _ _ hP.box
      have b3 := cell_of_row wr _ 3 _ _ _ hP.box
      have r0 := cell_of_row wr _ 0 _ _ _ hP.res
      have r1 := cell_of_row wr _ 1 _ _ _ hP.res
      have r2 := cell_of_row wr _ 2 _ _ _ hP.res
      have r3 := cell_of_row wr _ 3 _ _ _ hP.res
      have f0 := frozen_of_row wr _ 0 _ _ hP.res
      have f1 := frozen_of_row wr _ 1 _ _ hP.res
      have f2 := frozen_of_row wr _ 2 _ _ hP.res
      have f3 := frozen_of_row wr _ 3 _ _ hP.res
      simp at b0 b1 b2 b3 r0 r1 r2 r3
      rw [hii, List.take_length] at hP
      have hvl : vals.length = p.fs.length := hP.len
      obtain ⟨ya, yl, yc, hxv, hyl⟩ : ∃ ya yl yc, xv = .slice ya yl yc ∧ yl = vals.length := by
        rcases hP.row.2 with ⟨h, h0⟩ | ⟨g, cap, cur, h, _⟩
        · exact ⟨_, _, _, h, h0.symm⟩
        · exact ⟨_, _, _, h, rfl⟩
      rw [hvl] at hyl
      subst hxv hyl
      have hSl : SlF ((((wr.setCell ⟨w.heap.size + 1, 0, none⟩ (.slice ya p.fs.length yc)).setCell ⟨w.heap.size + 1, 1, none⟩ (.int .i64 p.futs)).setCell ⟨w.heap.size + 1, 2, none⟩ (.int .i64 p.depth)).setCell ⟨w.heap.size + 1, 3, none⟩ (.int .i64 p.fuel)) (.slice ya p.fs.length yc) p.fs := hP.slF fun b h1 h2 => by
        rw [Below.heap_setCell _ _ _ _ (by simp; omega), Below.heap_setCell _ _ _ _ (by simp; omega), Below.heap_setCell _ _ _ _ (by simp; omega), Below.heap_setCell _ _ _ _ (by simp; omega)]
      have hBl : Below w.heap.size w ((((wr.setCell ⟨w.heap.size + 1, 0, none⟩ (.slice ya p.fs.length yc)).setCell ⟨w.heap.size + 1, 1, none⟩ (.int .i64 p.futs)).setCell ⟨w.heap.size + 1, 2, none⟩ (.int .i64 p.depth)).setCell ⟨w.heap.size + 1, 3, none⟩ (.int .i64 p.fuel)) := (((hP.below.setCell (p := ⟨w.heap.size + 1, 0, none⟩) (by simp) _).setCell (p := ⟨w.heap.size + 1, 1, none⟩) (by simp) _).setCell (p := ⟨w.heap.size + 1, 2, none⟩) (by simp) _).setCell (p := ⟨w.heap.size + 1, 3, none⟩) (by simp) _
      clear hP hvl hii
      go_wp2_with fail
      exact bodyPost_ret (v := .agg #[.slice ya p.fs.length yc, .int .i64 p.futs, .int .i64 p.depth, .int .i64 p.fuel]) (by simp [results, Tryd.results13, go_sem, r0, r1, r2, r3]) rfl ⟨_, _, rfl, hSl, hBl⟩
end Go.Proofs.YtnhogbgnnnniaaaDoor.C2
namespace Go.Proofs.YtnhogbgnnnniaaaDoor
open Go.RowKit
open C2 (In Pr SlF SlI InsAt Tab BoxedP below_alloc below_then still_of_below Still putE)

def pA : Pr := ⟨[[⟨15, 0, 0, 0⟩]], 0, 0, 1⟩
def pN : Pr := ⟨[], 0, 0, 1⟩
theorem pA_code : checkF pA = 0 := by decide +kernel
theorem pN_code : checkF pN = 5 := by decide +kernel
theorem pA_lies (w : World) : SlF ((w.alloc (.cells #[.int .i64 15, .int .i64 0, .int .i64 0, .int .i64 0] 42)).alloc (.cells #[.slice (some ⟨w.heap.size, 0, none⟩) 1 1] 39)) (.slice (some ⟨w.heap.size + 1, 0, none⟩) 1 1) pA.fs := by
  have h0 : ((w.alloc (.cells #[.int .i64 15, .int .i64 0, .int .i64 0, .int .i64 0] 42)).alloc (.cells #[.slice (some ⟨w.heap.size, 0, none⟩) 1 1] 39)).heap[w.heap.size]? = some (.cells #[.int .i64 15, .int .i64 0, .int .i64 0, .int .i64 0] 42 (0, 0)) := heap_alloc2_old _ _ _
  have h1 : ((w.alloc (.cells #[.int .i64 15, .int .i64 0, .int .i64 0, .int .i64 0] 42)).alloc (.cells #[.slice (some ⟨w.heap.size, 0, none⟩) 1 1] 39)).heap[w.heap.size + 1]? = some (.cells #[.slice (some ⟨w.heap.size, 0, none⟩) 1 1] 39 (0, 0)) := heap_alloc2_new _ _ _
  refine ⟨_, _, rfl, fun k hk => ?_⟩
  obtain rfl : k = 0 := by simp [pA] at hk; exact hk
  refine ⟨_, _, .slice (some ⟨w.heap.size, 0, none⟩) 1 1, rfl, by rw [cell_of_row _ _ _ _ _ _ h1]; rfl, ?_⟩
  refine ⟨_, _, rfl, fun j hj => ?_⟩
  obtain rfl : j = 0 := by simp [pA] at hj; exact hj
  refine ⟨_, _, rfl, ?_⟩
  constructor <;> rw [cell_of_row _ _ _ _ _ _ h0] <;> rfl
theorem awake_any (w : World) (hT : Tab w) : Calls Tryd.prog 15 #[] w fun e w' => e = .returned (.bool true) ∧ Below w.heap.size w w' := by
  have hb1 := below_alloc (below_alloc (Below.refl w.heap.size w) (.cells #[.int .i64 15, .int .i64 0, .int .i64 0, .int .i64 0] 42)) (.cells #[.slice (some ⟨w.heap.size, 0, none⟩) 1 1] 39)
  have h1 := Check_any pA _ _ (hT.below hb1) (pA_lies w) (by simp [pA]) (by simp [pA])
  rw [pA_code] at h1
  have h2 : ∀ w, Tab w → Calls Tryd.prog 16 #[.agg #[.slice none 0 0, .int .i64 0, .int .i64 0, .int .i64 1]] w fun e w' => e = .returned (.int .i64 5) ∧ Below w.heap.size w w' := fun w hT => by
    have h := Check_any pN (.slice none 0 0) w hT ⟨none, 0, rfl, fun k h => by simp [pN] at h⟩ (by simp [pN]) (by simp [pN])
    rw [pN_code] at h
    exact h
  have H1 : Hid (Calls Tryd.prog 16 #[.agg #[.slice (some ⟨w.heap.size + 1, 0, none⟩) 1 1, .int .i64 0, .int .i64 0, .int .i64 1]] ((w.alloc (.cells #[.int .i64 15, .int .i64 0, .int .i64 0, .int .i64 0] 42)).alloc (.cells #[.slice (some ⟨w.heap.size, 0, none⟩) 1 1] 39)) fun e w' => e = .returned (.int .i64 0) ∧ Below ((w.alloc (.cells #[.int .i64 15, .int .i64 0, .int .i64 0, .int .i64 0] 42)).alloc (.cells #[.slice (some ⟨w.heap.size, 0, none⟩) 1 1] 39)).heap.size ((w.alloc (.cells #[.int .i64 15, .int .i64 0, .int .i64 0, .int .i64 0] 42)).alloc (.cells #[.slice (some ⟨w.heap.size, 0, none⟩) 1 1] 39)) w') := h1
  have H2 : Hid (∀ w, Tab w → Calls Tryd.prog 16 #[.agg #[.slice none 0 0, .int .i64 0, .int .i64 0, .int .i64 1]] w fun e w' => e = .returned (.int .i64 5) ∧ Below w.heap.size w w') := h2
  clear h1 h2
  go_enter Tryd.func15, Tryd.ntmps15
  go_wp2_with fail
  refine H1.out.mono ?_
  rintro e w1 ⟨rfl, hb2⟩
  have hb3 := below_then hb1 hb2
  clear H1
  go_wp2_with fail
  refine (H2.out _ (hT.below hb3)).mono ?_
  rintro e w2 ⟨rfl, hb4⟩
  go_wp2_with fail
  go_ret
  exact ⟨rfl, below_then hb3 hb4⟩
theorem same_same (v u : Value) (xs : List Int) (w : World) (hv : SlN w v xs) (hu : SlN w u xs) (hx : xs.length ≤ 1000000) :
    Calls Tryd.prog 18 #[v, u] w fun e w' => e = .returned (.bool true) ∧ Below w.heap.size w w' := by
  have h := sameInts_any v u xs xs w hv hu hx hx
  rw [decide_eq_true rfl] at h
  exact h
end Go.Proofs.YtnhogbgnnnniaaaDoor
namespace Go.Proofs.YtnhogbgnnnniaaaDoor
open Go.RowKit
open C2 (In Pr SlF SlI InsAt Tab BoxedP OwnP OkPr cellsI insC below_alloc below_then still_of_below Still NumsIn placeI)

def two : List In := [⟨9, 0, 0, 0⟩, ⟨13, 0, 0, 0⟩]
theorem cnt_two (f : List In) : cntF 9 (two ++ f) = cntF 9 f + 1 := by simp [two, cntF]
theorem forks_set {fs : List (List In)} {k : Nat} (hk : k < fs.length) (i : Nat) (hi : i < fs.length) : ((forksF (fs.set k (two ++ fs[k])))[i]'(by simpa [forksF] using hi)) = (forksF fs)[i]'(by simpa [forksF] using hi) + if i = k then 1 else 0 := by
  by_cases e : i = k
  · subst e
    simp [forksF, cnt_two]
  · simp [forksF, List.getElem_set_ne (Ne.symm e), e]
theorem cancels_set {fs : List (List In)} {k : Nat} (hk : k < fs.length) : cancelsF (fs.set k (two ++ fs[k])) = true := by
  unfold cancelsF
  rw [List.any_eq_true]
  exact ⟨_, List.mem_set hk _, by simp [two]⟩
theorem cancels_none {fs : List (List In)} (h : ∀ f ∈ fs, ∀ x ∈ f, x.o ≠ 13) : cancelsF fs = false := by
  unfold cancelsF
  rw [List.any_eq_false]
  intro f hf
  rw [Bool.not_eq_true, List.any_eq_false]
  intro x hx
  simpa using h f hf x hx
/-- a program's rows with another function in one place -/
theorem OwnP_put {w w3 : World} {B : Nat} {gf cf : Nat} {vals : List Value} {fs : List (List In)} (h : OwnP w B (.slice (some ⟨gf, 0, none⟩) fs.length cf) vals fs) {k : Nat} (hk : k < fs.length) (hb : ∀ g, g < w.heap.size → w3.heap[g]? = w.heap[g]?) {v' : Value} {f' : List In} {B' : Nat} (hv : w3.ownsRow B' 42 4 v' f'.length (cellsI f')) : SlF (w3.setCell ⟨gf, k, none⟩ v') (.slice (some ⟨gf, 0, none⟩) fs.length cf) (fs.set k f') := by
  have hl := h.len
  have h3 : OwnP w3 B (.slice (some ⟨gf, 0, none⟩) fs.length cf) vals fs := h.kept fun g _ hg => hb g hg
  have hset : ∀ g, g ≠ gf → (w3.setCell ⟨gf, k, none⟩ v').heap[g]? = w3.heap[g]? := fun g hg => Below.heap_setCell _ _ _ _ hg
  have hgf : (Value.slice (some ⟨gf, 0, none⟩) fs.length cf).ownBlock = some gf := rfl
  rcases h3.row.2 with ⟨hh, -⟩ | ⟨g, cap, cur, he, -, hg, hcap, -, hsz, ht⟩
  · simp at hh
  obtain ⟨rfl, -, rfl⟩ : gf = g ∧ fs.length = vals.length ∧ cf = cap := by simp at he; exact he
  have hg2 := heap_setCell_same w3 gf k cur 39 v' hg
  refine ⟨_, _, by rw [List.length_set], fun j hj => ?_⟩
  have hj1 : j < fs.length := by simpa using hj
  have hjv : j < vals.length := by omega
  by_cases e : k = j
  · subst e
    refine ⟨gf, 0, v', rfl, ?_, ?_⟩
    · rw [Nat.zero_add, cell_of_row _ _ _ _ _ _ hg2, Array.getElem?_setIfInBounds, if_pos rfl, if_pos (by omega)]
    · rw [List.getElem_set_self]
      exact C2.own_slI (base := B') (C2.owns_same hv fun b hb' => hset b fun e => own_not hv hg (by decide) (by rw [hb', e]))
  · refine ⟨gf, 0, vals[j], rfl, ?_, ?_⟩
    · rw [Nat.zero_add, cell_of_row _ _ _ _ _ _ hg2, Array.getElem?_setIfInBounds, if_neg e]
      have : cur[j]? = vals[j]? := by rw [← ht, List.getElem?_take, if_pos (by omega), Array.getElem?_toList]
      rw [this, List.getElem?_eq_getElem hjv]
    · rw [List.getElem_set_ne e]
      have ho := h3.fns j hjv hj1
      exact C2.own_slI (base := B) (C2.owns_same ho fun b hb' => hset b fun e => own_not ho hg (by decide) (by rw [hb', e]))
set_option maxRecDepth 4000 in
set_option maxHeartbeats 4000000 in
theorem counts_walk (nv : Value) (len : Nat) (a1 : Int) (w : World) (hT : Tab w) (hn : NumsIn w nv len) (hl : len ≤ 9223372036854775807) :
    Calls Tryd.prog 6 #[nv, .int .i64 a1] w fun e w' => e = .returned (.bool true) ∧ Below w.heap.size w w' := by
  obtain ⟨ad, cap, rfl, hn1, hn2, hn3⟩ := hn
  by_cases h100 : 100 < len
  · have hd : decide ((100 : Int) < (len : Int)) = true := by simp; omega
    go_enter Tryd.func6, Tryd.ntmps6
    go_wp2_with (go_at_call 15; refine (awake_any _ hT).mono ?_; rintro e w1 ⟨rfl, hb1⟩)
    go_ret
    exact ⟨rfl, hb1⟩
  have hd : decide ((100 : Int) < (len : Int)) = false := by simp; omega
  obtain ⟨i0, hi', hz0, hz1', hz2⟩ := info_parts C2.infoIns
  go_enter Tryd.func6, Tryd.ntmps6
  go_wp2_with fail
  refine (C2.prog_own _ false w ⟨ad, len, cap, rfl, hn1, hn2, hn3⟩).mono ?_
  rintro e w1 ⟨p, fv, vals, hok, hnc, rfl, hO, hb1⟩
  have hsome := hok.some
  have hfew := hok.few
  have HNC : Hid (cancelsF p.fs = false) := cancels_none (hnc rfl)
  obtain ⟨gf, cf, rfl, hgf, -⟩ := OwnP_row hO (by omega)
  have hB1 := BoxedP.made hO.slF
  have hb2 := below_alloc hb1 (.cells #[.slice (some ⟨gf, 0, none⟩) p.fs.length cf, .int .i64 p.futs, .int .i64 p.depth, .int .i64 p.fuel] 24)
  have hO2 : OwnP (w1.alloc (.cells #[.slice (some ⟨gf, 0, none⟩) p.fs.length cf, .int .i64 p.futs, .int .i64 p.depth, .int .i64 p.fuel] 24)) (w.heap.size + 1) (.slice (some ⟨gf, 0, none⟩) p.fs.length cf) vals p.fs := hO.kept fun g _ hg => Below.heap_alloc _ _ _ hg
  have hz1 := hb1.size
  have hns : ∀ f ∈ p.fs, f.length ≤ 11 := fun f hf => (hok.fns f hf).2.1
  clear hO hn1 hn2 hn3 hnc hb1
  go_wp2_with fail
  generalize hWb : w1.alloc (.cells #[.slice (some ⟨gf, 0, none⟩) p.fs.length cf, .int .i64 p.futs, .int .i64 p.depth, .int .i64 p.fuel] 24) = Wb at *
  clear hWb
  obtain ⟨d0, d1, d2, d3⟩ := hB1.cells
  have HF : Hid (∀ w', Below Wb.heap.size Wb w' → Calls Tryd.prog 19 #[.agg #[.slice (some ⟨gf, 0, none⟩) p.fs.length cf, .int .i64 p.futs, .int .i64 p.depth, .int .i64 p.fuel]] w' fun e w'' => FkPost p w' e w'') := fun w' h => Forks_any p _ w' (hB1.kept h).fns (by omega) fun f hf => by have := hns f hf; omega
  have HX : Hid (∀ w', Below Wb.heap.size Wb w' → Calls Tryd.prog 21 #[.agg #[.slice (some ⟨gf, 0, none⟩) p.fs.length cf, .int .i64 p.futs, .int .i64 p.depth, .int .i64 p.fuel]] w' fun e w'' => e = .returned (.bool false) ∧ Below w'.heap.size w' w'') := fun w' h => (by have h2 := Cancels_any p _ w' (hB1.kept h).fns (by omega) (fun f hf => by have := hns f hf; omega); rw [HNC.out] at h2; exact h2)
  go_region_held3 (fun w' => w'.cell? ⟨w1.heap.size, 0, none⟩ = some (.slice (some ⟨gf, 0, none⟩) p.fs.length cf) ∧ w'.cell? ⟨w1.heap.size, 1, none⟩ = some (.int .i64 p.futs) ∧ w'.cell? ⟨w1.heap.size, 2, none⟩ = some (.int .i64 p.depth) ∧ w'.cell? ⟨w1.heap.size, 3, none⟩ = some (.int .i64 p.fuel)) (first | exact ⟨d0, d1, d2, d3⟩ | exact ⟨e20, e21, e22, e23⟩ | exact ⟨e30, e31, e32, e33⟩) (first | (go_at_call 19; refine (HF.out _ (Below.refl _ _).drew).mono ?_; rintro e w2 ⟨ka, kc, rfl, sF, b2x⟩; have b2 : Below Wb.heap.size Wb w2 := below_then ((Below.refl _ _).drew : Below Wb.heap.size Wb Wb.drew) b2x; have e20 := still_of_below b2 _ _ d0; have e21 := still_of_below b2 _ _ d1; have e22 := still_of_below b2 _ _ d2; have e23 := still_of_below b2 _ _ d3) | (go_at_call 21; refine (HX.out _ b2).mono ?_; rintro e w3 ⟨rfl, b3x⟩; have b3 : Below Wb.heap.size Wb w3 := below_then b2 b3x; have e30 := still_of_below b3 _ _ d0; have e31 := still_of_below b3 _ _ d1; have e32 := still_of_below b3 _ _ d2; have e33 := still_of_below b3 _ _ d3))
  have hO3 := hO2.kept (w' := w3) fun g _ hg => b3.block g hg
  have hB3 := hB1.kept b3
  have sF3 := sF.kept b3x
  have hb3 := below_then hb2 b3
  clear sF b3x b2x b2 b3 hO2 hB1 e20 e21 e22 e23 HF HX d0 d1 d2 d3 hb2
  obtain ⟨i, hi⟩ : ∃ i : Nat, placeI a1 p.fs.length = i := ⟨(placeI a1 p.fs.length).toNat, by have := C2.placeI_bd a1 p.fs.length (by omega); omega⟩
  have hil : i < p.fs.length := by have := C2.placeI_bd a1 p.fs.length (by omega); omega
  have hfi := hok.fns _ (List.getElem_mem hil)
  have hf2 := hfi.1
  have hf11 := hfi.2.1
  have HP1 : Hid (∀ w', Calls Tryd.prog 24 #[.int .i64 a1, .int .i64 p.fs.length] w' fun e w'' => e = .returned (.int .i64 i) ∧ w'' = w') := fun w' => by have := C2.place_any a1 p.fs.length w' (by omega) (by omega); rw [hi] at this; exact this
  clear hi hfi
  go_wp2_with fail
  refine (HP1.out _).mono ?_
  rintro e w' ⟨rfl, rfl⟩
  obtain ⟨g, c, cur, hv, hgB, hgc, hR⟩ := OwnP_fn hO3 hil (by omega)
  have hvl : i < vals.length := by rw [hO3.len]; exact hil
  obtain ⟨gf', cf', hfe, -, hrow⟩ := OwnP_row hO3 (by omega)
  obtain ⟨rfl, rfl⟩ : gf = gf' ∧ cf = cf' := by simp at hfe; exact hfe
  have hcell := hrow i hvl
  rw [hv] at hcell
  have hownf := hO3.fns i hvl hil
  rw [hv] at hownf
  clear hfe hrow hR hgc HP1 hv
  have hrow2 : w'.ownsRow (w.heap.size + 1) 39 1 (.slice (some ⟨gf, 0, none⟩) p.fs.length cf) p.fs.length vals := by have h := hO3.row; rw [hO3.len] at h; exact h
  have HR2 : Hid (w'.ownsRow (w.heap.size + 1) 39 1 (.slice (some ⟨gf, 0, none⟩) p.fs.length cf) p.fs.length vals) := hrow2
  clear hrow2
  have hfL := fun m (hm : m < p.fs.length) => forks_set hil m hm
  have hcs : Hid (cancelsF (p.fs.set i (two ++ p.fs[i])) = true) := cancels_set hil
  have hlen2 : Hid (∀ f ∈ p.fs.set i (two ++ p.fs[i]), f.length ≤ 1000) := fun f hf => by
    rcases List.mem_or_eq_of_mem_set hf with hf | rfl
    · have := hns f hf; omega
    · simp [two]; omega
  have hown2 := World.ownsRow_lit (base := w'.heap.size) (e := 42) (size := 4) w' #[.int .i64 9, .int .i64 0, .int .i64 0, .int .i64 0, .int .i64 13, .int .i64 0, .int .i64 0, .int .i64 0] 2 (Nat.le_refl _) (by unfold maxLen; omega) rfl
  have hownfa := hownf.alloc (.cells #[.int .i64 9, .int .i64 0, .int .i64 0, .int .i64 0, .int .i64 13, .int .i64 0, .int .i64 0, .int .i64 0] 42)
  obtain ⟨d0, d1, d2, d3⟩ := hB3.cells
  have hzb := lt_of_block hB3.box
  have hzg := block_lt_of_cell hcell
  have hput := fun (w3 : World) (hb : ∀ g, g < w'.heap.size → w3.heap[g]? = w'.heap[g]?) (v' : Value) (B' : Nat) (hv : w3.ownsRow B' 42 4 v' (two ++ p.fs[i]).length (cellsI (two ++ p.fs[i]))) => OwnP_put hO3 hil hb hv
  have HPUT : Hid (∀ (w3 : World), (∀ g, g < w'.heap.size → w3.heap[g]? = w'.heap[g]?) → ∀ (v' : Value) (B' : Nat), w3.ownsRow B' 42 4 v' (two ++ p.fs[i]).length (cellsI (two ++ p.fs[i])) → SlF (w3.setCell ⟨gf, i, none⟩ v') (.slice (some ⟨gf, 0, none⟩) p.fs.length cf) (p.fs.set i (two ++ p.fs[i]))) := hput
  have hne : (Value.slice (some ⟨gf, 0, none⟩) p.fs.length cf).ownBlock ≠ some w1.heap.size := own_not hO3.row hB3.box (by decide)
  have hne2 : w1.heap.size ≠ gf := fun e => hne (by rw [e]; rfl)
  have HBOX : Hid (w'.heap[w1.heap.size]? = some (.cells #[.slice (some ⟨gf, 0, none⟩) p.fs.length cf, .int .i64 p.futs, .int .i64 p.depth, .int .i64 p.fuel] 24 (0, 0))) := hB3.box
  have HROW : Hid (OwnP w' (w.heap.size + 1) (.slice (some ⟨gf, 0, none⟩) p.fs.length cf) vals p.fs) := hO3
  have hbsz := hb3.size
  have HFL : Hid (∀ m, m < p.fs.length → ∀ (h1 : m < (forksF (p.fs.set i (two ++ p.fs[i]))).length) (h2 : m < (forksF p.fs).length), (forksF (p.fs.set i (two ++ p.fs[i])))[m] = (forksF p.fs)[m] + if m = i then 1 else 0) := fun m hm _ _ => hfL m hm
  have HBD : Hid (∀ m, m < p.fs.length → ∀ (h2 : m < (forksF p.fs).length), 0 ≤ (forksF p.fs)[m] ∧ (forksF p.fs)[m] ≤ 11) := fun m hm _ => by
    have h1 := cnt_le 9 p.fs[m]
    have h2 := hns _ (List.getElem_mem hm)
    simp only [forksF, List.getElem_map]
    omega
  obtain ⟨q, hq⟩ : ∃ q, p.fs.set i (two ++ p.fs[i]) = q := ⟨_, rfl⟩
  have hql : q.length = p.fs.length := by rw [← hq]; simp
  rw [hq] at hcs hlen2 HPUT HFL
  generalize hF : p.fs[i] = F at *
  clear hfL hput hns hne hO3 hB3 hF hq
  go_wp2_with (at_builtin; refine wpList_append_own _ rfl _ _ 39 rfl w'.heap.size 42 i0 (.agg #[.int .i64 0, .int .i64 0, .int .i64 0, .int .i64 0]) 4 32 Tryd.underlying39 hi' hz0 hz1' hz2 rfl (by decide) _ 2 (cellsI two) rfl hown2 ⟨g, 0, none⟩ F.length c (cellsI F) rfl (C2.cellsI_length _) ?e1 (C2.cellsI_one _) ?e3 ?e4 ?e5 ?_)
  case e1 =>
    intro j u hj
    have hlt : j < F.length * 4 := by rw [← C2.cellsI_length]; exact (List.getElem?_eq_some_iff.1 hj).1
    have := hownfa.cellAt j hlt
    rw [hj] at this
    have e : (⟨g, 0, none⟩ : Addr).add j = ⟨g, j, none⟩ := by unfold Addr.add; split <;> simp_all
    rw [e]
    exact this
  case e3 => unfold maxLen; omega
  case e4 => omega
  case e5 => simp
  intro v' w4 hown4 hgrow _
  have hown5 : w4.ownsRow w'.heap.size 42 4 v' (two ++ F).length (cellsI (two ++ F)) := by
    have e1 : cellsI (two ++ F) = cellsI two ++ cellsI F := by simp [cellsI]
    have e2 : (two ++ F).length = 2 + F.length := by simp [two]; omega
    rw [e1, e2]
    exact hown4
  have hb4' : Below w'.heap.size w' w4 := ⟨hgrow.os, hgrow.tape, hgrow.output, by have := hgrow.size; simp at this; omega, fun k hk => (hgrow.block k (by simp; omega) (fun e => by simp [Value.ownBlock] at e; omega)).trans (Below.heap_alloc _ _ _ hk)⟩
  obtain ⟨va, vl, vc, rfl⟩ : ∃ va vl vc, v' = .slice va vl vc := by
    rcases hown4.2 with ⟨h, _⟩ | ⟨g, cap, cur, h, _⟩
    · exact ⟨_, _, _, h⟩
    · exact ⟨_, _, _, h⟩
  have HS := HPUT.out w4 (fun g hg => hb4'.block g hg) _ _ hown5
  have hgc4 := still_of_below hb4' _ _ hcell
  have hrow4 := C2.owns_same HR2.out fun b hb => hb4'.block b (HR2.out.lt b hb).2
  have hfz4 := hrow4.frozenAt i
  have hbox4 := (hb4'.block _ hzb).trans HBOX.out
  have hbox5 : (w4.setCell ⟨gf, i, none⟩ (.slice va vl vc)).heap[w1.heap.size]? = some (.cells #[.slice (some ⟨gf, 0, none⟩) p.fs.length cf, .int .i64 p.futs, .int .i64 p.depth, .int .i64 p.fuel] 24 (0, 0)) := (Below.heap_setCell _ _ _ _ hne2).trans hbox4
  have hsF4 := sF3.kept hb4'
  have hsF5 : SlN (w4.setCell ⟨gf, i, none⟩ (.slice va vl vc)) (.slice ka p.fs.length kc) (forksF p.fs) := by
    obtain ⟨ad, cap, e, hx⟩ := hsF4
    refine ⟨ad, cap, e, fun k hk => ?_⟩
    obtain ⟨g', f', e1, e2⟩ := hx k hk
    refine ⟨g', f', e1, ?_⟩
    have hna : (⟨gf, i, none⟩ : Addr) ≠ ⟨g', f' + k, none⟩ := fun e => by
      rw [← e, hgc4] at e2
      simp at e2
    rw [World.cell?_setCell_other (h := hna)]
    exact e2
  have HBW : Below w.heap.size w (w4.setCell ⟨gf, i, none⟩ (.slice va vl vc)) := (below_then hb3 hb4').setCell (p := ⟨gf, i, none⟩) (by show w.heap.size ≤ gf; omega) _
  obtain ⟨r0, r1, r2, r3⟩ := prog_cells hbox5
  have d04 := still_of_below hb4' _ _ d0
  have HFq : Hid (∀ w', SlF w' (.slice (some ⟨gf, 0, none⟩) p.fs.length cf) q → Calls Tryd.prog 19 #[.agg #[.slice (some ⟨gf, 0, none⟩) p.fs.length cf, .int .i64 p.futs, .int .i64 p.depth, .int .i64 p.fuel]] w' fun e w'' => ∃ a c, e = .returned (.slice a p.fs.length c) ∧ SlN w'' (.slice a p.fs.length c) (forksF q) ∧ Below w'.heap.size w' w'') := fun w' h => by
    have h2 := Forks_any ⟨q, p.futs, p.depth, p.fuel⟩ _ w' h (by show q.length ≤ _; omega) (fun f hf => hlen2.out f hf)
    unfold FkPost at h2
    simp only [hql] at h2
    exact h2
  have HXq : Hid (∀ w', SlF w' (.slice (some ⟨gf, 0, none⟩) p.fs.length cf) q → Calls Tryd.prog 21 #[.agg #[.slice (some ⟨gf, 0, none⟩) p.fs.length cf, .int .i64 p.futs, .int .i64 p.depth, .int .i64 p.fuel]] w' fun e w'' => e = .returned (.bool true) ∧ Below w'.heap.size w' w'') := fun w' h => by
    have h2 := Cancels_any ⟨q, p.futs, p.depth, p.fuel⟩ _ w' h (by show q.length ≤ _; omega) (fun f hf => by have := hlen2.out f hf; omega)
    rw [hcs.out] at h2
    exact h2
  have HAW : Hid (∀ w', Below w.heap.size w w' → Calls Tryd.prog 15 #[] w' fun e w'' => e = .returned (.bool true) ∧ Below w'.heap.size w' w'') := fun w' h => awake_any w' (hT.below h)
  have hlq : (forksF q).length = p.fs.length := by rw [forksF_length, hql]
  have hlp : (forksF p.fs).length = p.fs.length := forksF_length _
  clear hown4 hown5 hgrow HPUT hrow4 hbox4 hsF4 hownf hownfa hown2 HROW HR2 HBOX sF3 e30 e31 e32 e33 d0 d1 d2 d3 hcs hlen2 hcell hT hok HNC
  go_wp2_with fail
  refine (HFq.out _ HS).mono ?_
  rintro e w6 ⟨kb, kd, rfl, sG, b6⟩
  have hbox6 := (b6.block _ (by simp [World.setCell]; have := hb4'.size; omega)).trans hbox5
  have sF6 := hsF5.kept b6
  have HS6 := HS.kept b6
  have hb6 := below_then HBW b6
  obtain ⟨s0, s1, s2, s3⟩ := prog_cells hbox6
  have hnn : ((p.fs.length : Int) != (p.fs.length : Int)) = false := by simp
  clear hsF5 HS HBW hbox5 r0 r1 r2 r3 d04 hfz4 hgc4 b6 hb4'
  go_wp2_with fail
  go_loopw [11] (fun iv wr => ∃ m : Nat, m ≤ p.fs.length ∧ iv = .int .i64 m ∧ Below w6.heap.size w6 wr) (fun iv _ => p.fs.length - (intOf iv).toNat)
  case atStart => exact ⟨0, by omega, rfl, Below.refl _ _⟩
  case round =>
    obtain ⟨m, hm, rfl, hbr⟩ := hrel
    have sF6 := sF6.kept hbr
    have sG := sG.kept hbr
    have HS6 := HS6.kept hbr
    obtain ⟨s0, s1, s2, s3⟩ := prog_cells ((hbr.block _ (lt_of_block hbox6)).trans hbox6)
    have hb6 := below_then hb6 hbr
    by_cases hlt : m < p.fs.length
    · have hf := HFL.out m hlt (by omega) (by omega)
      have hbd := HBD.out m hlt (by omega)
      obtain ⟨ga, ca, ea, hxa⟩ := sF6
      obtain ⟨gb, cb, eb, hxb⟩ := sG
      obtain ⟨g1, f1, rfl, x1⟩ := hxa m (by omega)
      obtain ⟨g2, f2, rfl, x2⟩ := hxb m (by omega)
      simp at ea eb
      obtain ⟨rfl, -, -⟩ := ea
      obtain ⟨rfl, -, -⟩ := eb
      clear hxa hxb
      generalize (forksF p.fs)[m] = X at *
      generalize (forksF q)[m] = Y at *
      by_cases e : m = i
      · subst e
        rw [if_pos rfl] at hf
        subst hf
        have t1 : ((m : Int) != (m : Int)) = false := by simp
        have t2 : ((m : Int) == (m : Int)) = true := by simp
        have t3 : (X + 1 != X + 1) = false := by simp
        go_wp2_with fail
        go_quiet (fail)
        go_wp2_with fail
        go_roundw
        case rel => exact ⟨m + 1, by omega, by go_num, ⟨hbr.os, hbr.tape, hbr.output, hbr.size, hbr.block⟩⟩
        case measure => simp [intOf]; omega
      · rw [if_neg e, Int.add_zero] at hf
        subst hf
        have t1 : ((m : Int) != (i : Int)) = true := by simp; omega
        have t2 : ((m : Int) == (i : Int)) = false := by simp; omega
        have t3 : (Y != Y) = false := by simp
        go_wp2_with fail
        go_quiet (fail)
        go_wp2_with fail
        go_roundw
        case rel => exact ⟨m + 1, by omega, by go_num, ⟨hbr.os, hbr.tape, hbr.output, hbr.size, hbr.block⟩⟩
        case measure => simp [intOf]; omega
    · go_wp2_with fail
      refine (HXq.out _ HS6).mono ?_
      rintro e w7 ⟨rfl, b7⟩
      have hb7 := below_then hb6 b7
      go_wp2_with (go_at_call 15; refine (HAW.out _ hb7).mono ?_; rintro e w8 ⟨rfl, hb8⟩)
      go_ret
      exact ⟨rfl, below_then hb7 hb8⟩
end Go.Proofs.YtnhogbgnnnniaaaDoor
