/-
  Helpers: Fns, Prog4, Parse, Awake4, ShW.
-/
import Derived.Test.YtnhogbgnnnniaaaDoorAsmAllBun30
import Derived.Test.YtnhogbgnnnniaaaDoorAsmAllBun13
import Derived.Deep.AppendLies
import Derived.Deep.RegionLaw
import Derived.Test.YtnhogbgnnnniaaaDoorAsmAllBun0
import Derived.Test.YtnhogbgnnnniaaaDoorAsmAllBun29
import Derived.Test.YtnhogbgnnnniaaaDoorAsmAllBun26
import Derived.Test.YtnhogbgnnnniaaaDoorAsmAllBun1
import Derived.LoopTactic
namespace Go.Proofs.YtnhogbgnnnniaaaDoor
open Go.RowKit L3
open C2 (In insC cellsI cellsI_snoc SlI SlF)

theorem own_set {w : World} {B e n g cap : Nat} {xs : List Value} (h : w.ownsRow B e 1 (.slice (some ⟨g, 0, none⟩) n cap) n xs) (k : Nat) (v : Value) : (w.setCell ⟨g, k, none⟩ v).ownsRow B e 1 (.slice (some ⟨g, 0, none⟩) n cap) n (xs.set k v) := by
  refine ⟨by simp [h.1], .inr ?_⟩
  rcases h.2 with ⟨h0, _⟩ | ⟨g', cap', cur, e1, h1, h2, h3, h4, h5, h6⟩
  · simp at h0
  · simp at e1
    obtain ⟨rfl, rfl⟩ := e1
    refine ⟨g, cap, cur.setIfInBounds k v, rfl, h1, heap_setCell_same _ _ _ _ _ _ h2, h3, h4, by simp [h5], ?_⟩
    rw [Array.toList_setIfInBounds, List.take_set, h6]
/-- functions that a call owns; the last one's row is no other's -/
structure Fns (w : World) (B : Nat) (fv : Value) (fs : List (List In)) (vals : List Value) : Prop where
  len : vals.length = fs.length
  row : w.ownsRow B 39 1 fv vals.length vals
  ins : ∀ k (h : k < fs.length) (h' : k < vals.length), ∃ a l c, vals[k] = .slice a l c ∧ w.ownsRow B 42 4 vals[k] fs[k].length (cellsI fs[k])
  apart : ∀ k (h : k < vals.length), k + 1 < vals.length → ∀ g, vals[k].ownBlock = some g → (vals.getLastD (.slice none 0 0)).ownBlock ≠ some g
theorem Fns.nil (w : World) (B : Nat) : Fns w B (.slice none 0 0) [] [] := ⟨rfl, World.ownsRow_nil _ _ _ _, fun k h => by simp at h, fun k h => by simp at h⟩
section
variable {w w1 w4 : World} {B : Nat} {fv : Value} {fs : List (List In)} {vals : List Value}
theorem Fns.slF (h : Fns w B fv fs vals) : SlF w fv fs := by
  rcases h.row.2 with ⟨rfl, h0⟩ | ⟨g, cap, cur, rfl, _⟩
  · exact ⟨none, 0, by rw [← h.len, h0], fun k hk => by have := h.len; omega⟩
  · refine ⟨some ⟨g, 0, none⟩, cap, by rw [h.len], fun k hk => ?_⟩
    have hk' : k < vals.length := by rw [h.len]; exact hk
    obtain ⟨a, l, c, e, ho⟩ := h.ins k hk hk'
    refine ⟨g, 0, vals[k], rfl, ?_, C2.own_slI ho⟩
    rw [Nat.zero_add, h.row.cellAt _ (by omega)]
    simp [hk']
theorem Fns.kept (h : Fns w B fv fs vals) (hb : Below w.heap.size w w1) : Fns w1 B fv fs vals :=
  ⟨h.len, owns_same h.row fun g hg => hb.block g (h.row.lt g hg).2, fun k h1 h2 => by
    obtain ⟨oa, ol, oc, e, ho⟩ := h.ins k h1 h2
    exact ⟨oa, ol, oc, e, owns_same ho fun g hg => hb.block g (ho.lt g hg).2⟩, h.apart⟩
theorem Fns.far (h : Fns w B fv fs vals) (hw : ∀ g, B ≤ g → g < w.heap.size → w1.heap[g]? = w.heap[g]?) : Fns w1 B fv fs vals :=
  ⟨h.len, owns_same h.row fun g hg => hw g (h.row.lt g hg).1 (h.row.lt g hg).2, fun k h1 h2 => by
    obtain ⟨oa, ol, oc, e, ho⟩ := h.ins k h1 h2
    exact ⟨oa, ol, oc, e, owns_same ho fun g hg => hw g (ho.lt g hg).1 (ho.lt g hg).2⟩, h.apart⟩
/-- a new function -/
theorem Fns.more (h : Fns w B fv fs vals) {v' : Value} (hgrow : w.grownBy w4 fv.ownBlock) (hown : w4.ownsRow B 39 1 v' (vals.length + 1) (vals ++ [.slice none 0 0])) : Fns w4 B v' (fs ++ [[]]) (vals ++ [.slice none 0 0]) := by
  refine ⟨by simp [h.len], by simpa using hown, fun k h1 h2 => ?_, fun k h1 h2 g hg => ?_⟩
  · by_cases hkk : k < fs.length
    · have hk2 : k < vals.length := by rw [h.len]; exact hkk
      rw [List.getElem_append_left hkk, List.getElem_append_left hk2]
      obtain ⟨a, l, c, e, ho⟩ := h.ins k hkk hk2
      exact ⟨a, l, c, e, owns_same ho fun g hg => hgrow.block g (ho.lt g hg).2 (fun e => own_ne ho h.row (by decide) g hg e.symm)⟩
    · have e1 : k = fs.length := by simp at h1; omega
      subst e1
      have e2 : (fs ++ [[]])[fs.length]'h1 = [] := by simp
      have e3 : (vals ++ [.slice none 0 0])[fs.length]'h2 = .slice none 0 0 := by rw [List.getElem_append_right (by rw [h.len]; omega)]; simp
      rw [e2, e3]
      exact ⟨none, 0, 0, rfl, World.ownsRow_nil _ _ _ _⟩
  · simp [Value.ownBlock]
theorem pushL_snoc (F : List (List In)) (f : List In) (i : In) : pushL (F ++ [f]) i = F ++ [f ++ [i]] := by simp [pushL]
/-- an instruction behind the last function's -/
theorem Fns.push {F : List (List In)} {f : List In} {V : List Value} {v : Value} {go gc g cap : Nat} {i : In} (h : Fns w B (.slice (some ⟨go, 0, none⟩) (V.length + 1) gc) (F ++ [f]) (V ++ [v])) (hgrow : w.grownBy w4 v.ownBlock)
    (hown : w4.ownsRow B 42 4 (.slice (some ⟨g, 0, none⟩) (f.length + 1) cap) (f.length + 1) (cellsI f ++ insC i)) (loc : v.ownBlock = some g ∨ g = w.heap.size) :
    Fns (w4.setCell ⟨go, V.length, none⟩ (.slice (some ⟨g, 0, none⟩) (f.length + 1) cap)) B (.slice (some ⟨go, 0, none⟩) (V.length + 1) gc) (F ++ [f ++ [i]]) (V ++ [.slice (some ⟨g, 0, none⟩) (f.length + 1) cap]) := by
  have hl : V.length = F.length := by have := h.len; simpa using this
  have hrow : w.ownsRow B 39 1 (.slice (some ⟨go, 0, none⟩) (V.length + 1) gc) (V.length + 1) (V ++ [v]) := by simpa using h.row
  obtain ⟨a0, l0, c0, ev, hv⟩ : ∃ a l c, v = .slice a l c ∧ w.ownsRow B 42 4 v f.length (cellsI f) := by
    have := h.ins V.length (by simp; omega) (by simp)
    simpa [hl] using this
  have hrow4 : w4.ownsRow B 39 1 (.slice (some ⟨go, 0, none⟩) (V.length + 1) gc) (V.length + 1) (V ++ [v]) := owns_same hrow fun g' hg' => hgrow.block g' (hrow.lt g' hg').2 (fun e => own_ne hrow hv (by decide) g' hg' e.symm)
  have hset := own_set hrow4 V.length (.slice (some ⟨g, 0, none⟩) (f.length + 1) cap)
  have e1 : (V ++ [v]).set V.length (.slice (some ⟨g, 0, none⟩) (f.length + 1) cap) = V ++ [.slice (some ⟨g, 0, none⟩) (f.length + 1) cap] := by simp
  rw [e1] at hset
  have keep : ∀ {u : Value} {xs : List In}, w4.ownsRow B 42 4 u xs.length (cellsI xs) → (w4.setCell ⟨go, V.length, none⟩ (.slice (some ⟨g, 0, none⟩) (f.length + 1) cap)).ownsRow B 42 4 u xs.length (cellsI xs) := fun {u} {xs} hu => owns_same hu fun g' hg' => Below.heap_setCell _ _ _ _ (fun e => own_ne hu hrow4 (by decide) g' hg' (by show some go = some g'; rw [e]))
  have hVl : ∀ k (hk : k < V.length), ∃ a l c, V[k] = .slice a l c ∧ w.ownsRow B 42 4 V[k] (F[k]'(by omega)).length (cellsI (F[k]'(by omega))) := fun k hk => by
    have := h.ins k (by simp; omega) (by simp; omega)
    rw [List.getElem_append_left hk, List.getElem_append_left (show k < F.length by omega)] at this
    exact this
  have hap : ∀ k (hk : k < V.length) g', V[k].ownBlock = some g' → v.ownBlock ≠ some g' := fun k hk g' hg' => by
    have := h.apart k (by simp; omega) (by simp; omega) g' (by rw [List.getElem_append_left hk]; exact hg')
    simpa using this
  refine ⟨by simp [hl], by simpa using hset, fun k h1 h2 => ?_, fun k h1 h2 g' hg' => ?_⟩
  · by_cases hk : k < V.length
    · rw [List.getElem_append_left hk, List.getElem_append_left (show k < F.length by omega)]
      obtain ⟨a, l, c, e, ho⟩ := hVl k hk
      exact ⟨a, l, c, e, keep (owns_same ho fun g' hg' => hgrow.block g' (ho.lt g' hg').2 (fun e => hap k hk g' hg' e.symm))⟩
    · have e1 : k = V.length := by simp at h2; omega
      subst e1
      have e2 : (F ++ [f ++ [i]])[V.length]'h1 = f ++ [i] := by rw [List.getElem_append_right (by omega)]; simp [hl]
      have e3 : (V ++ [Value.slice (some ⟨g, 0, none⟩) (f.length + 1) cap])[V.length]'h2 = .slice (some ⟨g, 0, none⟩) (f.length + 1) cap := by simp
      rw [e2, e3]
      refine ⟨_, _, _, rfl, keep ?_⟩
      rw [cellsI_snoc]
      simpa using hown
  · have hk : k < V.length := by simp at h2; omega
    rw [List.getElem_append_left hk] at hg'
    simp only [List.getLastD_concat]
    intro e
    simp only [Value.ownBlock, Option.some.injEq] at e
    subst e
    rcases loc with h3 | h3
    · exact hap k hk _ hg' h3
    · obtain ⟨a, l, c, _, ho⟩ := hVl k hk
      have := (ho.lt _ hg').2
      omega
end
end Go.Proofs.YtnhogbgnnnniaaaDoor
namespace Go.Proofs.YtnhogbgnnnniaaaDoor
open Go.RowKit L3
open C2 (In Pr insC cellsI)

/-- the loop over the lines, behind n of them -/
structure Pg (w wr : World) (p : Pr) (fa : Option Addr) (fl fc : Nat) (vals : List Value) : Prop where
  out : wr.heap[w.heap.size]? = some (.cells #[.slice none 0 0, .int .i64 0, .int .i64 0, .int .i64 0] 24 (0, 0))
  box : wr.heap[w.heap.size + 1]? = some (.cells #[.slice fa fl fc, .int .i64 p.futs, .int .i64 p.depth, .int .i64 p.fuel] 24 (0, 0))
  fns : Fns wr (w.heap.size + 2) (.slice fa fl fc) p.fs vals
  low : Below w.heap.size w wr
section
variable {w wr : World} {p : Pr} {fa : Option Addr} {fl fc : Nat} {vals : List Value}
theorem Pg.kept (h : Pg w wr p fa fl fc vals) {w1 : World} (hb : Below wr.heap.size wr w1) : Pg w w1 p fa fl fc vals :=
  ⟨(hb.block _ (lt_of_block h.out)).trans h.out, (hb.block _ (lt_of_block h.box)).trans h.box, h.fns.kept hb, h.low.trans (hb.mono h.low.size)⟩
theorem Pg.set (h : Pg w wr p fa fl fc vals) (j : Nat) (x : Int) {p' : Pr} (hf : p'.fs = p.fs) (he : (#[.slice fa fl fc, .int .i64 p.futs, .int .i64 p.depth, .int .i64 p.fuel] : Array Value).setIfInBounds j (.int .i64 x) = #[.slice fa fl fc, .int .i64 p'.futs, .int .i64 p'.depth, .int .i64 p'.fuel]) : Pg w (wr.setCell ⟨w.heap.size + 1, j, none⟩ (.int .i64 x)) p' fa fl fc vals := by
  refine ⟨(Below.heap_setCell _ _ _ _ (by simp)).trans h.out, ?_, ?_, h.low.setCell (by simp) _⟩
  · rw [heap_setCell_same _ _ _ _ _ _ h.box, he]
  · rw [hf]
    exact h.fns.far fun g h1 h2 => Below.heap_setCell _ _ _ _ (by show g ≠ w.heap.size + 1; omega)
end
theorem Pg.start (w : World) : Pg w ((w.alloc (.cells #[.slice none 0 0, .int .i64 0, .int .i64 0, .int .i64 0] 24)).alloc (.cells #[.slice none 0 0, .int .i64 0, .int .i64 0, .int .i64 0] 24)) pr0 none 0 0 [] :=
  ⟨heap_alloc2_old _ _ _, heap_alloc2_new _ _ _, Fns.nil _ _, two_old _ _⟩
def PgPost (all : List Sm) (w : World) (e : Ending) (w' : World) : Prop := ∃ fa fl fc vals, e = .returned (.agg #[.slice fa fl fc, .int .i64 (progF all).futs, .int .i64 (progF all).depth, .int .i64 (progF all).fuel]) ∧ Fns w' (w.heap.size + 2) (.slice fa fl fc) (progF all).fs vals ∧ Below w.heap.size w w'
set_option maxRecDepth 4000 in
set_option maxHeartbeats 4000000 in
theorem program_any (all : List Sm) (sa : Option Addr) (sc : Nat) (w : World) (hS : SlS w (.slice sa all.length sc) all) (ho : Oks all) (hn : all.length ≤ 20000) :
    Calls Tryd.prog 27 #[.slice sa all.length sc] w fun e w' => PgPost all w e w' := by
  obtain ⟨i0, hi, hz0, hz1', hz2⟩ := info_parts C2.infoIns
  obtain ⟨i1, ki, kz0, kz1, kz2⟩ := info_parts C2.infoFns
  have hG0 := Pg.start w
  go_enter Tryd.func27, Tryd.ntmps27
  go_wp2_with fail
  go_loopw [9] (fun i wr => ∃ (k : Nat) (fa : Option Addr) (fl fc : Nat) (vals : List Value), k ≤ all.length ∧ i = .int .i64 k ∧ Pg w wr (progF (all.take k)) fa fl fc vals) (fun i _ => all.length - (intOf i).toNat)
  case atStart => exact ⟨0, none, 0, 0, [], by omega, rfl, hG0⟩
  case round =>
    obtain ⟨k, fa, fl, fc, vals, hk, rfl, hG⟩ := hrel
    clear hG0
    have hxb := lt_of_block hG.box
    have hxo := lt_of_block hG.out
    by_cases hlt : k < all.length
    · obtain ⟨g, f, oa, ol, oc, rfl, c0, c1, c2, hN⟩ := (hS.kept hG.low).at hlt
      have hg := block_lt_of_cell c0
      have hok := ho k hlt
      have hnx : progF (all.take (k + 1)) = stepP (progF (all.take k)) all[k] := by rw [List.take_succ_eq_append_getElem hlt, progF_snoc]
      have hpos := fun h => progF_fs ho k h (by omega)
      have hbd := progF_bd (all.take k)
      have h15 := fun h => ho.fs k hlt h
      obtain ⟨s, hs⟩ : ∃ s, all[k] = s := ⟨_, rfl⟩
      rw [hs] at c0 c2 hN hok hnx h15
      obtain ⟨p, hp⟩ : ∃ p, progF (all.take k) = p := ⟨_, rfl⟩
      rw [hp] at hG hnx hpos hbd
      have HNX : Hid (progF (all.take (k + 1)) = stepP p s) := hnx
      have hops := hok.ops
      have hhi := hok.hi
      have hlo := hok.lo
      have hG1 := hG.kept (below_one wr (.cells #[.int .i64 (s.k : Int), .slice oa ol oc, .int .i64 s.l] 106))
      have hN1 := hN.kept (below_one wr (.cells #[.int .i64 (s.k : Int), .slice oa ol oc, .int .i64 s.l] 106))
      have r0 := cell_of_row _ _ 0 _ _ _ hG.box
      have r1 := cell_of_row _ _ 1 _ _ _ hG.box
      have r2 := cell_of_row _ _ 2 _ _ _ hG.box
      have r3 := cell_of_row _ _ 3 _ _ _ hG.box
      have f0 := frozen_of_row _ _ 0 _ _ hG.box
      have f1 := frozen_of_row _ _ 1 _ _ hG.box
      have f2 := frozen_of_row _ _ 2 _ _ hG.box
      have f3 := frozen_of_row _ _ 3 _ _ hG.box
      simp at r0 r1 r2 r3
      clear hs hp hnx hok
      have hk5 : s.k = 16 ∨ s.k = 17 ∨ s.k = 18 ∨ s.k = 19 ∨ s.k ≤ 15 := by omega
      rcases hk5 with h16 | h17 | h18 | h19 | h15'
      · obtain ⟨g2, f2', c2', e2, hx⟩ := one_op hN (by have : opsOf 16 = 1 := rfl; rw [h16] at hops; omega)
        simp at e2
        obtain ⟨rfl, rfl, rfl⟩ := e2
        have hg2 := block_lt_of_cell hx
        have e1 : ((s.k : Int) == 16) = true := by simp [h16]
        have hP : Hid (Pg w ((wr.setCell ⟨w.heap.size + 1, 1, none⟩ (.int .i64 (x0 s.xs))).alloc (.cells #[.int .i64 (s.k : Int), .slice (some ⟨g2, f2', none⟩) 1 oc, .int .i64 s.l] 106)) (progF (all.take (k + 1))) fa fl fc vals) := by
          rw [HNX.out]
          exact (hG.set 1 (x0 s.xs) (by simp [stepP, h16]) (by simp [stepP, h16])).kept (below_one _ _)
        clear hG hG1 hN hN1 h16 hops hpos hbd h15
        go_wp2_with fail
        go_roundw
        case rel => exact ⟨k + 1, fa, fl, fc, vals, by omega, by go_num, hP.out⟩
        case measure => simp [intOf]; omega
      · obtain ⟨g2, f2', c2', e2, hx⟩ := one_op hN (by have : opsOf 17 = 1 := rfl; rw [h17] at hops; omega)
        simp at e2
        obtain ⟨rfl, rfl, rfl⟩ := e2
        have hg2 := block_lt_of_cell hx
        have e0 : ((s.k : Int) == 16) = false := by simp [h17]
        have e1 : ((s.k : Int) == 17) = true := by simp [h17]
        have hP : Hid (Pg w ((wr.setCell ⟨w.heap.size + 1, 2, none⟩ (.int .i64 (x0 s.xs))).alloc (.cells #[.int .i64 (s.k : Int), .slice (some ⟨g2, f2', none⟩) 1 oc, .int .i64 s.l] 106)) (progF (all.take (k + 1))) fa fl fc vals) := by
          rw [HNX.out]
          exact (hG.set 2 (x0 s.xs) (by simp [stepP, h17]) (by simp [stepP, h17])).kept (below_one _ _)
        clear hG hG1 hN hN1 h17 hops hpos hbd h15
        go_wp2_with fail
        go_roundw
        case rel => exact ⟨k + 1, fa, fl, fc, vals, by omega, by go_num, hP.out⟩
        case measure => simp [intOf]; omega
      · obtain ⟨g2, f2', c2', e2, hx⟩ := one_op hN (by have : opsOf 18 = 1 := rfl; rw [h18] at hops; omega)
        simp at e2
        obtain ⟨rfl, rfl, rfl⟩ := e2
        have hg2 := block_lt_of_cell hx
        have e0 : ((s.k : Int) == 16) = false := by simp [h18]
        have e00 : ((s.k : Int) == 17) = false := by simp [h18]
        have e1 : ((s.k : Int) == 18) = true := by simp [h18]
        have hP : Hid (Pg w ((wr.setCell ⟨w.heap.size + 1, 3, none⟩ (.int .i64 (x0 s.xs))).alloc (.cells #[.int .i64 (s.k : Int), .slice (some ⟨g2, f2', none⟩) 1 oc, .int .i64 s.l] 106)) (progF (all.take (k + 1))) fa fl fc vals) := by
          rw [HNX.out]
          exact (hG.set 3 (x0 s.xs) (by simp [stepP, h18]) (by simp [stepP, h18])).kept (below_one _ _)
        clear hG hG1 hN hN1 h18 hops hpos hbd h15
        go_wp2_with fail
        go_roundw
        case rel => exact ⟨k + 1, fa, fl, fc, vals, by omega, by go_num, hP.out⟩
        case measure => simp [intOf]; omega
      · have e1 : ((s.k : Int) == 16) = false := by simp [h19]
        have e2 : ((s.k : Int) == 17) = false := by simp [h19]
        have e3 : ((s.k : Int) == 18) = false := by simp [h19]
        have e4 : ((s.k : Int) == 19) = true := by simp [h19]
        have hG2 := hG1.kept (below_one (wr.alloc (.cells #[.int .i64 (s.k : Int), .slice oa ol oc, .int .i64 s.l] 106)) (.cells #[.slice none 0 0] 39))
        have hrow2 := hG2.fns.row
        have hvl : vals.length ≤ 20001 := by have := hG.fns.len; have := hbd.1; simp at this; omega
        have hST : stepP p s = ⟨p.fs ++ [[]], p.futs, p.depth, p.fuel⟩ := by simp [stepP, h19]
        clear hG hG1 hN hN1 h19 hops hpos hbd h15
        go_wp2_with (at_builtin; refine wpList_append_own _ rfl _ _ 22 rfl (w.heap.size + 2) 39 i1 (.slice none 0 0) 1 24 Tryd.underlying22 ki kz0 kz1 kz2 rfl (by decide) _ _ _ rfl hrow2 ⟨wr.heap.size + 1, 0, none⟩ 1 1 [.slice none 0 0] rfl rfl ?d1 ?d2 ?d3 ?d4 ?d5 ?_)
        case d2 => rfl
        case d3 => unfold maxLen; omega
        case d4 => omega
        case d5 => omega
        intro v' w4 hown4 hgrow _
        obtain ⟨gg, cap, rfl⟩ := row_some hown4
        have hF4 := hG2.fns.more hgrow hown4
        have hblk : ∀ g, (Value.slice fa fl fc).ownBlock = some g → w.heap.size + 2 ≤ g := fun g hg => own_blk hG2.fns.row hg
        have hout4 := (hgrow.block _ (lt_of_block hG2.out) (fun e => by have := hblk _ e.symm; omega)).trans hG2.out
        have hbox4 := (hgrow.block _ (lt_of_block hG2.box) (fun e => by have := hblk _ e.symm; omega)).trans hG2.box
        have hsz := hgrow.size
        simp at hsz
        have hP : Hid (Pg w (w4.setCell ⟨w.heap.size + 1, 0, none⟩ (.slice (some ⟨gg, 0, none⟩) (vals.length + 1) cap)) (progF (all.take (k + 1))) (some ⟨gg, 0, none⟩) (vals.length + 1) cap (vals ++ [.slice none 0 0])) := by
          rw [HNX.out, hST]
          refine ⟨(Below.heap_setCell _ _ _ _ (by simp)).trans hout4, ?_, hF4.far fun g h1 h2 => Below.heap_setCell _ _ _ _ (by show g ≠ w.heap.size + 1; omega), ?_⟩
          · rw [heap_setCell_same _ _ _ _ _ _ hbox4]
            rfl
          · exact (hG2.low.trans ⟨hgrow.os, hgrow.tape, hgrow.output, hgrow.size, fun j hj => hgrow.block j (by simp; omega) (fun e => by have := hblk _ e.symm; omega)⟩).setCell (by simp) _
        have t0 := cell_of_row _ _ 0 _ _ _ hbox4
        have t1 := frozen_of_row _ _ 0 _ _ hbox4
        simp at t0
        clear hG2 hF4 hblk hout4 hbox4 hgrow hown4 hrow2
        go_wp2_with fail
        go_roundw
        case rel => exact ⟨k + 1, _, _, _, _, by omega, by go_num, hP.out⟩
        case measure => simp [intOf]; omega
      · have e1 : ((s.k : Int) == 16) = false := by simp; omega
        have e2 : ((s.k : Int) == 17) = false := by simp; omega
        have e3 : ((s.k : Int) == 18) = false := by simp; omega
        have e4 : ((s.k : Int) == 19) = false := by simp; omega
        have h3 : s.xs.length ≤ 3 := by have := opsOf_bd s.k; omega
        have hne : p.fs ≠ [] := by have := hpos (h15 h15'); intro e; rw [e] at this; simp at this
        obtain ⟨i, hii⟩ : ∃ i, insOf s.k s.xs = i := ⟨_, rfl⟩
        have hST : stepP p s = ⟨pushL p.fs i, p.futs, p.depth, p.fuel⟩ := by
          unfold stepP
          rw [if_neg (by omega), if_neg (by omega), if_neg (by omega), if_neg (by omega), hii]
        have hins : Calls Tryd.prog 59 #[.int .i64 (s.k : Int), .slice oa ol oc] (wr.alloc (.cells #[.int .i64 (s.k : Int), .slice oa ol oc, .int .i64 s.l] 106)).drew fun e w' => e = .returned (.agg #[.int .i64 i.o, .int .i64 i.a, .int .i64 i.b, .int .i64 i.c]) ∧ Below (wr.alloc (.cells #[.int .i64 (s.k : Int), .slice oa ol oc, .int .i64 s.l] 106)).heap.size (wr.alloc (.cells #[.int .i64 (s.k : Int), .slice oa ol oc, .int .i64 s.l] 106)) w' := by
          have := instruction_any s.k s.xs (.slice oa ol oc) (wr.alloc (.cells #[.int .i64 (s.k : Int), .slice oa ol oc, .int .i64 s.l] 106)).drew h3 hN1
          rw [hii] at this
          refine this.mono ?_
          rintro e w' ⟨h1, h2⟩
          exact ⟨h1, below_then ((Below.refl _ _).drew) h2⟩
        obtain ⟨F, f, hF⟩ : ∃ F f, p.fs = F ++ [f] := ⟨p.fs.dropLast, p.fs.getLast hne, (List.dropLast_concat_getLast hne).symm⟩
        have hlen := hG.fns.len
        have hvne : vals ≠ [] := by intro e; rw [e, hF] at hlen; simp at hlen
        obtain ⟨V, v, hV⟩ : ∃ V v, vals = V ++ [v] := ⟨vals.dropLast, vals.getLast hvne, (List.dropLast_concat_getLast hvne).symm⟩
        subst hV
        have hrow := hG.fns.row
        have hvl : (V ++ [v]).length = V.length + 1 := by simp
        rw [hvl] at hrow
        obtain ⟨go, gc, hgo⟩ := row_some hrow
        simp at hgo
        obtain ⟨rfl, rfl, rfl⟩ := hgo
        have hf1 := hG1.fns
        rw [hF] at hST hf1
        rw [pushL_snoc] at hST
        have hl0 : V.length = F.length := by have := hf1.len; simpa using this
        have hVb : V.length ≤ 20001 ∧ f.length ≤ 20001 := by
          have h1 := hbd.1
          have h2 := hbd.2 f (by rw [hF]; simp)
          rw [hF] at h1
          simp at h1 h2
          omega
        obtain ⟨va, vl, vc, ev, hown1⟩ : ∃ a l c, v = .slice a l c ∧ (wr.alloc (.cells #[.int .i64 (s.k : Int), .slice oa ol oc, .int .i64 s.l] 106)).ownsRow (w.heap.size + 2) 42 4 v f.length (cellsI f) := by
          have := hf1.ins V.length (by simp; omega) (by simp)
          simpa [hl0] using this
        subst ev
        have y0 : wr.cell? ⟨go, V.length, none⟩ = some (.slice va vl vc) := by rw [hrow.cellAt _ (by omega)]; simp
        have hgo1 := own_blk hrow rfl
        have hgo2 := block_lt_of_cell y0
        have hnego : (Value.slice va vl vc).ownBlock ≠ some go := own_ne (hrow.alloc (.cells #[.int .i64 (s.k : Int), .slice oa ol oc, .int .i64 s.l] 106)) hown1 (by decide) go rfl
        have hneW : (Value.slice va vl vc).ownBlock ≠ some wr.heap.size := fun e => by
          have h0 := hf1.ins V.length (by simp; omega) (by simp)
          have h1 := (hG.fns.ins V.length (by rw [hF]; simp; omega) (by simp))
          obtain ⟨_, _, _, _, h2⟩ := h1
          have := (h2.lt _ (by simpa using e)).2
          omega
        have hvB : ∀ g, (Value.slice va vl vc).ownBlock = some g → w.heap.size + 2 ≤ g := fun g hg => own_blk hown1 hg
        obtain ⟨cur, hcur⟩ : ∃ cur, wr.heap[go]? = some (.cells cur 39 (0, 0)) := by
          rcases hrow.2 with ⟨h0, _⟩ | ⟨g', cap', cur, e', _, h2, _⟩
          · simp at h0
          · simp at e'
            obtain ⟨rfl, rfl⟩ := e'
            exact ⟨cur, h2⟩
        have HST : Hid (stepP p s = ⟨F ++ [f ++ [i]], p.futs, p.depth, p.fuel⟩) := hST
        have HF1 : Hid (Fns (wr.alloc (.cells #[.int .i64 (s.k : Int), .slice oa ol oc, .int .i64 s.l] 106)) (w.heap.size + 2) (.slice (some ⟨go, 0, none⟩) (V.length + 1) fc) (F ++ [f]) (V ++ [.slice va vl vc])) := hf1
        have HG1 : Hid (Pg w (wr.alloc (.cells #[.int .i64 (s.k : Int), .slice oa ol oc, .int .i64 s.l] 106)) p (some ⟨go, 0, none⟩) (V.length + 1) fc (V ++ [.slice va vl vc])) := hG1
        have a0 := C2.still_alloc wr (.cells #[.int .i64 (s.k : Int), .slice oa ol oc, .int .i64 s.l] 106) _ _ r0
        have a1 := C2.still_alloc wr (.cells #[.int .i64 (s.k : Int), .slice oa ol oc, .int .i64 s.l] 106) _ _ y0
        have a2 : (wr.alloc (.cells #[.int .i64 (s.k : Int), .slice oa ol oc, .int .i64 s.l] 106)).cell? ⟨wr.heap.size, 0, none⟩ = some (.int .i64 (s.k : Int)) := by simp
        have a3 : (wr.alloc (.cells #[.int .i64 (s.k : Int), .slice oa ol oc, .int .i64 s.l] 106)).cell? ⟨wr.heap.size, 1, none⟩ = some (.slice oa ol oc) := by simp
        clear hF hST hf1 hG hG1 hN hN1 hpos h15 hbd hops hne hvne hlen hrow hvl hii r1 r2 r3 f1 f2 f3
        have hsub : ((V.length : Int) + 1 - 1) = (V.length : Int) := by omega
        have hlt1 : (V.length : Int) < (V.length : Int) + 1 := by omega
        clear hl0
        go_wp2_with fail
        clear e1 e2 e3 e4 c0 c1 c2 hS ho hk hxo hg hlo hhi h3 h15' r0 y0 hsub
        refine region_last (fun w' => w'.cell? ⟨w.heap.size + 1, 0, none⟩ = some (.slice (some ⟨go, 0, none⟩) (V.length + 1) fc) ∧ w'.cell? ⟨go, V.length, none⟩ = some (.slice va vl vc) ∧ w'.cell? ⟨wr.heap.size, 0, none⟩ = some (.int .i64 (s.k : Int)) ∧ w'.cell? ⟨wr.heap.size, 1, none⟩ = some (.slice oa ol oc)) 16 (by kernel_rfl) ?_
        refine anyL_take (i := 0) (v := .pointer (some ⟨w.heap.size + 1, 0, none⟩)) rfl (by kernel_rfl) (by kernel_rfl) (by kernel_rfl) (by kernel_rfl) (fun _ _ _ h => h) (.inl ⟨by rfl, fun X hX => ?_⟩) ⟨a0, a1, a2, a3⟩ ?_
        · obtain ⟨s0, s1, s2, s3⟩ := hX
          go_simp
        refine anyL_take (i := 1) (v := .slice (some ⟨go, 0, none⟩) (V.length + 1) fc) rfl (by kernel_rfl) (by kernel_rfl) (by kernel_rfl) (by kernel_rfl) (fun _ _ _ h => h) (.inl ⟨by rfl, fun X hX => ?_⟩) ⟨a0, a1, a2, a3⟩ ?_
        · obtain ⟨s0, s1, s2, s3⟩ := hX
          go_simp
        refine anyL_take (i := 2) (v := .int .i64 (V.length : Int)) rfl (by kernel_rfl) (by kernel_rfl) (by kernel_rfl) (by kernel_rfl) (fun _ _ _ h => h) (.inl ⟨by rfl, fun X hX => ?_⟩) ⟨a0, a1, a2, a3⟩ ?_
        · obtain ⟨s0, s1, s2, s3⟩ := hX
          go_simp
        refine anyL_take (i := 3) (v := .pointer (some ⟨w.heap.size + 1, 0, none⟩)) rfl (by kernel_rfl) (by kernel_rfl) (by kernel_rfl) (by kernel_rfl) (fun _ _ _ h => h) (.inl ⟨by rfl, fun X hX => ?_⟩) ⟨a0, a1, a2, a3⟩ ?_
        · obtain ⟨s0, s1, s2, s3⟩ := hX
          go_simp
        refine anyL_take (i := 4) (v := .slice (some ⟨go, 0, none⟩) (V.length + 1) fc) rfl (by kernel_rfl) (by kernel_rfl) (by kernel_rfl) (by kernel_rfl) (fun _ _ _ h => h) (.inl ⟨by rfl, fun X hX => ?_⟩) ⟨a0, a1, a2, a3⟩ ?_
        · obtain ⟨s0, s1, s2, s3⟩ := hX
          go_simp
        refine anyL_take (i := 5) (v := .int .i64 (V.length : Int)) rfl (by kernel_rfl) (by kernel_rfl) (by kernel_rfl) (by kernel_rfl) (fun _ _ _ h => h) (.inl ⟨by rfl, fun X hX => ?_⟩) ⟨a0, a1, a2, a3⟩ ?_
        · obtain ⟨s0, s1, s2, s3⟩ := hX
          go_simp
        refine anyL_take (i := 6) (v := .pointer (some ⟨go, V.length, none⟩)) rfl (by kernel_rfl) (by kernel_rfl) (by kernel_rfl) (by kernel_rfl) (fun _ _ _ h => h) (.inl ⟨by rfl, fun X hX => ?_⟩) ⟨a0, a1, a2, a3⟩ ?_
        · obtain ⟨s0, s1, s2, s3⟩ := hX
          go_simp
        refine anyL_take (i := 7) (v := .slice va vl vc) rfl (by kernel_rfl) (by kernel_rfl) (by kernel_rfl) (by kernel_rfl) (fun _ _ _ h => h) (.inl ⟨by rfl, fun X hX => ?_⟩) ⟨a0, a1, a2, a3⟩ ?_
        · obtain ⟨s0, s1, s2, s3⟩ := hX
          go_simp
        refine anyL_take (i := 8) (v := .pointer (some ⟨wr.heap.size, 0, none⟩)) rfl (by kernel_rfl) (by kernel_rfl) (by kernel_rfl) (by kernel_rfl) (fun _ _ _ h => h) (.inl ⟨by rfl, fun X hX => ?_⟩) ⟨a0, a1, a2, a3⟩ ?_
        · obtain ⟨s0, s1, s2, s3⟩ := hX
          go_simp
        refine anyL_take (i := 9) (v := .int .i64 (s.k : Int)) rfl (by kernel_rfl) (by kernel_rfl) (by kernel_rfl) (by kernel_rfl) (fun _ _ _ h => h) (.inl ⟨by rfl, fun X hX => ?_⟩) ⟨a0, a1, a2, a3⟩ ?_
        · obtain ⟨s0, s1, s2, s3⟩ := hX
          go_simp
        refine anyL_take (i := 10) (v := .pointer (some ⟨wr.heap.size, 1, none⟩)) rfl (by kernel_rfl) (by kernel_rfl) (by kernel_rfl) (by kernel_rfl) (fun _ _ _ h => h) (.inl ⟨by rfl, fun X hX => ?_⟩) ⟨a0, a1, a2, a3⟩ ?_
        · obtain ⟨s0, s1, s2, s3⟩ := hX
          go_simp
        refine anyL_take (i := 11) (v := .slice oa ol oc) rfl (by kernel_rfl) (by kernel_rfl) (by kernel_rfl) (by kernel_rfl) (fun _ _ _ h => h) (.inl ⟨by rfl, fun X hX => ?_⟩) ⟨a0, a1, a2, a3⟩ ?_
        · obtain ⟨s0, s1, s2, s3⟩ := hX
          go_simp
        refine anyL_one (i := 12) (by kernel_rfl) rfl (fun K hK => ?_)
        go_simp
        refine hins.mono ?_
        rintro e w2 ⟨rfl, hb2⟩
        have b0 := C2.still_of_below hb2 _ _ a0
        have b1 := C2.still_of_below hb2 _ _ a1
        have b2 := C2.still_of_below hb2 _ _ a2
        have b3 := C2.still_of_below hb2 _ _ a3
        have k0 := C2.still_alloc w2 (.cells #[.int .i64 i.o, .int .i64 i.a, .int .i64 i.b, .int .i64 i.c] 42) _ _ b0
        have k1 := C2.still_alloc w2 (.cells #[.int .i64 i.o, .int .i64 i.a, .int .i64 i.b, .int .i64 i.c] 42) _ _ b1
        have k2 := C2.still_alloc w2 (.cells #[.int .i64 i.o, .int .i64 i.a, .int .i64 i.b, .int .i64 i.c] 42) _ _ b2
        have k3 := C2.still_alloc w2 (.cells #[.int .i64 i.o, .int .i64 i.a, .int .i64 i.b, .int .i64 i.c] 42) _ _ b3
        have hown2 := owns_same hown1 fun g hg => hb2.block g (hown1.lt g hg).2
        have hsz2 := hb2.size
        simp at hsz2
        refine hK.out _ _ (.inr ⟨b0, b1, b2, b3⟩) ?_
        clear hK K
        refine anyL_one (i := 13) (by kernel_rfl) rfl (fun K hK => ?_)
        go_simp
        refine hK.out _ _ (.inr ⟨k0, k1, k2, k3⟩) ?_
        clear hK K
        refine anyL_one (i := 14) (by kernel_rfl) rfl (fun K hK => ?_)
        refine step_append_lies _ rfl (.tmp 26) (.tmp 32) 39 rfl (w.heap.size + 2) 42 i0 (.agg #[.int .i64 0, .int .i64 0, .int .i64 0, .int .i64 0]) 4 32 Tryd.underlying39 hi hz0 hz1' hz2 rfl (by decide) (.slice va vl vc) f.length (cellsI f) (by simp [Act.eval]) (hown2.alloc _) ⟨w2.heap.size, 0, none⟩ 1 1 (insC i) (by simp [Act.eval]) rfl (C2.insC_new w2 i 42) (C2.insC_one _) (by omega) (by unfold maxLen; omega) (by omega) (by simp; omega) _ rfl ?_
        intro g6 cap6 w6 hown6 hgrow6 hat6 hlt6
        have e6 := (hgrow6.block go (by simp; omega) (fun e => hnego e.symm)).trans ((Below.heap_alloc _ _ _ (by omega)).trans ((hb2.block go (by simp; omega)).trans ((Below.heap_alloc _ _ _ (by omega)).trans hcur)))
        have d6 := hgrow6.cell k1 (fun e => hnego e.symm)
        have f6 := frozen_of_row w6 _ V.length _ _ e6
        have x6 := hgrow6.cell k0 (fun e => absurd (hvB _ e.symm) (by simp))
        have x7 := hgrow6.cell k2 (fun e => hneW e.symm)
        have x8 := hgrow6.cell k3 (fun e => hneW e.symm)
        refine hK.out _ _ (.inr ⟨x6, d6, x7, x8⟩) ?_
        clear hK K
        refine anyL_take (i := 15) (v := .pointer (some ⟨go, V.length, none⟩)) rfl (by kernel_rfl) (by kernel_rfl) (by kernel_rfl) (by kernel_rfl) (fun _ _ _ h => h) (.inl ⟨by rfl, fun X hX => ?_⟩) ⟨x6, d6, x7, x8⟩ ?_
        · obtain ⟨s0, s1, s2, s3⟩ := hX
          go_simp
        refine anyL_one (i := 16) (by kernel_rfl) rfl (fun K hK => ?_)
        go_simp
        refine hK.out _ _ (.inl rfl) ?_
        clear hK K
        refine anyL_done (by kernel_rfl) ?_
        have hP : Hid (Pg w (w6.setCell ⟨go, V.length, none⟩ (.slice (some ⟨g6, 0, none⟩) (f.length + 1) cap6)) (progF (all.take (k + 1))) (some ⟨go, 0, none⟩) (V.length + 1) fc (V ++ [.slice (some ⟨g6, 0, none⟩) (f.length + 1) cap6])) := by
          rw [HNX.out, HST.out]
          have hk3 := (HG1.out.kept hb2).kept (below_one w2 (.cells #[.int .i64 i.o, .int .i64 i.a, .int .i64 i.b, .int .i64 i.c] 42))
          have hf3 := (HF1.out.kept hb2).kept (below_one w2 (.cells #[.int .i64 i.o, .int .i64 i.a, .int .i64 i.b, .int .i64 i.c] 42))
          refine ⟨(Below.heap_setCell _ _ _ _ (by show w.heap.size ≠ go; omega)).trans ((hgrow6.block _ (lt_of_block hk3.out) (fun e => by have := hvB _ e.symm; omega)).trans hk3.out), (Below.heap_setCell _ _ _ _ (by show w.heap.size + 1 ≠ go; omega)).trans ((hgrow6.block _ (lt_of_block hk3.box) (fun e => by have := hvB _ e.symm; omega)).trans hk3.box), hf3.push hgrow6 hown6 hat6, ?_⟩
          exact (hk3.low.trans ⟨hgrow6.os, hgrow6.tape, hgrow6.output, hgrow6.size, fun j hj => hgrow6.block j (by have := hk3.low.size; omega) (fun e => by have := hvB _ e.symm; omega)⟩).setCell (by show w.heap.size ≤ go; omega) _
        clear hown6 hgrow6 hat6 e6 hb2 hown2
        go_wp2_with fail
        go_roundw
        case rel => exact ⟨k + 1, _, _, _, _, by omega, by go_num, hP.out⟩
        case measure => simp [intOf]; omega
    · obtain rfl : k = all.length := by omega
      rw [List.take_length] at hG
      have HP : Hid (PgPost all w (.returned (.agg #[.slice fa fl fc, .int .i64 (progF all).futs, .int .i64 (progF all).depth, .int .i64 (progF all).fuel])) ((((wr.setCell ⟨w.heap.size, 0, none⟩ (.slice fa fl fc)).setCell ⟨w.heap.size, 1, none⟩ (.int .i64 (progF all).futs)).setCell ⟨w.heap.size, 2, none⟩ (.int .i64 (progF all).depth)).setCell ⟨w.heap.size, 3, none⟩ (.int .i64 (progF all).fuel))) := by
        refine ⟨fa, fl, fc, vals, rfl, hG.fns.far fun g h1 h2 => ?_, (((hG.low.setCell (by simp) _).setCell (by simp) _).setCell (by simp) _).setCell (by simp) _⟩
        rw [Below.heap_setCell _ _ _ _ (by simp; omega), Below.heap_setCell _ _ _ _ (by simp; omega), Below.heap_setCell _ _ _ _ (by simp; omega), Below.heap_setCell _ _ _ _ (by simp; omega)]
      have r0 := cell_of_row _ _ 0 _ _ _ hG.box
      have r1 := cell_of_row _ _ 1 _ _ _ hG.box
      have r2 := cell_of_row _ _ 2 _ _ _ hG.box
      have r3 := cell_of_row _ _ 3 _ _ _ hG.box
      have o0 := cell_of_row _ _ 0 _ _ _ hG.out
      have o1 := cell_of_row _ _ 1 _ _ _ hG.out
      have o2 := cell_of_row _ _ 2 _ _ _ hG.out
      have o3 := cell_of_row _ _ 3 _ _ _ hG.out
      have f0 := frozen_of_row _ _ 0 _ _ hG.out
      have f1 := frozen_of_row _ _ 1 _ _ hG.out
      have f2 := frozen_of_row _ _ 2 _ _ hG.out
      have f3 := frozen_of_row _ _ 3 _ _ hG.out
      simp at r0 r1 r2 r3 o0 o1 o2 o3
      clear hG
      go_wp2_with fail
      exact bodyPost_ret (v := .agg #[.slice fa fl fc, .int .i64 (progF all).futs, .int .i64 (progF all).depth, .int .i64 (progF all).fuel]) (by simp [results, Tryd.results27, go_sem, o0, o1, o2, o3]) rfl HP.out
end Go.Proofs.YtnhogbgnnnniaaaDoor
namespace Go.Proofs.YtnhogbgnnnniaaaDoor
open Go.RowKit L3
open C2 (In Pr bigB putE SlF Tab)

/-- what Parse answers at the bytes l -/
def ParsePost (l : List UInt8) (w : World) (e : Ending) (w' : World) : Prop :=
  ∃ fa fl fc, e = .returned (.tuple #[.agg #[.slice fa fl fc, .int .i64 (parseF l).1.futs, .int .i64 (parseF l).1.depth, .int .i64 (parseF l).1.fuel], .int .i64 (parseF l).2.1, .int .i64 (parseF l).2.2]) ∧ SlF w' (.slice fa fl fc) (parseF l).1.fs ∧ Below w.heap.size w w'
theorem slF_nil (w : World) : SlF w (.slice none 0 0) [] := ⟨none, 0, rfl, fun k hk => by simp at hk⟩
theorem parse_none {l : List UInt8} {w w' : World} {x y : Int} (h : parseF l = (pr0, x, y)) (hb : Below w.heap.size w w') : ParsePost l w (.returned (.tuple #[.agg #[.slice none 0 0, .int .i64 0, .int .i64 0, .int .i64 0], .int .i64 x, .int .i64 y])) w' := by
  unfold ParsePost
  rw [h]
  exact ⟨none, 0, 0, rfl, slF_nil _, hb⟩
theorem parse_some {l : List UInt8} {w w' : World} {p : Pr} {fa : Option Addr} {fl fc : Nat} (h : parseF l = (p, 0, 0)) (hF : SlF w' (.slice fa fl fc) p.fs) (hb : Below w.heap.size w w') : ParsePost l w (.returned (.tuple #[.agg #[.slice fa fl fc, .int .i64 p.futs, .int .i64 p.depth, .int .i64 p.fuel], .int .i64 0, .int .i64 0])) w' := by
  unfold ParsePost
  rw [h]
  exact ⟨fa, fl, fc, rfl, hF, hb⟩
theorem stmF_pos : ∀ (T cur : List Tk) (all : List Sm) (last : Int) (x : Int), 0 ≤ last → (∀ t ∈ T, 1 ≤ t.l) → stmF cur all last T = .inl x → 1 ≤ x
  | [], cur, all, last, x, h0, _, hf => by
    unfold stmF at hf
    split at hf
    · simp only [Sum.inl.injEq] at hf; omega
    · simp at hf
  | t :: r, cur, all, last, x, h0, hl, hf => by
    have h1 := hl t (by simp)
    have h2 : ∀ u ∈ r, 1 ≤ u.l := fun u hu => hl u (by simp [hu])
    unfold stmF at hf
    split at hf
    · exact stmF_pos r _ all last x h0 h2 hf
    · split at hf
      · simp only [Sum.inl.injEq] at hf; omega
      · split at hf
        · exact stmF_pos r _ _ _ x (by omega) h2 hf
        · simp only [Sum.inl.injEq] at hf; omega
theorem stmF_cnt : ∀ (T cur : List Tk) (all : List Sm) (last : Int) (out : List Sm), stmF cur all last T = .inr out → out.length ≤ all.length + T.length
  | [], cur, all, last, out, hf => by
    unfold stmF at hf
    split at hf
    · simp at hf
    · simp only [Sum.inr.injEq] at hf; subst hf; simp
  | t :: r, cur, all, last, out, hf => by
    unfold stmF at hf
    split at hf
    · have := stmF_cnt r _ all last out hf; simp; omega
    · split at hf
      · simp at hf
      · split at hf
        · have := stmF_cnt r _ _ _ out hf; simp at this ⊢; omega
        · simp at hf
theorem putE_big {p : Pr} : putE p = 2 ↔ bigB p.fs = true := by
  unfold putE
  constructor
  · intro h
    split at h
    · assumption
    · split at h <;> simp at h
  · intro h
    rw [if_pos h]
def RES : Value := .agg #[.slice none 0 0, .int .i64 0, .int .i64 0, .int .i64 0]
set_option maxRecDepth 4000 in
set_option maxHeartbeats 1000000 in
theorem Parse_any (l : List UInt8) (w : World) (hT : Tab w) (hF : FTab w) : Calls Tryd.prog 9 #[.string (strB l)] w fun e w' => ParsePost l w e w' := by
  have hA := All_c (l := l) (s := strB l) rfl (w.alloc (.cells #[.slice none 0 0, .int .i64 0, .int .i64 0, .int .i64 0] 24))
  have hT1 := hT.below (below_one w (.cells #[.slice none 0 0, .int .i64 0, .int .i64 0, .int .i64 0] 24))
  have hF1 := hF.below (below_one w (.cells #[.slice none 0 0, .int .i64 0, .int .i64 0, .int .i64 0] 24))
  have hgd := (lexF_good l).1
  have htk := lexF_toks l
  have hln := lexF_length l
  have hP : ∀ (x : Int) (y : Int) (T : List Tk), lexF l = (T, x, y) → parseF l = if y ≠ 0 then (pr0, x, y) else match stmF [] [] 0 T with
    | .inl x => (pr0, x, 3)
    | .inr all => if bigB (progF all).fs = true then (pr0, 0, 2) else if outF all ≠ 0 then (pr0, outF all, 3) else (progF all, 0, 0) := fun x y T h => by
    unfold parseF
    rw [h]
    rfl
  obtain ⟨T, x, y, hL⟩ : ∃ T x y, lexF l = (T, x, y) := ⟨_, _, _, rfl⟩
  have hPP := hP x y T hL
  have hA2 : Calls Tryd.prog 25 #[.string (strB l)] (w.alloc (.cells #[.slice none 0 0, .int .i64 0, .int .i64 0, .int .i64 0] 24)) fun e w' => ∃ ta tc, e = .returned (.tuple #[.slice ta T.length tc, .int .i64 x, .int .i64 y]) ∧ SlT w' (.slice ta T.length tc) T ∧ Below (w.alloc (.cells #[.slice none 0 0, .int .i64 0, .int .i64 0, .int .i64 0] 24)).heap.size (w.alloc (.cells #[.slice none 0 0, .int .i64 0, .int .i64 0, .int .i64 0] 24)) w' ∧ T.length ≤ tc ∧ tc ≤ maxLen := by
    refine hA.mono ?_
    rintro e w' ⟨ta, tc, h1, h2, h3, h4, h5⟩
    rw [hL] at h1 h2 h4
    exact ⟨ta, tc, h1, h2, h3, h4, h5⟩
  rw [hL] at hgd htk hln
  simp only at hgd htk hln
  have HPP : Hid (parseF l = _) := hPP
  clear hA hP hL hPP
  go_enter Tryd.func9, Tryd.ntmps9
  go_wp2_with fail
  refine hA2.mono ?_
  rintro e w1 ⟨ta, tc, rfl, hS, hb1, htc, htm⟩
  have hbw : Below w.heap.size w w1 := below_then (below_one _ _) hb1
  have hres : w1.heap[w.heap.size]? = some (.cells #[.slice none 0 0, .int .i64 0, .int .i64 0, .int .i64 0] 24 (0, 0)) := (hb1.block _ (by simp)).trans (heap_alloc_new _ _)
  have o0 := cell_of_row _ _ 0 _ _ _ hres
  have o1 := cell_of_row _ _ 1 _ _ _ hres
  have o2 := cell_of_row _ _ 2 _ _ _ hres
  have o3 := cell_of_row _ _ 3 _ _ _ hres
  have f0 := frozen_of_row _ _ 0 _ _ hres
  have f1 := frozen_of_row _ _ 1 _ _ hres
  have f2 := frozen_of_row _ _ 2 _ _ hres
  have f3 := frozen_of_row _ _ 3 _ _ hres
  simp at o0 o1 o2 o3
  by_cases hy : y = 0
  · subst hy
    have hst := statements_any T ta tc w1 hS htc (by unfold maxLen at htm; omega) (hF1.below hb1) hln hgd htk
    have hT2 := hT1.below hb1
    have hp0 := HPP.out
    rw [if_neg (by simp)] at hp0
    have HP0 : Hid (parseF l = _) := hp0
    clear hp0 HPP o0 o1 o2 o3 f0 f1 f2 f3 hT1 hF1 hS htc htm
    go_wp2_with fail
    refine hst.mono ?_
    rintro e w2 ⟨hb2, hcase⟩
    have hbw2 : Below w.heap.size w w2 := below_then hbw hb2
    have hresa : w2.heap[w.heap.size]? = some (.cells #[.slice none 0 0, .int .i64 0, .int .i64 0, .int .i64 0] 24 (0, 0)) := (hb2.block _ (lt_of_block hres)).trans hres
    have o0a := cell_of_row _ _ 0 _ _ _ hresa
    have o1a := cell_of_row _ _ 1 _ _ _ hresa
    have o2a := cell_of_row _ _ 2 _ _ _ hresa
    have o3a := cell_of_row _ _ 3 _ _ _ hresa
    have f0a := frozen_of_row _ _ 0 _ _ hresa
    have f1a := frozen_of_row _ _ 1 _ _ hresa
    have f2a := frozen_of_row _ _ 2 _ _ hresa
    have f3a := frozen_of_row _ _ 3 _ _ hresa
    simp at o0a o1a o2a o3a
    rcases hcase with ⟨z, hs, rfl⟩ | ⟨all, sa, sc, hs, rfl, hSS⟩
    · have hz := stmF_pos T [] [] 0 z (by omega) (fun t ht => (htk t ht).2.1) hs
      have e1 : (z != 0) = true := by simp; omega
      have HP2 : Hid (ParsePost l w (.returned (.tuple #[.agg #[.slice none 0 0, .int .i64 0, .int .i64 0, .int .i64 0], .int .i64 z, .int .i64 3])) ((((w2.setCell ⟨w.heap.size, 0, none⟩ (.slice none 0 0)).setCell ⟨w.heap.size, 1, none⟩ (.int .i64 0)).setCell ⟨w.heap.size, 2, none⟩ (.int .i64 0)).setCell ⟨w.heap.size, 3, none⟩ (.int .i64 0))) := parse_none (by rw [HP0.out, hs]) ((((hbw2.setCell (by simp) _).setCell (by simp) _).setCell (by simp) _).setCell (by simp) _)
      clear hst HP0 hs hb1 hb2 hbw hbw2 hres hresa hz
      go_wp2_with fail
      exact bodyPost_ret (v := .tuple #[.agg #[.slice none 0 0, .int .i64 0, .int .i64 0, .int .i64 0], .int .i64 z, .int .i64 3]) (by simp [results, Tryd.results9, go_sem, o0a, o1a, o2a, o3a]) rfl HP2.out
    · obtain ⟨hoks, h3⟩ := stmF_ok T [] [] 0 all oks_nil hs
      have hcnt := stmF_cnt T [] [] 0 all hs
      simp at hcnt
      obtain ⟨hbd1, hbd2⟩ := progF_bd all
      have hpg := program_any all sa sc w2 hSS hoks (by omega)
      have hp1 := HP0.out
      rw [hs] at hp1
      simp only at hp1
      obtain ⟨p, hpp⟩ : ∃ p, progF all = p := ⟨_, rfl⟩
      unfold PgPost at hpg
      rw [hpp] at hp1 hbd1 hbd2 hpg
      have HP1 : Hid (parseF l = _) := hp1
      clear hst HP0 hs hp1 hpp
      have hT3 := hT2.below hb2
      go_wp2_with fail
      refine hpg.mono ?_
      rintro e w3 ⟨fa, fl, fc, vals, rfl, hFn3, hb3⟩
      have hF3 := hFn3.slF
      have hF4 := C2.SlF.kept hF3 (below_one w3 (.cells #[.slice fa fl fc, .int .i64 p.futs, .int .i64 p.depth, .int .i64 p.fuel] 24))
      have hT4 := (hT3.below hb3).below (below_one w3 (.cells #[.slice fa fl fc, .int .i64 p.futs, .int .i64 p.depth, .int .i64 p.fuel] 24))
      have hput := C2.Put_any p (.slice fa fl fc) (w3.alloc (.cells #[.slice fa fl fc, .int .i64 p.futs, .int .i64 p.depth, .int .i64 p.fuel] 24)) hT4 hF4 (by omega) (fun f hf => by have := hbd2 f hf; omega)
      obtain ⟨S, hSd⟩ : ∃ S, C2.strB (C2.putT p) = S := ⟨_, rfl⟩
      obtain ⟨q, hq⟩ : ∃ q, putE p = q := ⟨_, rfl⟩
      have hqb := putE_big (p := p)
      rw [hSd, hq] at hput
      rw [hq] at hqb
      have HQB : Hid (q = 2 ↔ bigB p.fs = true) := hqb
      clear hSd hq hqb o0a o1a o2a o3a f0a f1a f2a f3a hpg
      go_wp2_with fail
      refine hput.mono ?_
      rintro e w4 ⟨rfl, hb4⟩
      have hb34 : Below w2.heap.size w2 w4 := below_then (below_then hb3 (below_one _ _)) hb4
      have hbw4 : Below w.heap.size w w4 := below_then hbw2 hb34
      have hresb : w4.heap[w.heap.size]? = some (.cells #[.slice none 0 0, .int .i64 0, .int .i64 0, .int .i64 0] 24 (0, 0)) := (hb34.block _ (lt_of_block hresa)).trans hresa
      have o0b := cell_of_row _ _ 0 _ _ _ hresb
      have o1b := cell_of_row _ _ 1 _ _ _ hresb
      have o2b := cell_of_row _ _ 2 _ _ _ hresb
      have o3b := cell_of_row _ _ 3 _ _ _ hresb
      have f0b := frozen_of_row _ _ 0 _ _ hresb
      have f1b := frozen_of_row _ _ 1 _ _ hresb
      have f2b := frozen_of_row _ _ 2 _ _ hresb
      have f3b := frozen_of_row _ _ 3 _ _ hresb
      simp at o0b o1b o2b o3b
      by_cases hq2 : q = 2
      · subst hq2
        have HP2 : Hid (ParsePost l w (.returned (.tuple #[.agg #[.slice none 0 0, .int .i64 0, .int .i64 0, .int .i64 0], .int .i64 0, .int .i64 2])) ((((w4.setCell ⟨w.heap.size, 0, none⟩ (.slice none 0 0)).setCell ⟨w.heap.size, 1, none⟩ (.int .i64 0)).setCell ⟨w.heap.size, 2, none⟩ (.int .i64 0)).setCell ⟨w.heap.size, 3, none⟩ (.int .i64 0))) := parse_none (by rw [HP1.out, if_pos (HQB.out.1 rfl)]) ((((hbw4.setCell (by simp) _).setCell (by simp) _).setCell (by simp) _).setCell (by simp) _)
        clear hput HP1 HQB hb1 hb2 hbw hbw2 hres hresa hresb hb34 hbw4 hb4 hb3
        go_wp2_with fail
        exact bodyPost_ret (v := .tuple #[.agg #[.slice none 0 0, .int .i64 0, .int .i64 0, .int .i64 0], .int .i64 0, .int .i64 2]) (by simp [results, Tryd.results9, go_sem, o0b, o1b, o2b, o3b]) rfl HP2.out
      · have e2 : (q == 2) = false := by simpa using hq2
        have hnb : ¬ bigB p.fs = true := fun h => hq2 (HQB.out.2 h)
        have hfo := firstOut_any all sa sc w4 (hT3.below hb34) (hSS.kept hb34) hoks (by omega)
        have hp2 := HP1.out
        rw [if_neg hnb] at hp2
        obtain ⟨oo, hoo⟩ : ∃ x, outF all = x := ⟨_, rfl⟩
        rw [hoo] at hfo hp2
        have HP3 : Hid (parseF l = _) := hp2
        have hbox4 : w4.heap[w3.heap.size]? = some (.cells #[.slice fa fl fc, .int .i64 p.futs, .int .i64 p.depth, .int .i64 p.fuel] 24 (0, 0)) := (hb4.block _ (by simp)).trans (heap_alloc_new _ _)
        clear hput HP1 HQB hp2 hoo o0b o1b o2b o3b f0b f1b f2b f3b
        go_wp2_with fail
        refine hfo.mono ?_
        rintro e w5 ⟨rfl, hb5⟩
        have hbw5 : Below w.heap.size w w5 := below_then hbw4 hb5
        have hresc : w5.heap[w.heap.size]? = some (.cells #[.slice none 0 0, .int .i64 0, .int .i64 0, .int .i64 0] 24 (0, 0)) := (hb5.block _ (lt_of_block hresb)).trans hresb
        have o0c := cell_of_row _ _ 0 _ _ _ hresc
        have o1c := cell_of_row _ _ 1 _ _ _ hresc
        have o2c := cell_of_row _ _ 2 _ _ _ hresc
        have o3c := cell_of_row _ _ 3 _ _ _ hresc
        have f0c := frozen_of_row _ _ 0 _ _ hresc
        have f1c := frozen_of_row _ _ 1 _ _ hresc
        have f2c := frozen_of_row _ _ 2 _ _ hresc
        have f3c := frozen_of_row _ _ 3 _ _ hresc
        simp at o0c o1c o2c o3c
        by_cases ho0 : oo = 0
        · subst ho0
          have hbox5 := (hb5.block _ (lt_of_block hbox4)).trans hbox4
          have x0 := cell_of_row _ _ 0 _ _ _ hbox5
          have x1 := cell_of_row _ _ 1 _ _ _ hbox5
          have x2 := cell_of_row _ _ 2 _ _ _ hbox5
          have x3 := cell_of_row _ _ 3 _ _ _ hbox5
          simp at x0 x1 x2 x3
          have hwl := lt_of_block hres
          have hs3 := hb3.size
          have hs2 := hb2.size
          have hF7 : SlF ((((w5.setCell ⟨w.heap.size, 0, none⟩ (.slice fa fl fc)).setCell ⟨w.heap.size, 1, none⟩ (.int .i64 p.futs)).setCell ⟨w.heap.size, 2, none⟩ (.int .i64 p.depth)).setCell ⟨w.heap.size, 3, none⟩ (.int .i64 p.fuel)) (.slice fa fl fc) p.fs := by
            refine ((((hFn3.kept (below_one _ _)).kept hb4).kept hb5).far fun g h1 h2 => ?_).slF
            rw [Below.heap_setCell _ _ _ _ (by show g ≠ w.heap.size; omega), Below.heap_setCell _ _ _ _ (by show g ≠ w.heap.size; omega), Below.heap_setCell _ _ _ _ (by show g ≠ w.heap.size; omega), Below.heap_setCell _ _ _ _ (by show g ≠ w.heap.size; omega)]
          have HP2 : Hid (ParsePost l w (.returned (.tuple #[.agg #[.slice fa fl fc, .int .i64 p.futs, .int .i64 p.depth, .int .i64 p.fuel], .int .i64 0, .int .i64 0])) ((((w5.setCell ⟨w.heap.size, 0, none⟩ (.slice fa fl fc)).setCell ⟨w.heap.size, 1, none⟩ (.int .i64 p.futs)).setCell ⟨w.heap.size, 2, none⟩ (.int .i64 p.depth)).setCell ⟨w.heap.size, 3, none⟩ (.int .i64 p.fuel))) := parse_some (by rw [HP3.out]; simp) hF7 ((((hbw5.setCell (by simp) _).setCell (by simp) _).setCell (by simp) _).setCell (by simp) _)
          clear hfo HP3 hb1 hb2 hbw hbw2 hres hresa hresb hresc hb34 hbw4 hb4 hb3 hb5 hbw5 hbox4 hbox5
          go_wp2_with fail
          exact bodyPost_ret (v := .tuple #[.agg #[.slice fa fl fc, .int .i64 p.futs, .int .i64 p.depth, .int .i64 p.fuel], .int .i64 0, .int .i64 0]) (by simp [results, Tryd.results9, go_sem, o0c, o1c, o2c, o3c]) rfl HP2.out
        · have e3 : (oo != 0) = true := by simpa using ho0
          have HP2 : Hid (ParsePost l w (.returned (.tuple #[.agg #[.slice none 0 0, .int .i64 0, .int .i64 0, .int .i64 0], .int .i64 oo, .int .i64 3])) ((((w5.setCell ⟨w.heap.size, 0, none⟩ (.slice none 0 0)).setCell ⟨w.heap.size, 1, none⟩ (.int .i64 0)).setCell ⟨w.heap.size, 2, none⟩ (.int .i64 0)).setCell ⟨w.heap.size, 3, none⟩ (.int .i64 0))) := parse_none (by rw [HP3.out, if_pos ho0]) ((((hbw5.setCell (by simp) _).setCell (by simp) _).setCell (by simp) _).setCell (by simp) _)
          clear hfo HP3 hb1 hb2 hbw hbw2 hres hresa hresb hresc hb34 hbw4 hb4 hb3 hb5 hbw5 hbox4
          go_wp2_with fail
          exact bodyPost_ret (v := .tuple #[.agg #[.slice none 0 0, .int .i64 0, .int .i64 0, .int .i64 0], .int .i64 oo, .int .i64 3]) (by simp [results, Tryd.results9, go_sem, o0c, o1c, o2c, o3c]) rfl HP2.out
  · have e1 : (y != 0) = true := by simpa using hy
    have hp : parseF l = (pr0, x, y) := by rw [HPP.out, if_pos hy]
    have HP := fun (W : World) (hb : Below w.heap.size w W) => parse_none (w' := W) hp hb
    have HP2 : Hid (ParsePost l w (.returned (.tuple #[.agg #[.slice none 0 0, .int .i64 0, .int .i64 0, .int .i64 0], .int .i64 x, .int .i64 y])) ((((w1.setCell ⟨w.heap.size, 0, none⟩ (.slice none 0 0)).setCell ⟨w.heap.size, 1, none⟩ (.int .i64 0)).setCell ⟨w.heap.size, 2, none⟩ (.int .i64 0)).setCell ⟨w.heap.size, 3, none⟩ (.int .i64 0))) := HP _ ((((hbw.setCell (by simp) _).setCell (by simp) _).setCell (by simp) _).setCell (by simp) _)
    clear HP hp HPP hb1 hbw hres
    go_wp2_with fail
    exact bodyPost_ret (v := .tuple #[.agg #[.slice none 0 0, .int .i64 0, .int .i64 0, .int .i64 0], .int .i64 x, .int .i64 y]) (by simp [results, Tryd.results9, go_sem, o0, o1, o2, o3]) rfl HP2.out
end Go.Proofs.YtnhogbgnnnniaaaDoor
namespace Go.Proofs.YtnhogbgnnnniaaaDoor
open Go.RowKit L3
open C2 (In Pr SlF SlI InsAt Tab)

/-- a program's functions in memory, opened -/
theorem slF_at {w : World} {fa : Option Addr} {fl fc : Nat} {fs : List (List In)} (h : SlF w (.slice fa fl fc) fs) : fl = fs.length ∧ ∀ k (_ : k < fs.length), ∃ g f ia ic, fa = some ⟨g, f, none⟩ ∧ w.cell? ⟨g, f + k, none⟩ = some (.slice ia fs[k].length ic) ∧ SlI w (.slice ia fs[k].length ic) fs[k] := by
  obtain ⟨a, c, e, hk⟩ := h
  simp at e
  obtain ⟨rfl, rfl, rfl⟩ := e
  refine ⟨rfl, fun k hk' => ?_⟩
  obtain ⟨g, f, u, e2, hc, hi⟩ := hk k hk'
  have hi2 := hi
  obtain ⟨ia, ic, rfl, _⟩ := hi2
  exact ⟨g, f, ia, ic, e2, hc, hi⟩
theorem slI_at {w : World} {a : Option Addr} {n c : Nat} {xs : List In} (h : SlI w (.slice a n c) xs) : ∀ k (_ : k < xs.length), ∃ g f, a = some ⟨g, f, none⟩ ∧ InsAt w g (f + k * 4) xs[k] := by
  obtain ⟨a', c', e, hk⟩ := h
  simp at e
  obtain ⟨rfl, rfl, rfl⟩ := e
  exact hk
set_option maxRecDepth 4000 in
theorem awake_any (w : World) (hT : Tab w) (hF : FTab w) : Calls Tryd.prog 8 #[] w fun e w' => e = .returned (.bool true) ∧ Below w.heap.size w w' := by
  have h1 := Parse_any (headS ++ ret0S) w hT hF
  have H1 : Hid (Calls Tryd.prog 9 #[.string ⟨#[102, 117, 116, 117, 114, 101, 115, 32, 48, 10, 100, 101, 112, 116, 104, 32, 48, 10, 102, 117, 101, 108, 32, 49, 10, 102, 117, 110, 99, 116, 105, 111, 110, 10, 114, 101, 116, 32, 48, 10]⟩] w fun e w' => ParsePost (headS ++ ret0S) w e w') := h1
  clear h1
  go_enter Tryd.func8, Tryd.ntmps8
  go_wp2_with fail
  refine H1.out.mono ?_
  rintro e w1 ⟨fa, fl, fc, he, hS, hb⟩
  rw [awake_parse] at he hS
  simp only at he hS
  subst he
  obtain ⟨rfl, hk⟩ := slF_at hS
  obtain ⟨g, f, ia, ic, rfl, c0, hI⟩ := hk 0 (by simp)
  obtain ⟨g2, f2, rfl, hi⟩ := slI_at hI 0 (by simp)
  have c1 := hi.c0
  simp at c0 c1
  have hg := block_lt_of_cell c0
  have hg2 := block_lt_of_cell c1
  have HB : Hid (Below w.heap.size w w1) := hb
  clear H1 hk hS hI hi hb
  simp only [List.length_cons, List.length_nil]
  go_wp2_with fail
  go_ret
  exact ⟨rfl, below_alloc HB.out _⟩
end Go.Proofs.YtnhogbgnnnniaaaDoor
namespace Go.Proofs.YtnhogbgnnnniaaaDoor
open Go.RowKit L3
open C2 (Tab)

theorem Parse_l {l : List UInt8} {s : ByteArray} (hs : s = strB l) (w : World) (hT : Tab w) (hF : FTab w) : Calls Tryd.prog 9 #[.string s] w fun e w' => ParsePost l w e w' := by
  subst hs
  exact Parse_any l w hT hF
theorem reps_length : ∀ n, (reps n).length = 6 * n
  | 0 => rfl
  | n + 1 => by rw [reps, List.length_append, reps_length n]; simp [yieldS]; omega
theorem bad_length : ∀ k, k < 8 → (badS k).length ≤ 14 := by decide
theorem place_nat (a n : Int) (h : 0 < n) : ∃ k : Nat, placeI a n = (k : Int) ∧ (k : Int) < n := by
  obtain ⟨h1, h2⟩ := placeI_bd a n h
  exact ⟨(placeI a n).toNat, by omega, by omega⟩
/-- what the walk needs of its texts: R j, the text behind j rounds -/
structure ShAt (R : Nat → List UInt8) (bl tl rl : List UInt8) (n : Nat) : Prop where
  f0 : strB (R 0) = ⟨#[102, 117, 116, 117, 114, 101, 115, 32, 48, 10, 100, 101, 112, 116, 104, 32, 48, 10, 102, 117, 101, 108, 32, 49, 10, 102, 117, 110, 99, 116, 105, 111, 110, 10]⟩
  fs : ∀ j, strB (R j) ++ ⟨#[121, 105, 101, 108, 100, 10]⟩ = strB (R (j + 1))
  fl : ∀ j, j ≤ n → (R j).length ≤ 200
  fb : bl.length ≤ 14
  ft : strB tl = ⟨#[10, 114, 101, 116, 32, 48, 10, 114, 101, 116, 32, 57, 10]⟩
  fg : strB rl = ⟨#[114, 101, 116, 32, 48, 10]⟩
  bad : ∃ p, parseF (R n ++ bl ++ tl) = (p, ((n : Int) + 5, 3)) ∧ p.fs = []
  good : ∃ p x f, parseF (R n ++ rl) = (p, (x, 0)) ∧ p.fs = [f] ∧ f.length = n + 1
theorem shAt {n k : Nat} (hn : n < 20) (hk : k < 8) : ∃ R tl rl, ShAt R (badS k) tl rl n :=
  ⟨fun j => headS ++ reps j, tailS, ret0S, ⟨by rfl, fun j => by rw [show headS ++ reps (j + 1) = (headS ++ reps j) ++ yieldS by simp [reps]]; exact strB_append _ yieldS, fun j hj => by rw [List.length_append, reps_length]; simp [headS]; omega, bad_length k hk, by rfl, by rfl, sh_bad_at hn hk, sh_good_at hn⟩⟩
end Go.Proofs.YtnhogbgnnnniaaaDoor
