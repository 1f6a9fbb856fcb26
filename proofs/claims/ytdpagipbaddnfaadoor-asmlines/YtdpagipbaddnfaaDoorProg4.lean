/-
  program: what it makes of lines.
-/
import Derived.Test.YtdpagipbaddnfaaDoorFns
import Derived.Test.YtdpagipbaddnfaaDoorRange
import Derived.Test.YtdpagipbaddnfaaDoorLast
namespace Go.Proofs.YtdpagipbaddnfaaDoor
open Go.RowKit L3
open C2 (In Pr insC cellsI)

/-- the loop over the lines, behind n of them -/
structure Pg (w wr : World) (p : Pr) (fa : Option Addr) (fl fc : Nat) (vals : List Value) : Prop where
  out : wr.heap[w.heap.size]? = some (.cells #[.slice none 0 0, .int .i64 0, .int .i64 0, .int .i64 0] 24 (0, 0))
  box : wr.heap[w.heap.size + 1]? = some (.cells #[.slice fa fl fc, .int .i64 p.futs, .int .i64 p.depth, .int .i64 p.fuel] 24 (0, 0))
  fns : Fns wr (w.heap.size + 2) (.slice fa fl fc) p.fs vals
  low : Below w.heap.size w wr
section
variable {w wr : World} {p : Pr} {fa : Option Addr} {fl fc : Nat} {vals : List Value}
theorem Pg.kept (h : Pg w wr p fa fl fc vals) {w1 : World} (hb : Below wr.heap.size wr w1) : Pg w w1 p fa fl fc vals :=
  ⟨(hb.block _ (lt_of_block h.out)).trans h.out, (hb.block _ (lt_of_block h.box)).trans h.box, h.fns.kept hb, h.low.trans (hb.mono h.low.size)⟩
theorem Pg.set (h : Pg w wr p fa fl fc vals) (j : Nat) (x : Int) {p' : Pr} (hf : p'.fs = p.fs) (he : (#[.slice fa fl fc, .int .i64 p.futs, .int .i64 p.depth, .int .i64 p.fuel] : Array Value).setIfInBounds j (.int .i64 x) = #[.slice fa fl fc, .int .i64 p'.futs, .int .i64 p'.depth, .int .i64 p'.fuel]) : Pg w (wr.setCell ⟨w.heap.size + 1, j, none⟩ (.int .i64 x)) p' fa fl fc vals := by
  refine ⟨(Below.heap_setCell _ _ _ _ (by simp)).trans h.out, ?_, ?_, h.low.setCell (by simp) _⟩
  · rw [heap_setCell_same _ _ _ _ _ _ h.box, he]
  · rw [hf]
    exact h.fns.far fun g h1 h2 => Below.heap_setCell _ _ _ _ (by show g ≠ w.heap.size + 1; omega)
end
theorem Pg.start (w : World) : Pg w ((w.alloc (.cells #[.slice none 0 0, .int .i64 0, .int .i64 0, .int .i64 0] 24)).alloc (.cells #[.slice none 0 0, .int .i64 0, .int .i64 0, .int .i64 0] 24)) pr0 none 0 0 [] :=
  ⟨heap_alloc2_old _ _ _, heap_alloc2_new _ _ _, Fns.nil _ _, two_old _ _⟩
def PgPost (all : List Sm) (w : World) (e : Ending) (w' : World) : Prop := ∃ fa fl fc vals, e = .returned (.agg #[.slice fa fl fc, .int .i64 (progF all).futs, .int .i64 (progF all).depth, .int .i64 (progF all).fuel]) ∧ Fns w' (w.heap.size + 2) (.slice fa fl fc) (progF all).fs vals ∧ Below w.heap.size w w'
set_option maxRecDepth 4000 in
set_option maxHeartbeats 4000000 in
theorem program_any (all : List Sm) (sa : Option Addr) (sc : Nat) (w : World) (hS : SlS w (.slice sa all.length sc) all) (ho : Oks all) (hn : all.length ≤ 20000) :
    Calls Tryd.prog 22 #[.slice sa all.length sc] w fun e w' => PgPost all w e w' := by
  obtain ⟨i0, hi, hz0, hz1', hz2⟩ := info_parts C2.infoIns
  obtain ⟨i1, ki, kz0, kz1, kz2⟩ := info_parts C2.infoFns
  have hG0 := Pg.start w
  go_enter Tryd.func22, Tryd.ntmps22
  go_wp2_with fail
  go_loopw [9] (fun i wr => ∃ (k : Nat) (fa : Option Addr) (fl fc : Nat) (vals : List Value), k ≤ all.length ∧ i = .int .i64 k ∧ Pg w wr (progF (all.take k)) fa fl fc vals) (fun i _ => all.length - (intOf i).toNat)
  case atStart => exact ⟨0, none, 0, 0, [], by omega, rfl, hG0⟩
  case round =>
    obtain ⟨k, fa, fl, fc, vals, hk, rfl, hG⟩ := hrel
    clear hG0
    have hxb := lt_of_block hG.box
    have hxo := lt_of_block hG.out
    by_cases hlt : k < all.length
    · obtain ⟨g, f, oa, ol, oc, rfl, c0, c1, c2, hN⟩ := (hS.kept hG.low).at hlt
      have hg := block_lt_of_cell c0
      have hok := ho k hlt
      have hnx : progF (all.take (k + 1)) = stepP (progF (all.take k)) all[k] := by rw [List.take_succ_eq_append_getElem hlt, progF_snoc]
      have hpos := fun h => progF_fs ho k h (by omega)
      have hbd := progF_bd (all.take k)
      have h15 := fun h => ho.fs k hlt h
      obtain ⟨s, hs⟩ : ∃ s, all[k] = s := ⟨_, rfl⟩
      rw [hs] at c0 c2 hN hok hnx h15
      obtain ⟨p, hp⟩ : ∃ p, progF (all.take k) = p := ⟨_, rfl⟩
      rw [hp] at hG hnx hpos hbd
      have HNX : Hid (progF (all.take (k + 1)) = stepP p s) := hnx
      have hops := hok.ops
      have hhi := hok.hi
      have hlo := hok.lo
      have hG1 := hG.kept (below_one wr (.cells #[.int .i64 (s.k : Int), .slice oa ol oc, .int .i64 s.l] 102))
      have hN1 := hN.kept (below_one wr (.cells #[.int .i64 (s.k : Int), .slice oa ol oc, .int .i64 s.l] 102))
      have r0 := cell_of_row _ _ 0 _ _ _ hG.box
      have r1 := cell_of_row _ _ 1 _ _ _ hG.box
      have r2 := cell_of_row _ _ 2 _ _ _ hG.box
      have r3 := cell_of_row _ _ 3 _ _ _ hG.box
      have f0 := frozen_of_row _ _ 0 _ _ hG.box
      have f1 := frozen_of_row _ _ 1 _ _ hG.box
      have f2 := frozen_of_row _ _ 2 _ _ hG.box
      have f3 := frozen_of_row _ _ 3 _ _ hG.box
      simp at r0 r1 r2 r3
      clear hs hp hnx hok
      have hk5 : s.k = 16 ∨ s.k = 17 ∨ s.k = 18 ∨ s.k = 19 ∨ s.k ≤ 15 := by omega
      rcases hk5 with h16 | h17 | h18 | h19 | h15'
      · obtain ⟨g2, f2', c2', e2, hx⟩ := one_op hN (by have : opsOf 16 = 1 := rfl; rw [h16] at hops; omega)
        simp at e2
        obtain ⟨rfl, rfl, rfl⟩ := e2
        have hg2 := block_lt_of_cell hx
        have e1 : ((s.k : Int) == 16) = true := by simp [h16]
        have hP : Hid (Pg w ((wr.setCell ⟨w.heap.size + 1, 1, none⟩ (.int .i64 (x0 s.xs))).alloc (.cells #[.int .i64 (s.k : Int), .slice (some ⟨g2, f2', none⟩) 1 oc, .int .i64 s.l] 102)) (progF (all.take (k + 1))) fa fl fc vals) := by
          rw [HNX.out]
          exact (hG.set 1 (x0 s.xs) (by simp [stepP, h16]) (by simp [stepP, h16])).kept (below_one _ _)
        clear hG hG1 hN hN1 h16 hops hpos hbd h15
        go_wp2_with fail
        go_roundw
        case rel => exact ⟨k + 1, fa, fl, fc, vals, by omega, by go_num, hP.out⟩
        case measure => simp [intOf]; omega
      · obtain ⟨g2, f2', c2', e2, hx⟩ := one_op hN (by have : opsOf 17 = 1 := rfl; rw [h17] at hops; omega)
        simp at e2
        obtain ⟨rfl, rfl, rfl⟩ := e2
        have hg2 := block_lt_of_cell hx
        have e0 : ((s.k : Int) == 16) = false := by simp [h17]
        have e1 : ((s.k : Int) == 17) = true := by simp [h17]
        have hP : Hid (Pg w ((wr.setCell ⟨w.heap.size + 1, 2, none⟩ (.int .i64 (x0 s.xs))).alloc (.cells #[.int .i64 (s.k : Int), .slice (some ⟨g2, f2', none⟩) 1 oc, .int .i64 s.l] 102)) (progF (all.take (k + 1))) fa fl fc vals) := by
          rw [HNX.out]
          exact (hG.set 2 (x0 s.xs) (by simp [stepP, h17]) (by simp [stepP, h17])).kept (below_one _ _)
        clear hG hG1 hN hN1 h17 hops hpos hbd h15
        go_wp2_with fail
        go_roundw
        case rel => exact ⟨k + 1, fa, fl, fc, vals, by omega, by go_num, hP.out⟩
        case measure => simp [intOf]; omega
      · obtain ⟨g2, f2', c2', e2, hx⟩ := one_op hN (by have : opsOf 18 = 1 := rfl; rw [h18] at hops; omega)
        simp at e2
        obtain ⟨rfl, rfl, rfl⟩ := e2
        have hg2 := block_lt_of_cell hx
        have e0 : ((s.k : Int) == 16) = false := by simp [h18]
        have e00 : ((s.k : Int) == 17) = false := by simp [h18]
        have e1 : ((s.k : Int) == 18) = true := by simp [h18]
        have hP : Hid (Pg w ((wr.setCell ⟨w.heap.size + 1, 3, none⟩ (.int .i64 (x0 s.xs))).alloc (.cells #[.int .i64 (s.k : Int), .slice (some ⟨g2, f2', none⟩) 1 oc, .int .i64 s.l] 102)) (progF (all.take (k + 1))) fa fl fc vals) := by
          rw [HNX.out]
          exact (hG.set 3 (x0 s.xs) (by simp [stepP, h18]) (by simp [stepP, h18])).kept (below_one _ _)
        clear hG hG1 hN hN1 h18 hops hpos hbd h15
        go_wp2_with fail
        go_roundw
        case rel => exact ⟨k + 1, fa, fl, fc, vals, by omega, by go_num, hP.out⟩
        case measure => simp [intOf]; omega
      · have e1 : ((s.k : Int) == 16) = false := by simp [h19]
        have e2 : ((s.k : Int) == 17) = false := by simp [h19]
        have e3 : ((s.k : Int) == 18) = false := by simp [h19]
        have e4 : ((s.k : Int) == 19) = true := by simp [h19]
        have hG2 := hG1.kept (below_one (wr.alloc (.cells #[.int .i64 (s.k : Int), .slice oa ol oc, .int .i64 s.l] 102)) (.cells #[.slice none 0 0] 45))
        have hrow2 := hG2.fns.row
        have hvl : vals.length ≤ 20001 := by have := hG.fns.len; have := hbd.1; simp at this; omega
        have hST : stepP p s = ⟨p.fs ++ [[]], p.futs, p.depth, p.fuel⟩ := by simp [stepP, h19]
        clear hG hG1 hN hN1 h19 hops hpos hbd h15
        go_wp2_with (at_builtin; refine wpList_append_own _ rfl _ _ 22 rfl (w.heap.size + 2) 45 i1 (.slice none 0 0) 1 24 Tryd.underlying22 ki kz0 kz1 kz2 rfl (by decide) _ _ _ rfl hrow2 ⟨wr.heap.size + 1, 0, none⟩ 1 1 [.slice none 0 0] rfl rfl ?d1 ?d2 ?d3 ?d4 ?d5 ?_)
        case d2 => rfl
        case d3 => unfold maxLen; omega
        case d4 => omega
        case d5 => omega
        intro v' w4 hown4 hgrow _
        obtain ⟨gg, cap, rfl⟩ := row_some hown4
        have hF4 := hG2.fns.more hgrow hown4
        have hblk : ∀ g, (Value.slice fa fl fc).ownBlock = some g → w.heap.size + 2 ≤ g := fun g hg => own_blk hG2.fns.row hg
        have hout4 := (hgrow.block _ (lt_of_block hG2.out) (fun e => by have := hblk _ e.symm; omega)).trans hG2.out
        have hbox4 := (hgrow.block _ (lt_of_block hG2.box) (fun e => by have := hblk _ e.symm; omega)).trans hG2.box
        have hsz := hgrow.size
        simp at hsz
        have hP : Hid (Pg w (w4.setCell ⟨w.heap.size + 1, 0, none⟩ (.slice (some ⟨gg, 0, none⟩) (vals.length + 1) cap)) (progF (all.take (k + 1))) (some ⟨gg, 0, none⟩) (vals.length + 1) cap (vals ++ [.slice none 0 0])) := by
          rw [HNX.out, hST]
          refine ⟨(Below.heap_setCell _ _ _ _ (by simp)).trans hout4, ?_, hF4.far fun g h1 h2 => Below.heap_setCell _ _ _ _ (by show g ≠ w.heap.size + 1; omega), ?_⟩
          · rw [heap_setCell_same _ _ _ _ _ _ hbox4]
            rfl
          · exact (hG2.low.trans ⟨hgrow.os, hgrow.tape, hgrow.output, hgrow.size, fun j hj => hgrow.block j (by simp; omega) (fun e => by have := hblk _ e.symm; omega)⟩).setCell (by simp) _
        have t0 := cell_of_row _ _ 0 _ _ _ hbox4
        have t1 := frozen_of_row _ _ 0 _ _ hbox4
        simp at t0
        clear hG2 hF4 hblk hout4 hbox4 hgrow hown4 hrow2
        go_wp2_with fail
        go_roundw
        case rel => exact ⟨k + 1, _, _, _, _, by omega, by go_num, hP.out⟩
        case measure => simp [intOf]; omega
      · have e1 : ((s.k : Int) == 16) = false := by simp; omega
        have e2 : ((s.k : Int) == 17) = false := by simp; omega
        have e3 : ((s.k : Int) == 18) = false := by simp; omega
        have e4 : ((s.k : Int) == 19) = false := by simp; omega
        have h3 : s.xs.length ≤ 3 := by have := opsOf_bd s.k; omega
        have hne : p.fs ≠ [] := by have := hpos (h15 h15'); intro e; rw [e] at this; simp at this
        obtain ⟨i, hii⟩ : ∃ i, insOf s.k s.xs = i := ⟨_, rfl⟩
        have hST : stepP p s = ⟨pushL p.fs i, p.futs, p.depth, p.fuel⟩ := by
          unfold stepP
          rw [if_neg (by omega), if_neg (by omega), if_neg (by omega), if_neg (by omega), hii]
        have hins : Calls Tryd.prog 46 #[.int .i64 (s.k : Int), .slice oa ol oc] (wr.alloc (.cells #[.int .i64 (s.k : Int), .slice oa ol oc, .int .i64 s.l] 102)).drew fun e w' => e = .returned (.agg #[.int .i64 i.o, .int .i64 i.a, .int .i64 i.b, .int .i64 i.c]) ∧ Below (wr.alloc (.cells #[.int .i64 (s.k : Int), .slice oa ol oc, .int .i64 s.l] 102)).heap.size (wr.alloc (.cells #[.int .i64 (s.k : Int), .slice oa ol oc, .int .i64 s.l] 102)) w' := by
          have := instruction_any s.k s.xs (.slice oa ol oc) (wr.alloc (.cells #[.int .i64 (s.k : Int), .slice oa ol oc, .int .i64 s.l] 102)).drew h3 hN1
          rw [hii] at this
          refine this.mono ?_
          rintro e w' ⟨h1, h2⟩
          exact ⟨h1, below_then ((Below.refl _ _).drew) h2⟩
        obtain ⟨F, f, hF⟩ : ∃ F f, p.fs = F ++ [f] := ⟨p.fs.dropLast, p.fs.getLast hne, (List.dropLast_concat_getLast hne).symm⟩
        have hlen := hG.fns.len
        have hvne : vals ≠ [] := by intro e; rw [e, hF] at hlen; simp at hlen
        obtain ⟨V, v, hV⟩ : ∃ V v, vals = V ++ [v] := ⟨vals.dropLast, vals.getLast hvne, (List.dropLast_concat_getLast hvne).symm⟩
        subst hV
        have hrow := hG.fns.row
        have hvl : (V ++ [v]).length = V.length + 1 := by simp
        rw [hvl] at hrow
        obtain ⟨go, gc, hgo⟩ := row_some hrow
        simp at hgo
        obtain ⟨rfl, rfl, rfl⟩ := hgo
        have hf1 := hG1.fns
        rw [hF] at hST hf1
        rw [pushL_snoc] at hST
        have hl0 : V.length = F.length := by have := hf1.len; simpa using this
        have hVb : V.length ≤ 20001 ∧ f.length ≤ 20001 := by
          have h1 := hbd.1
          have h2 := hbd.2 f (by rw [hF]; simp)
          rw [hF] at h1
          simp at h1 h2
          omega
        obtain ⟨va, vl, vc, ev, hown1⟩ : ∃ a l c, v = .slice a l c ∧ (wr.alloc (.cells #[.int .i64 (s.k : Int), .slice oa ol oc, .int .i64 s.l] 102)).ownsRow (w.heap.size + 2) 50 4 v f.length (cellsI f) := by
          have := hf1.ins V.length (by simp; omega) (by simp)
          simpa [hl0] using this
        subst ev
        have y0 : wr.cell? ⟨go, V.length, none⟩ = some (.slice va vl vc) := by rw [hrow.cellAt _ (by omega)]; simp
        have hgo1 := own_blk hrow rfl
        have hgo2 := block_lt_of_cell y0
        have hnego : (Value.slice va vl vc).ownBlock ≠ some go := own_ne (hrow.alloc (.cells #[.int .i64 (s.k : Int), .slice oa ol oc, .int .i64 s.l] 102)) hown1 (by decide) go rfl
        have hneW : (Value.slice va vl vc).ownBlock ≠ some wr.heap.size := fun e => by
          have h0 := hf1.ins V.length (by simp; omega) (by simp)
          have h1 := (hG.fns.ins V.length (by rw [hF]; simp; omega) (by simp))
          obtain ⟨_, _, _, _, h2⟩ := h1
          have := (h2.lt _ (by simpa using e)).2
          omega
        have hvB : ∀ g, (Value.slice va vl vc).ownBlock = some g → w.heap.size + 2 ≤ g := fun g hg => own_blk hown1 hg
        obtain ⟨cur, hcur⟩ : ∃ cur, wr.heap[go]? = some (.cells cur 45 (0, 0)) := by
          rcases hrow.2 with ⟨h0, _⟩ | ⟨g', cap', cur, e', _, h2, _⟩
          · simp at h0
          · simp at e'
            obtain ⟨rfl, rfl⟩ := e'
            exact ⟨cur, h2⟩
        have HST : Hid (stepP p s = ⟨F ++ [f ++ [i]], p.futs, p.depth, p.fuel⟩) := hST
        have HF1 : Hid (Fns (wr.alloc (.cells #[.int .i64 (s.k : Int), .slice oa ol oc, .int .i64 s.l] 102)) (w.heap.size + 2) (.slice (some ⟨go, 0, none⟩) (V.length + 1) fc) (F ++ [f]) (V ++ [.slice va vl vc])) := hf1
        have HG1 : Hid (Pg w (wr.alloc (.cells #[.int .i64 (s.k : Int), .slice oa ol oc, .int .i64 s.l] 102)) p (some ⟨go, 0, none⟩) (V.length + 1) fc (V ++ [.slice va vl vc])) := hG1
        have a0 := C2.still_alloc wr (.cells #[.int .i64 (s.k : Int), .slice oa ol oc, .int .i64 s.l] 102) _ _ r0
        have a1 := C2.still_alloc wr (.cells #[.int .i64 (s.k : Int), .slice oa ol oc, .int .i64 s.l] 102) _ _ y0
        have a2 : (wr.alloc (.cells #[.int .i64 (s.k : Int), .slice oa ol oc, .int .i64 s.l] 102)).cell? ⟨wr.heap.size, 0, none⟩ = some (.int .i64 (s.k : Int)) := by simp
        have a3 : (wr.alloc (.cells #[.int .i64 (s.k : Int), .slice oa ol oc, .int .i64 s.l] 102)).cell? ⟨wr.heap.size, 1, none⟩ = some (.slice oa ol oc) := by simp
        clear hF hST hf1 hG hG1 hN hN1 hpos h15 hbd hops hne hvne hlen hrow hvl hii r1 r2 r3 f1 f2 f3
        have hsub : ((V.length : Int) + 1 - 1) = (V.length : Int) := by omega
        have hlt1 : (V.length : Int) < (V.length : Int) + 1 := by omega
        clear hl0
        go_wp2_with fail
        clear e1 e2 e3 e4 c0 c1 c2 hS ho hk hxo hg hlo hhi h3 h15' r0 y0 hsub
        refine region_last (fun w' => w'.cell? ⟨w.heap.size + 1, 0, none⟩ = some (.slice (some ⟨go, 0, none⟩) (V.length + 1) fc) ∧ w'.cell? ⟨go, V.length, none⟩ = some (.slice va vl vc) ∧ w'.cell? ⟨wr.heap.size, 0, none⟩ = some (.int .i64 (s.k : Int)) ∧ w'.cell? ⟨wr.heap.size, 1, none⟩ = some (.slice oa ol oc)) 16 (by kernel_rfl) ?_
        refine anyL_take (i := 0) (v := .pointer (some ⟨w.heap.size + 1, 0, none⟩)) rfl (by kernel_rfl) (by kernel_rfl) (by kernel_rfl) (by kernel_rfl) (fun _ _ _ h => h) (.inl ⟨by rfl, fun X hX => ?_⟩) ⟨a0, a1, a2, a3⟩ ?_
        · obtain ⟨s0, s1, s2, s3⟩ := hX
          go_simp
        refine anyL_take (i := 1) (v := .slice (some ⟨go, 0, none⟩) (V.length + 1) fc) rfl (by kernel_rfl) (by kernel_rfl) (by kernel_rfl) (by kernel_rfl) (fun _ _ _ h => h) (.inl ⟨by rfl, fun X hX => ?_⟩) ⟨a0, a1, a2, a3⟩ ?_
        · obtain ⟨s0, s1, s2, s3⟩ := hX
          go_simp
        refine anyL_take (i := 2) (v := .int .i64 (V.length : Int)) rfl (by kernel_rfl) (by kernel_rfl) (by kernel_rfl) (by kernel_rfl) (fun _ _ _ h => h) (.inl ⟨by rfl, fun X hX => ?_⟩) ⟨a0, a1, a2, a3⟩ ?_
        · obtain ⟨s0, s1, s2, s3⟩ := hX
          go_simp
        refine anyL_take (i := 3) (v := .pointer (some ⟨w.heap.size + 1, 0, none⟩)) rfl (by kernel_rfl) (by kernel_rfl) (by kernel_rfl) (by kernel_rfl) (fun _ _ _ h => h) (.inl ⟨by rfl, fun X hX => ?_⟩) ⟨a0, a1, a2, a3⟩ ?_
        · obtain ⟨s0, s1, s2, s3⟩ := hX
          go_simp
        refine anyL_take (i := 4) (v := .slice (some ⟨go, 0, none⟩) (V.length + 1) fc) rfl (by kernel_rfl) (by kernel_rfl) (by kernel_rfl) (by kernel_rfl) (fun _ _ _ h => h) (.inl ⟨by rfl, fun X hX => ?_⟩) ⟨a0, a1, a2, a3⟩ ?_
        · obtain ⟨s0, s1, s2, s3⟩ := hX
          go_simp
        refine anyL_take (i := 5) (v := .int .i64 (V.length : Int)) rfl (by kernel_rfl) (by kernel_rfl) (by kernel_rfl) (by kernel_rfl) (fun _ _ _ h => h) (.inl ⟨by rfl, fun X hX => ?_⟩) ⟨a0, a1, a2, a3⟩ ?_
        · obtain ⟨s0, s1, s2, s3⟩ := hX
          go_simp
        refine anyL_take (i := 6) (v := .pointer (some ⟨go, V.length, none⟩)) rfl (by kernel_rfl) (by kernel_rfl) (by kernel_rfl) (by kernel_rfl) (fun _ _ _ h => h) (.inl ⟨by rfl, fun X hX => ?_⟩) ⟨a0, a1, a2, a3⟩ ?_
        · obtain ⟨s0, s1, s2, s3⟩ := hX
          go_simp
        refine anyL_take (i := 7) (v := .slice va vl vc) rfl (by kernel_rfl) (by kernel_rfl) (by kernel_rfl) (by kernel_rfl) (fun _ _ _ h => h) (.inl ⟨by rfl, fun X hX => ?_⟩) ⟨a0, a1, a2, a3⟩ ?_
        · obtain ⟨s0, s1, s2, s3⟩ := hX
          go_simp
        refine anyL_take (i := 8) (v := .pointer (some ⟨wr.heap.size, 0, none⟩)) rfl (by kernel_rfl) (by kernel_rfl) (by kernel_rfl) (by kernel_rfl) (fun _ _ _ h => h) (.inl ⟨by rfl, fun X hX => ?_⟩) ⟨a0, a1, a2, a3⟩ ?_
        · obtain ⟨s0, s1, s2, s3⟩ := hX
          go_simp
        refine anyL_take (i := 9) (v := .int .i64 (s.k : Int)) rfl (by kernel_rfl) (by kernel_rfl) (by kernel_rfl) (by kernel_rfl) (fun _ _ _ h => h) (.inl ⟨by rfl, fun X hX => ?_⟩) ⟨a0, a1, a2, a3⟩ ?_
        · obtain ⟨s0, s1, s2, s3⟩ := hX
          go_simp
        refine anyL_take (i := 10) (v := .pointer (some ⟨wr.heap.size, 1, none⟩)) rfl (by kernel_rfl) (by kernel_rfl) (by kernel_rfl) (by kernel_rfl) (fun _ _ _ h => h) (.inl ⟨by rfl, fun X hX => ?_⟩) ⟨a0, a1, a2, a3⟩ ?_
        · obtain ⟨s0, s1, s2, s3⟩ := hX
          go_simp
        refine anyL_take (i := 11) (v := .slice oa ol oc) rfl (by kernel_rfl) (by kernel_rfl) (by kernel_rfl) (by kernel_rfl) (fun _ _ _ h => h) (.inl ⟨by rfl, fun X hX => ?_⟩) ⟨a0, a1, a2, a3⟩ ?_
        · obtain ⟨s0, s1, s2, s3⟩ := hX
          go_simp
        refine anyL_one (i := 12) (by kernel_rfl) rfl (fun K hK => ?_)
        go_simp
        refine hins.mono ?_
        rintro e w2 ⟨rfl, hb2⟩
        have b0 := C2.still_of_below hb2 _ _ a0
        have b1 := C2.still_of_below hb2 _ _ a1
        have b2 := C2.still_of_below hb2 _ _ a2
        have b3 := C2.still_of_below hb2 _ _ a3
        have k0 := C2.still_alloc w2 (.cells #[.int .i64 i.o, .int .i64 i.a, .int .i64 i.b, .int .i64 i.c] 50) _ _ b0
        have k1 := C2.still_alloc w2 (.cells #[.int .i64 i.o, .int .i64 i.a, .int .i64 i.b, .int .i64 i.c] 50) _ _ b1
        have k2 := C2.still_alloc w2 (.cells #[.int .i64 i.o, .int .i64 i.a, .int .i64 i.b, .int .i64 i.c] 50) _ _ b2
        have k3 := C2.still_alloc w2 (.cells #[.int .i64 i.o, .int .i64 i.a, .int .i64 i.b, .int .i64 i.c] 50) _ _ b3
        have hown2 := owns_same hown1 fun g hg => hb2.block g (hown1.lt g hg).2
        have hsz2 := hb2.size
        simp at hsz2
        refine hK.out _ _ (.inr ⟨b0, b1, b2, b3⟩) ?_
        clear hK K
        refine anyL_one (i := 13) (by kernel_rfl) rfl (fun K hK => ?_)
        go_simp
        refine hK.out _ _ (.inr ⟨k0, k1, k2, k3⟩) ?_
        clear hK K
        refine anyL_one (i := 14) (by kernel_rfl) rfl (fun K hK => ?_)
        refine step_append_lies _ rfl (.tmp 26) (.tmp 32) 45 rfl (w.heap.size + 2) 50 i0 (.agg #[.int .i64 0, .int .i64 0, .int .i64 0, .int .i64 0]) 4 32 Tryd.underlying45 hi hz0 hz1' hz2 rfl (by decide) (.slice va vl vc) f.length (cellsI f) (by simp [Act.eval]) (hown2.alloc _) ⟨w2.heap.size, 0, none⟩ 1 1 (insC i) (by simp [Act.eval]) rfl (C2.insC_new w2 i 50) (C2.insC_one _) (by omega) (by unfold maxLen; omega) (by omega) (by simp; omega) _ rfl ?_
        intro g6 cap6 w6 hown6 hgrow6 hat6 hlt6
        have e6 := (hgrow6.block go (by simp; omega) (fun e => hnego e.symm)).trans ((Below.heap_alloc _ _ _ (by omega)).trans ((hb2.block go (by simp; omega)).trans ((Below.heap_alloc _ _ _ (by omega)).trans hcur)))
        have d6 := hgrow6.cell k1 (fun e => hnego e.symm)
        have f6 := frozen_of_row w6 _ V.length _ _ e6
        have x6 := hgrow6.cell k0 (fun e => absurd (hvB _ e.symm) (by simp))
        have x7 := hgrow6.cell k2 (fun e => hneW e.symm)
        have x8 := hgrow6.cell k3 (fun e => hneW e.symm)
        refine hK.out _ _ (.inr ⟨x6, d6, x7, x8⟩) ?_
        clear hK K
        refine anyL_take (i := 15) (v := .pointer (some ⟨go, V.length, none⟩)) rfl (by kernel_rfl) (by kernel_rfl) (by kernel_rfl) (by kernel_rfl) (fun _ _ _ h => h) (.inl ⟨by rfl, fun X hX => ?_⟩) ⟨x6, d6, x7, x8⟩ ?_
        · obtain ⟨s0, s1, s2, s3⟩ := hX
          go_simp
        refine anyL_one (i := 16) (by kernel_rfl) rfl (fun K hK => ?_)
        go_simp
        refine hK.out _ _ (.inl rfl) ?_
        clear hK K
        refine anyL_done (by kernel_rfl) ?_
        have hP : Hid (Pg w (w6.setCell ⟨go, V.length, none⟩ (.slice (some ⟨g6, 0, none⟩) (f.length + 1) cap6)) (progF (all.take (k + 1))) (some ⟨go, 0, none⟩) (V.length + 1) fc (V ++ [.slice (some ⟨g6, 0, none⟩) (f.length + 1) cap6])) := by
          rw [HNX.out, HST.out]
          have hk3 := (HG1.out.kept hb2).kept (below_one w2 (.cells #[.int .i64 i.o, .int .i64 i.a, .int .i64 i.b, .int .i64 i.c] 50))
          have hf3 := (HF1.out.kept hb2).kept (below_one w2 (.cells #[.int .i64 i.o, .int .i64 i.a, .int .i64 i.b, .int .i64 i.c] 50))
          refine ⟨(Below.heap_setCell _ _ _ _ (by show w.heap.size ≠ go; omega)).trans ((hgrow6.block _ (lt_of_block hk3.out) (fun e => by have := hvB _ e.symm; omega)).trans hk3.out), (Below.heap_setCell _ _ _ _ (by show w.heap.size + 1 ≠ go; omega)).trans ((hgrow6.block _ (lt_of_block hk3.box) (fun e => by have := hvB _ e.symm; omega)).trans hk3.box), hf3.push hgrow6 hown6 hat6, ?_⟩
          exact (hk3.low.trans ⟨hgrow6.os, hgrow6.tape, hgrow6.output, hgrow6.size, fun j hj => hgrow6.block j (by have := hk3.low.size; omega) (fun e => by have := hvB _ e.symm; omega)⟩).setCell (by show w.heap.size ≤ go; omega) _
        clear hown6 hgrow6 hat6 e6 hb2 hown2
        go_wp2_with fail
        go_roundw
        case rel => exact ⟨k + 1, _, _, _, _, by omega, by go_num, hP.out⟩
        case measure => simp [intOf]; omega
    · obtain rfl : k = all.length := by omega
      rw [List.take_length] at hG
      have HP : Hid (PgPost all w (.returned (.agg #[.slice fa fl fc, .int .i64 (progF all).futs, .int .i64 (progF all).depth, .int .i64 (progF all).fuel])) ((((wr.setCell ⟨w.heap.size, 0, none⟩ (.slice fa fl fc)).setCell ⟨w.heap.size, 1, none⟩ (.int .i64 (progF all).futs)).setCell ⟨w.heap.size, 2, none⟩ (.int .i64 (progF all).depth)).setCell ⟨w.heap.size, 3, none⟩ (.int .i64 (progF all).fuel))) := by
        refine ⟨fa, fl, fc, vals, rfl, hG.fns.far fun g h1 h2 => ?_, (((hG.low.setCell (by simp) _).setCell (by simp) _).setCell (by simp) _).setCell (by simp) _⟩
        rw [Below.heap_setCell _ _ _ _ (by simp; omega), Below.heap_setCell _ _ _ _ (by simp; omega), Below.heap_setCell _ _ _ _ (by simp; omega), Below.heap_setCell _ _ _ _ (by simp; omega)]
      have r0 := cell_of_row _ _ 0 _ _ _ hG.box
      have r1 := cell_of_row _ _ 1 _ _ _ hG.box
      have r2 := cell_of_row _ _ 2 _ _ _ hG.box
      have r3 := cell_of_row _ _ 3 _ _ _ hG.box
      have o0 := cell_of_row _ _ 0 _ _ _ hG.out
      have o1 := cell_of_row _ _ 1 _ _ _ hG.out
      have o2 := cell_of_row _ _ 2 _ _ _ hG.out
      have o3 := cell_of_row _ _ 3 _ _ _ hG.out
      have f0 := frozen_of_row _ _ 0 _ _ hG.out
      have f1 := frozen_of_row _ _ 1 _ _ hG.out
      have f2 := frozen_of_row _ _ 2 _ _ hG.out
      have f3 := frozen_of_row _ _ 3 _ _ hG.out
      simp at r0 r1 r2 r3 o0 o1 o2 o3
      clear hG
      go_wp2_with fail
      exact bodyPost_ret (v := .agg #[.slice fa fl fc, .int .i64 (progF all).futs, .int .i64 (progF all).depth, .int .i64 (progF all).fuel]) (by simp [results, Tryd.results22, go_sem, o0, o1, o2, o3]) rfl HP.out
end Go.Proofs.YtdpagipbaddnfaaDoor
