/-
  Helpers: Sc, Sd, Se, Sf, Sg, Sh.
-/
import Derived.Test.YtiedoeifpmfbbaaDoorBun4fb0f5d5177d
namespace Go.Proofs.YtiedoeifpmfbbaaDoor
open Go.RowKit
open H8 (okP sizeF HTab below_then packV packF)
open A9 (Ab ArAt ArMem FrA Ar rawA setRawA swapRawA addRawA useA Left9 ptrA Ok9)
open F0 (Pl5 Tn PuAt PoAt FrS noT puStep poStep TuPost ToPost PuStep_any PoStep_any Base_any baseF headF NewPop_any NewPush_any NewPoPost NewPuPost plBox plS plS_of below_next Wk puB poB)

/-- a search, as a value: its pop's block, whose list, the class, how many lists behind -/
def srV (p : Pl5) (x : Nat) (k c r : Int) : Value := .agg #[.pointer (some ⟨x, 0, none⟩), .int .i64 p.wk, .int .i64 p.hd, .int .i64 p.ln, .int .i64 p.gn, .int .i64 p.cv, .int .i64 k, .int .i64 c, .int .i64 r]
def NewSrPost (w : World) (p : Pl5) (k c H : Int) (e : Ending) (w' : World) : Prop := ∃ x, e = .returned (srV p x k c (p.wk - 1)) ∧ PoAt x w' p ⟨H, 0, 0, 0⟩ ∧ Below w.heap.size w w' ∧ w.heap.size ≤ x
theorem srS {w : World} {r : Nat} {a b c d e f g h i : Value} {t : TypeId} (hR : w.heap[r]? = some (.cells #[a, b, c, d, e, f, g, h, i] t (0, 0))) :
    w.cell? ⟨r, 0, none⟩ = some a ∧ w.cell? ⟨r, 1, none⟩ = some b ∧ w.cell? ⟨r, 2, none⟩ = some c ∧ w.cell? ⟨r, 3, none⟩ = some d ∧ w.cell? ⟨r, 4, none⟩ = some e ∧ w.cell? ⟨r, 5, none⟩ = some f ∧ w.cell? ⟨r, 6, none⟩ = some g ∧ w.cell? ⟨r, 7, none⟩ = some h ∧ w.cell? ⟨r, 8, none⟩ = some i ∧
    w.frozen? ⟨r, 0, none⟩ = false ∧ w.frozen? ⟨r, 1, none⟩ = false ∧ w.frozen? ⟨r, 2, none⟩ = false ∧ w.frozen? ⟨r, 3, none⟩ = false ∧ w.frozen? ⟨r, 4, none⟩ = false ∧ w.frozen? ⟨r, 5, none⟩ = false ∧ w.frozen? ⟨r, 6, none⟩ = false ∧ w.frozen? ⟨r, 7, none⟩ = false ∧ w.frozen? ⟨r, 8, none⟩ = false := by
  refine ⟨?_, ?_, ?_, ?_, ?_, ?_, ?_, ?_, ?_, ?_, ?_, ?_, ?_, ?_, ?_, ?_, ?_, ?_⟩
  all_goals first | exact cell_of_row _ _ _ _ _ _ hR | exact frozen_of_row w _ _ _ _ hR
theorem sr9 (w : World) (r : Nat) (v0 v1 v2 v3 v4 v5 v6 v7 v8 : Value) {a b c d e f g h i : Value} {t : TypeId} (hR : w.heap[r]? = some (.cells #[a, b, c, d, e, f, g, h, i] t (0, 0))) :
    (((((((((w.setCell ⟨r, 0, none⟩ v0).setCell ⟨r, 1, none⟩ v1).setCell ⟨r, 2, none⟩ v2).setCell ⟨r, 3, none⟩ v3).setCell ⟨r, 4, none⟩ v4).setCell ⟨r, 5, none⟩ v5).setCell ⟨r, 6, none⟩ v6).setCell ⟨r, 7, none⟩ v7).setCell ⟨r, 8, none⟩ v8).heap[r]? = some (.cells #[v0, v1, v2, v3, v4, v5, v6, v7, v8] t (0, 0)) ∧
    FrS (fun k => k = r) w (((((((((w.setCell ⟨r, 0, none⟩ v0).setCell ⟨r, 1, none⟩ v1).setCell ⟨r, 2, none⟩ v2).setCell ⟨r, 3, none⟩ v3).setCell ⟨r, 4, none⟩ v4).setCell ⟨r, 5, none⟩ v5).setCell ⟨r, 6, none⟩ v6).setCell ⟨r, 7, none⟩ v7).setCell ⟨r, 8, none⟩ v8) := by
  have h0 : (w.setCell ⟨r, 0, none⟩ v0).heap[r]? = some (.cells #[v0, b, c, d, e, f, g, h, i] t (0, 0)) := heap_setCell_same _ _ 0 _ _ v0 hR
  have h1 : ((w.setCell ⟨r, 0, none⟩ v0).setCell ⟨r, 1, none⟩ v1).heap[r]? = some (.cells #[v0, v1, c, d, e, f, g, h, i] t (0, 0)) := heap_setCell_same _ _ 1 _ _ v1 h0
  have h2 : (((w.setCell ⟨r, 0, none⟩ v0).setCell ⟨r, 1, none⟩ v1).setCell ⟨r, 2, none⟩ v2).heap[r]? = some (.cells #[v0, v1, v2, d, e, f, g, h, i] t (0, 0)) := heap_setCell_same _ _ 2 _ _ v2 h1
  have h3 : ((((w.setCell ⟨r, 0, none⟩ v0).setCell ⟨r, 1, none⟩ v1).setCell ⟨r, 2, none⟩ v2).setCell ⟨r, 3, none⟩ v3).heap[r]? = some (.cells #[v0, v1, v2, v3, e, f, g, h, i] t (0, 0)) := heap_setCell_same _ _ 3 _ _ v3 h2
  have h4 : (((((w.setCell ⟨r, 0, none⟩ v0).setCell ⟨r, 1, none⟩ v1).setCell ⟨r, 2, none⟩ v2).setCell ⟨r, 3, none⟩ v3).setCell ⟨r, 4, none⟩ v4).heap[r]? = some (.cells #[v0, v1, v2, v3, v4, f, g, h, i] t (0, 0)) := heap_setCell_same _ _ 4 _ _ v4 h3
  have h5 : ((((((w.setCell ⟨r, 0, none⟩ v0).setCell ⟨r, 1, none⟩ v1).setCell ⟨r, 2, none⟩ v2).setCell ⟨r, 3, none⟩ v3).setCell ⟨r, 4, none⟩ v4).setCell ⟨r, 5, none⟩ v5).heap[r]? = some (.cells #[v0, v1, v2, v3, v4, v5, g, h, i] t (0, 0)) := heap_setCell_same _ _ 5 _ _ v5 h4
  have h6 : (((((((w.setCell ⟨r, 0, none⟩ v0).setCell ⟨r, 1, none⟩ v1).setCell ⟨r, 2, none⟩ v2).setCell ⟨r, 3, none⟩ v3).setCell ⟨r, 4, none⟩ v4).setCell ⟨r, 5, none⟩ v5).setCell ⟨r, 6, none⟩ v6).heap[r]? = some (.cells #[v0, v1, v2, v3, v4, v5, v6, h, i] t (0, 0)) := heap_setCell_same _ _ 6 _ _ v6 h5
  have h7 : ((((((((w.setCell ⟨r, 0, none⟩ v0).setCell ⟨r, 1, none⟩ v1).setCell ⟨r, 2, none⟩ v2).setCell ⟨r, 3, none⟩ v3).setCell ⟨r, 4, none⟩ v4).setCell ⟨r, 5, none⟩ v5).setCell ⟨r, 6, none⟩ v6).setCell ⟨r, 7, none⟩ v7).heap[r]? = some (.cells #[v0, v1, v2, v3, v4, v5, v6, v7, i] t (0, 0)) := heap_setCell_same _ _ 7 _ _ v7 h6
  have h8 : (((((((((w.setCell ⟨r, 0, none⟩ v0).setCell ⟨r, 1, none⟩ v1).setCell ⟨r, 2, none⟩ v2).setCell ⟨r, 3, none⟩ v3).setCell ⟨r, 4, none⟩ v4).setCell ⟨r, 5, none⟩ v5).setCell ⟨r, 6, none⟩ v6).setCell ⟨r, 7, none⟩ v7).setCell ⟨r, 8, none⟩ v8).heap[r]? = some (.cells #[v0, v1, v2, v3, v4, v5, v6, v7, v8] t (0, 0)) := heap_setCell_same _ _ 8 _ _ v8 h7
  have f := ((((((((((FrS.refl (fun k => k = r) w).setCell rfl 0 v0).setCell rfl 1 v1).setCell rfl 2 v2).setCell rfl 3 v3).setCell rfl 4 v4).setCell rfl 5 v5).setCell rfl 6 v6).setCell rfl 7 v7).setCell rfl 8 v8)
  exact ⟨h8, f⟩
set_option maxHeartbeats 400000 in
theorem newSearch_any (p : Pl5) (k c : Int) (h1 : 1 ≤ p.wk) (h2 : p.wk ≤ 1000000) (w : World) : Calls Tryd.prog 31 #[p.v, .int .i64 k, .int .i64 c] w (NewSrPost w p k c (headF p k c)) := by
  have hn := fun wx => NewPop_any p k c wx
  have hB0 : (w.alloc (plBox p)).heap[w.heap.size]? = some (plBox p) := (Go.MapKept.heap_alloc w _).1
  have hb0 : Below w.heap.size w (w.alloc (plBox p)) := (Below.refl _ _).alloc (Nat.le_refl _) _
  have hlt := lt_of_block hB0
  have hm : (if p.wk < 1 then 1 else p.wk) = p.wk := if_neg (by omega)
  have hw : IntKind.i64.wrap (p.wk - 1) = p.wk - 1 := by rw [IntKind.wrap_i64]; omega
  have ha : w.alloc (.cells #[.int .i64 p.wk, .int .i64 p.hd, .int .i64 p.ln, .int .i64 p.gn, .int .i64 p.cv] 25 (0, 0)) = w.alloc (plBox p) := rfl
  obtain ⟨rb, hrb⟩ : ∃ o, o = Obj.cells #[.pointer none, .int .i64 0, .int .i64 0, .int .i64 0, .int .i64 0, .int .i64 0, .int .i64 0, .int .i64 0, .int .i64 0] 70 (0, 0) := ⟨_, rfl⟩
  have hR0 : ((w.alloc (plBox p)).alloc rb).heap[w.heap.size + 1]? = some rb := by
    have := (Go.MapKept.heap_alloc (w.alloc (plBox p)) rb).1
    rwa [show (w.alloc (plBox p)).heap.size = w.heap.size + 1 by simp] at this
  have hb1 : Below w.heap.size w ((w.alloc (plBox p)).alloc rb) := hb0.alloc hb0.size _
  have hB1 : ((w.alloc (plBox p)).alloc rb).heap[w.heap.size]? = some (plBox p) := (Below.heap_alloc _ _ _ hlt).trans hB0
  unfold Pl5.v at hn ⊢
  generalize headF p k c = H at *
  go_enter Tryd.func31, Tryd.ntmps31
  go_wp2_with fail
  rw [← hrb]
  clear ha hB0 hb0 hlt
  generalize (w.alloc (plBox p)).alloc rb = W at *
  obtain ⟨g, HG⟩ : ∃ g, Hid (g = w.heap.size) := ⟨_, rfl⟩
  rw [← (HG.out : g = w.heap.size)] at hB1 hb1 hR0 ⊢
  have hlt := lt_of_block hB1
  have hlr := lt_of_block hR0
  have c0 : plS g p W := plS_of hB1
  obtain ⟨c0, c1, c2, c3, c4⟩ := c0
  go_region_held3 (fun w' => w'.cell? ⟨g, 0, none⟩ = some (.int .i64 p.wk) ∧ w'.cell? ⟨g, 1, none⟩ = some (.int .i64 p.hd) ∧ w'.cell? ⟨g, 2, none⟩ = some (.int .i64 p.ln) ∧ w'.cell? ⟨g, 3, none⟩ = some (.int .i64 p.gn) ∧ w'.cell? ⟨g, 4, none⟩ = some (.int .i64 p.cv)) (go_keep) (first
    | (go_at_call 38; refine (hn _).mono ?_; rintro e w1 ⟨x, rfl, hX1, hb2, hx⟩; have hb2' : Below W.heap.size W w1 := (by first | exact hb2 | exact below_then (Below.refl _ _).drew hb2); have c1 : plS g p w1 := plS_of ((hb2'.block g hlt).trans hB1); obtain ⟨e0, e1, e2, e3, e4⟩ := c1; have hx' : W.heap.size ≤ x := hx; have hR1 : w1.heap[g + 1]? = some (.cells #[.pointer none, .int .i64 0, .int .i64 0, .int .i64 0, .int .i64 0, .int .i64 0, .int .i64 0, .int .i64 0, .int .i64 0] 70 (0, 0)) := ((hb2'.block _ hlr).trans hR0).trans (congrArg some hrb); obtain ⟨d0, d1, d2, d3, d4, d5, d6, d7, d8, k0, k1, k2, k3, k4, k5, k6, k7, k8⟩ := srS hR1))
  all_goals
    rename_i hHeld
    clear hHeld d0 d1 d2 d3 d4 d5 d6 d7 d8 k0 k1 k2 k3 k4 k5 k6 k7 k8 e0 e1 e2 e3 e4 c0 c1 c2 c3 c4
    have hF := sr9 w1 (g + 1) (.pointer (some ⟨x, 0, none⟩)) (.int .i64 p.wk) (.int .i64 p.hd) (.int .i64 p.ln) (.int .i64 p.gn) (.int .i64 p.cv) (.int .i64 k) (.int .i64 c) (.int .i64 (p.wk - 1)) hR1
    have hxl := hX1.lt
    generalize ((((((((w1.setCell ⟨g + 1, 0, none⟩ (.pointer (some ⟨x, 0, none⟩))).setCell ⟨g + 1, 1, none⟩ (.int .i64 p.wk)).setCell ⟨g + 1, 2, none⟩ (.int .i64 p.hd)).setCell ⟨g + 1, 3, none⟩ (.int .i64 p.ln)).setCell ⟨g + 1, 4, none⟩ (.int .i64 p.gn)).setCell ⟨g + 1, 5, none⟩ (.int .i64 p.cv)).setCell ⟨g + 1, 6, none⟩ (.int .i64 k)).setCell ⟨g + 1, 7, none⟩ (.int .i64 c)).setCell ⟨g + 1, 8, none⟩ (.int .i64 (p.wk - 1)) = W9 at *
    obtain ⟨hR9, hF9⟩ := hF
    obtain ⟨d0, d1, d2, d3, d4, d5, d6, d7, d8, -⟩ := srS hR9
    have HE : Hid (PoAt x W9 p ⟨H, 0, 0, 0⟩ ∧ Below w.heap.size w W9 ∧ w.heap.size ≤ x) := by
      have e2 : g = w.heap.size := HG.out
      refine ⟨hX1.same (hF9.block x hxl (by omega)), ?_, by omega⟩
      have hb3 : Below w.heap.size w w1 := below_next (e2 ▸ hb1) (by omega) hb2'
      exact ⟨hF9.os.trans hb3.os, hF9.tape.trans hb3.tape, hF9.output.trans hb3.output, Nat.le_trans hb3.size hF9.size, fun i hi => (hF9.block i (Nat.lt_of_lt_of_le hi hb3.size) (by omega)).trans (hb3.block i hi)⟩
    clear hX1 hxl hR9 hF9 hR1 hb2 hb2' hx hx' hB1 hb1 hR0 hrb hn
    go_wp2_with fail
    refine bodyPost_ret (v := srV p x k c (p.wk - 1)) ?_ rfl ?_
    · simp [results, Tryd.results31, go_sem, srV, d0, d1, d2, d3, d4, d5, d6, d7, d8]
    · obtain ⟨x1, x2, x3⟩ := HE.out
      exact ⟨x, rfl, x1, x2, x3⟩
/-- an alloc that begins -/
def NewAlPost (w : World) (p : Pl5) (k c H nx : Int) (e : Ending) (w' : World) : Prop := ∃ q x, e = .returned (.pointer (some ⟨q, 0, none⟩)) ∧ AlAt q w' p ⟨x, k, c, p.wk - 1, nx, 0, 0⟩ ∧ PoAt x w' p ⟨H, 0, 0, 0⟩ ∧ Below w.heap.size w w' ∧ w.heap.size ≤ q ∧ w.heap.size ≤ x ∧ x ≠ q
theorem newAl_end (nx : Int) {w w1 : World} {p : Pl5} {k c H : Int} {x : Nat} (hb : Below w.heap.size w w1) (hX : PoAt x w1 p ⟨H, 0, 0, 0⟩) (hx : w.heap.size ≤ x) : NewAlPost w p k c H nx (.returned (.pointer (some ⟨w1.heap.size, 0, none⟩))) (w1.alloc (.cells (alB p ⟨x, k, c, p.wk - 1, nx, 0, 0⟩) 74 (0, 0))) := by
  have hl := hX.lt
  exact ⟨_, x, rfl, (Go.MapKept.heap_alloc w1 _).1, hX.same (Below.heap_alloc _ _ _ hl), hb.alloc hb.size _, hb.size, hx, by omega⟩
theorem NewAl_ok (p : Pl5) (k c : Int) (h1 : 1 ≤ p.wk) (h2 : p.wk ≤ 1000000) (hc : sizeF c ≠ 0) (w : World) (hT : HTab w) : Calls Tryd.prog 15 #[p.v, .int .i64 k, .int .i64 c] w (NewAlPost w p k c (headF p k c) 0) := by
  have hn := fun wx => newSearch_any p k c h1 h2 wx
  have hS := fun wx (hx : HTab wx) => H8.Size_any c wx hx
  have hz : (sizeF c == 0) = false := by simpa using hc
  have hB0 : (w.alloc (plBox p)).heap[w.heap.size]? = some (plBox p) := (Go.MapKept.heap_alloc w _).1
  have hb0 : Below w.heap.size w (w.alloc (plBox p)) := (Below.refl _ _).alloc (Nat.le_refl _) _
  obtain ⟨c0, c1, c2, c3, c4⟩ := plS_of hB0
  have ha : w.alloc (.cells #[.int .i64 p.wk, .int .i64 p.hd, .int .i64 p.ln, .int .i64 p.gn, .int .i64 p.cv] 25 (0, 0)) = w.alloc (plBox p) := rfl
  have HT : Hid (HTab w) := hT
  unfold Pl5.v at hn ⊢
  generalize headF p k c = H at *
  generalize sizeF c = z at *
  clear hT hc
  go_enter Tryd.func15, Tryd.ntmps15
  go_wp2_with fail
  refine (hn _).mono ?_
  rintro e w1 ⟨x, rfl, hX, hb1, hx⟩
  have hb2 : Below w.heap.size w w1 := below_next hb0 hb0.size hb1
  have hx2 : w.heap.size ≤ x := Nat.le_trans hb0.size hx
  have HE := newAl_end 0 (k := k) (c := c) hb2 hX hx2
  have HT2 : Hid (HTab (w1.alloc (.cells (alB p ⟨x, k, c, p.wk - 1, 0, 0, 0⟩) 74 (0, 0)))) := (HT.out.below hb2).alloc _
  unfold srV
  clear hX hb1 hx hb2 hx2 c0 c1 c2 c3 c4 hb0 hB0 ha hn
  go_wp2_with fail
  refine (hS _ HT2.out).mono ?_
  rintro e w2 ⟨rfl, rfl⟩
  go_wp2_with fail
  go_ret
  exact HE
theorem NewAl_no (p : Pl5) (k c : Int) (h1 : 1 ≤ p.wk) (h2 : p.wk ≤ 1000000) (hc : sizeF c = 0) (w : World) (hT : HTab w) : Calls Tryd.prog 15 #[p.v, .int .i64 k, .int .i64 c] w (NewAlPost w p k c (headF p k c) 4) := by
  have hn := fun wx => newSearch_any p k c h1 h2 wx
  have hS := fun wx (hx : HTab wx) => H8.Size_any c wx hx
  have hz : (sizeF c == 0) = true := by simpa using hc
  have hB0 : (w.alloc (plBox p)).heap[w.heap.size]? = some (plBox p) := (Go.MapKept.heap_alloc w _).1
  have hb0 : Below w.heap.size w (w.alloc (plBox p)) := (Below.refl _ _).alloc (Nat.le_refl _) _
  obtain ⟨c0, c1, c2, c3, c4⟩ := plS_of hB0
  have ha : w.alloc (.cells #[.int .i64 p.wk, .int .i64 p.hd, .int .i64 p.ln, .int .i64 p.gn, .int .i64 p.cv] 25 (0, 0)) = w.alloc (plBox p) := rfl
  have HT : Hid (HTab w) := hT
  unfold Pl5.v at hn ⊢
  generalize headF p k c = H at *
  generalize sizeF c = z at *
  clear hT hc
  go_enter Tryd.func15, Tryd.ntmps15
  go_wp2_with fail
  refine (hn _).mono ?_
  rintro e w1 ⟨x, rfl, hX, hb1, hx⟩
  have hb2 : Below w.heap.size w w1 := below_next hb0 hb0.size hb1
  have hx2 : w.heap.size ≤ x := Nat.le_trans hb0.size hx
  have HE := newAl_end 4 (k := k) (c := c) hb2 hX hx2
  have HT2 : Hid (HTab (w1.alloc (.cells (alB p ⟨x, k, c, p.wk - 1, 0, 0, 0⟩) 74 (0, 0)))) := (HT.out.below hb2).alloc _
  unfold srV
  clear hX hb1 hx hb2 hx2 c0 c1 c2 c3 c4 hb0 hB0 ha hn
  go_wp2_with fail
  refine (hS _ HT2.out).mono ?_
  rintro e w2 ⟨rfl, rfl⟩
  go_wp2_with fail
  go_ret
  exact HE
/-- a free that begins -/
def NewFePost (w : World) (p : Pl5) (h m H : Int) (e : Ending) (w' : World) : Prop := ∃ q y, e = .returned (.pointer (some ⟨q, 0, none⟩)) ∧ FeAt q w' ⟨y, h, false⟩ ∧ PuAt y w' p m ⟨H, 0, 0, 0⟩ ∧ Below w.heap.size w w' ∧ w.heap.size ≤ q ∧ w.heap.size ≤ y ∧ y ≠ q
theorem newFe_end {w w1 : World} {p : Pl5} {h m H : Int} {y : Nat} (hb : Below w.heap.size w w1) (hX : PuAt y w1 p m ⟨H, 0, 0, 0⟩) (hx : w.heap.size ≤ y) : NewFePost w p h m H (.returned (.pointer (some ⟨w1.heap.size, 0, none⟩))) (w1.alloc (.cells (feB ⟨y, h, false⟩) 67 (0, 0))) := by
  have hl := hX.lt
  exact ⟨_, y, rfl, (Go.MapKept.heap_alloc w1 _).1, hX.same (Below.heap_alloc _ _ _ hl), hb.alloc hb.size _, hb.size, hx, by omega⟩
theorem NewFe_ok (p : Pl5) (k a b c : Int) (ho : okP a b c) (w : World) (hT : HTab w) : Calls Tryd.prog 12 #[p.v, .int .i64 k, .int .i64 (packV a b c)] w (NewFePost w p (packV a b c) (a / 8 + 1) (headF p k c)) := by
  have hn := fun wx => NewPush_any p k c a ho.1 (by have := ho.2.1; omega) wx
  have hO := fun wx (hx : HTab wx) => H8.Open_ok ho wx hx
  have hB0 : (w.alloc (plBox p)).heap[w.heap.size]? = some (plBox p) := (Go.MapKept.heap_alloc w _).1
  have hlt := lt_of_block hB0
  have hb0 : Below w.heap.size w (w.alloc (plBox p)) := (Below.refl _ _).alloc (Nat.le_refl _) _
  have ha : w.alloc (.cells #[.int .i64 p.wk, .int .i64 p.hd, .int .i64 p.ln, .int .i64 p.gn, .int .i64 p.cv] 25 (0, 0)) = w.alloc (plBox p) := rfl
  have HT : Hid (HTab (w.alloc (plBox p))) := hT.alloc _
  unfold Pl5.v at hn ⊢
  generalize headF p k c = H at *
  generalize packV a b c = h at *
  generalize a / 8 + 1 = m at *
  clear hT ho
  go_enter Tryd.func12, Tryd.ntmps12
  go_wp2_with fail
  refine (hO _ HT.out).mono ?_
  rintro e w1 ⟨rfl, hb1⟩
  obtain ⟨g, HG⟩ : ∃ g, Hid (g = w.heap.size) := ⟨_, rfl⟩
  rw [← (HG.out : g = w.heap.size)] at hB0 hlt ⊢
  have hB1 := (hb1.block g hlt).trans hB0
  obtain ⟨c0, c1, c2, c3, c4⟩ := plS_of hB1
  have hb2 : Hid (Below w.heap.size w w1) := below_next hb0 hb0.size hb1
  clear hb1 hb0 hB0 hB1 ha hO hlt
  go_wp2_with fail
  refine (hn _).mono ?_
  rintro e w2 ⟨y, rfl, hY, hb3, hy⟩
  have HE := newFe_end (h := h) (below_then hb2.out hb3) hY (Nat.le_trans hb2.out.size hy)
  clear hY hb3 hy hb2 c0 c1 c2 c3 c4
  go_wp2_with fail
  go_ret
  exact HE
end Go.Proofs.YtiedoeifpmfbbaaDoor
namespace Go.Proofs.YtiedoeifpmfbbaaDoor
open Go.RowKit
open H8 (okP sizeF HTab below_then packV packF)
open A9 (Ab ArAt ArMem FrA Ar rawA setRawA swapRawA addRawA useA Left9 ptrA Ok9)
open F0 (Pl5 Tn PuAt PoAt FrS noT puStep poStep TuPost ToPost PuStep_any PoStep_any Base_any baseF headF NewPop_any NewPush_any NewPoPost NewPuPost plBox plS plS_of below_next Wk puB poB noT_new)

/-- an alloc in memory: its box and its pop's, beside an arena -/
structure AlM (B : Ab) (q : Nat) (w : World) (p : Pl5) (a : Al) (t : Tn) : Prop where
  al : AlAt q w p a
  po : PoAt a.x w p t
  qB : ¬ B.has q
  xB : ¬ B.has a.x
  qT : noT q
  xT : noT a.x
def S3 (B : Ab) (q x : Nat) (k : Nat) : Prop := B.has k ∨ k = q ∨ k = x
/-- what a step leaves -/
def SrPost (B : Ab) (q : Nat) (w : World) (p : Pl5) (x : Nat) (v : Value) (s' : Ar) (a' : Al) (t' : Tn) (e : Ending) (w' : World) : Prop :=
  e = .returned v ∧ ArAt B w' s' ∧ AlM B q w' p a' t' ∧ FrS (S3 B q x) w w' ∧ (a'.x = x ∨ w.heap.size ≤ a'.x)
section
variable {B : Ab} {q : Nat} {w w' : World} {p : Pl5} {a : Al} {t t' : Tn} {s s' : Ar}
theorem AlM.ne (h : AlM B q w p a t) : a.x ≠ q := fun e => by
  have h1 := h.al
  have h2 := h.po
  unfold AlAt at h1
  unfold PoAt at h2
  rw [e, h1] at h2
  cases h2
/-- behind a step of the pop -/
theorem AlM.step (h : AlM B q w p a t) (hP : PoAt a.x w' p t') (hF : FrS (fun k => B.has k ∨ k = a.x) w w') : AlM B q w' p a t' ∧ FrS (S3 B q a.x) w w' :=
  ⟨⟨h.al.same (hF.block q h.al.lt fun hh => hh.elim h.qB (fun e => h.ne e.symm)), hP, h.qB, h.xB, h.qT, h.xT⟩, hF.wide fun _ hk => hk.elim .inl fun e => .inr (.inr e)⟩
/-- behind a call of the arena -/
theorem AlM.arena (h : AlM B q w p a t) (hF : FrA B w w') : AlM B q w' p a t ∧ FrS (S3 B q a.x) w w' :=
  ⟨⟨h.al.same (hF.block q h.al.lt h.qB), h.po.same (hF.block a.x h.po.lt h.xB), h.qB, h.xB, h.qT, h.xT⟩, (FrS.of_arena (S := B.has) hF fun _ hk => hk).wide fun _ hk => .inl hk⟩
theorem AlM.below (h : AlM B q w p a t) (hb : Below w.heap.size w w') : AlM B q w' p a t :=
  ⟨h.al.same (hb.block q h.al.lt), h.po.same (hb.block a.x h.po.lt), h.qB, h.xB, h.qT, h.xT⟩
/-- a cell of its box turned, its pop's as it was -/
theorem AlM.set (h : AlM B q w p a t) (i : Nat) (v : Value) {a' : Al} (e : (alB p a).setIfInBounds i v = alB p a') (hx : a'.x = a.x) : AlM B q (w.setCell ⟨q, i, none⟩ v) p a' t :=
  ⟨h.al.set i v e, by rw [hx]; exact h.po.same (Below.heap_setCell _ _ _ _ h.ne), h.qB, by rw [hx]; exact h.xB, h.qT, by rw [hx]; exact h.xT⟩
theorem AlM.cells (h : AlM B q w p a t) : w.cell? ⟨q, 0, none⟩ = some (.pointer (some ⟨a.x, 0, none⟩)) ∧ w.cell? ⟨q, 1, none⟩ = some (.int .i64 p.wk) ∧ w.cell? ⟨q, 2, none⟩ = some (.int .i64 p.hd) ∧ w.cell? ⟨q, 3, none⟩ = some (.int .i64 p.ln) ∧ w.cell? ⟨q, 4, none⟩ = some (.int .i64 p.gn) ∧ w.cell? ⟨q, 5, none⟩ = some (.int .i64 p.cv) ∧ w.cell? ⟨q, 6, none⟩ = some (.int .i64 a.wk) ∧ w.cell? ⟨q, 7, none⟩ = some (.int .i64 a.cl) ∧ w.cell? ⟨q, 8, none⟩ = some (.int .i64 a.rs) ∧ w.cell? ⟨q, 9, none⟩ = some (.int .i64 a.nx) ∧ w.cell? ⟨q, 10, none⟩ = some (.int .i64 a.bs) ∧ w.cell? ⟨q, 11, none⟩ = some (.int .i64 a.hn) :=
  ⟨h.al.cell 0, h.al.cell 1, h.al.cell 2, h.al.cell 3, h.al.cell 4, h.al.cell 5, h.al.cell 6, h.al.cell 7, h.al.cell 8, h.al.cell 9, h.al.cell 10, h.al.cell 11⟩
theorem AlAt.sev (h : AlAt q w p a) : w.cell? ⟨q, 1, none⟩ = some (.int .i64 p.wk) ∧ w.cell? ⟨q, 2, none⟩ = some (.int .i64 p.hd) ∧ w.cell? ⟨q, 3, none⟩ = some (.int .i64 p.ln) ∧ w.cell? ⟨q, 4, none⟩ = some (.int .i64 p.gn) ∧ w.cell? ⟨q, 5, none⟩ = some (.int .i64 p.cv) ∧ w.cell? ⟨q, 6, none⟩ = some (.int .i64 a.wk) ∧ w.cell? ⟨q, 7, none⟩ = some (.int .i64 a.cl) :=
  ⟨h.cell 1, h.cell 2, h.cell 3, h.cell 4, h.cell 5, h.cell 6, h.cell 7⟩
theorem sStep_go (hA : ArAt B w s) (hM : AlM B q w p a t) (hr : t.ph = 0 ∨ t.ph = 1 ∨ t.ph = 2 ∨ t.ph = 3) (hd : (poStep p s t).2.2 = false) :
    Calls Tryd.prog 66 #[.pointer (some ⟨q, 0, none⟩), ptrA B] w (SrPost B q w p a.x (.bool false) (poStep p s t).1 a (poStep p s t).2.1) := by
  have kp := PoStep_any hA hM.xB hM.xT hM.po hr
  obtain ⟨c0, -⟩ := hM.cells
  have HM : Hid (AlM B q w p a t) := hM
  generalize poStep p s t = R at *
  obtain ⟨s', t', d⟩ := R
  simp only at hd
  subst hd
  clear hA hM hr
  go_enter Tryd.func66, Tryd.ntmps66
  go_wp2_with fail
  refine kp.mono ?_
  rintro e w1 ⟨rfl, hA1, hP1, hF1⟩
  obtain ⟨h1, h2⟩ := HM.out.step hP1 hF1
  have HE : Hid (ArAt B w1 s' ∧ AlM B q w1 p a t' ∧ FrS (S3 B q a.x) w w1) := ⟨hA1, h1, h2⟩
  clear hA1 hP1 hF1 h1 h2 kp c0
  go_wp2_with fail
  go_ret
  exact ⟨rfl, HE.out.1, HE.out.2.1, HE.out.2.2, .inl rfl⟩
theorem sStep_has (hA : ArAt B w s) (hM : AlM B q w p a t) (hr : t.ph = 0 ∨ t.ph = 1 ∨ t.ph = 2 ∨ t.ph = 3) (hd : (poStep p s t).2.2 = true) (hb : (baseF (poStep p s t).2.1).2 = true) :
    Calls Tryd.prog 66 #[.pointer (some ⟨q, 0, none⟩), ptrA B] w (SrPost B q w p a.x (.bool true) (poStep p s t).1 a (poStep p s t).2.1) := by
  have kp := PoStep_any hA hM.xB hM.xT hM.po hr
  obtain ⟨c0, -⟩ := hM.cells
  have HM : Hid (AlM B q w p a t) := hM
  generalize poStep p s t = R at *
  obtain ⟨s', t', d⟩ := R
  simp only at hd hb
  subst hd
  have kb := fun wx (hx : PoAt a.x wx p t') => Base_any hx
  generalize baseF t' = bb at *
  obtain ⟨b1, b2⟩ := bb
  simp only at hb
  subst hb
  clear hA hM hr
  go_enter Tryd.func66, Tryd.ntmps66
  go_wp2_with fail
  refine kp.mono ?_
  rintro e w1 ⟨rfl, hA1, hP1, hF1⟩
  obtain ⟨h1, h2⟩ := HM.out.step hP1 hF1
  obtain ⟨d0, -⟩ := h1.cells
  have kb1 := kb _ h1.po
  have HE : Hid (ArAt B w1 s' ∧ AlM B q w1 p a t' ∧ FrS (S3 B q a.x) w w1) := ⟨hA1, h1, h2⟩
  clear hA1 hP1 hF1 h1 h2 kp c0 kb
  go_wp2_with fail
  refine kb1.mono ?_
  rintro e w2 ⟨rfl, rfl⟩
  go_wp2_with fail
  go_ret
  exact ⟨rfl, HE.out.1, HE.out.2.1, HE.out.2.2, .inl rfl⟩
theorem sStep_end (hA : ArAt B w s) (hM : AlM B q w p a t) (hr : t.ph = 0 ∨ t.ph = 1 ∨ t.ph = 2 ∨ t.ph = 3) (hd : (poStep p s t).2.2 = true) (hb : (baseF (poStep p s t).2.1).2 = false) (h0 : a.rs = 0) :
    Calls Tryd.prog 66 #[.pointer (some ⟨q, 0, none⟩), ptrA B] w (SrPost B q w p a.x (.bool true) (poStep p s t).1 a (poStep p s t).2.1) := by
  have kp := PoStep_any hA hM.xB hM.xT hM.po hr
  obtain ⟨c0, -⟩ := hM.cells
  have HM : Hid (AlM B q w p a t) := hM
  generalize poStep p s t = R at *
  obtain ⟨s', t', d⟩ := R
  simp only at hd hb
  subst hd
  have kb := fun wx (hx : PoAt a.x wx p t') => Base_any hx
  generalize baseF t' = bb at *
  obtain ⟨b1, b2⟩ := bb
  simp only at hb
  subst hb
  clear hA hM hr
  go_enter Tryd.func66, Tryd.ntmps66
  go_wp2_with fail
  refine kp.mono ?_
  rintro e w1 ⟨rfl, hA1, hP1, hF1⟩
  obtain ⟨h1, h2⟩ := HM.out.step hP1 hF1
  obtain ⟨d0, -, -, -, -, -, -, -, d8, -⟩ := h1.cells
  rw [h0] at d8
  have kb1 := kb _ h1.po
  have HE : Hid (ArAt B w1 s' ∧ AlM B q w1 p a t' ∧ FrS (S3 B q a.x) w w1) := ⟨hA1, h1, h2⟩
  clear hA1 hP1 hF1 h1 h2 kp c0 kb h0
  go_wp2_with fail
  refine kb1.mono ?_
  rintro e w2 ⟨rfl, rfl⟩
  go_wp2_with fail
  go_ret
  exact ⟨rfl, HE.out.1, HE.out.2.1, HE.out.2.2, .inl rfl⟩
/-- the next list -/
theorem sStep_next (hA : ArAt B w s) (hM : AlM B q w p a t) (hr : t.ph = 0 ∨ t.ph = 1 ∨ t.ph = 2 ∨ t.ph = 3) (hd : (poStep p s t).2.2 = true) (hb : (baseF (poStep p s t).2.1).2 = false) {r k n : Nat} (h0 : a.rs = ((r + 1 : Nat) : Int)) (hk : a.wk = (k : Int)) (hn : p.wk = (n : Int)) (hkn : k < n) (hn2 : n ≤ 1000) (hr2 : r ≤ 1000) :
    Calls Tryd.prog 66 #[.pointer (some ⟨q, 0, none⟩), ptrA B] w fun e w' => ∃ x', SrPost B q w p a.x (.bool false) (poStep p s t).1 { a with x := x', wk := ((k + 1) % n : Nat), rs := (r : Int) } ⟨headF p ((k + 1) % n : Nat) a.cl, 0, 0, 0⟩ e w' := by
  have kp := PoStep_any hA hM.xB hM.xT hM.po hr
  obtain ⟨c0, -⟩ := hM.cells
  have HM : Hid (AlM B q w p a t) := hM
  generalize poStep p s t = R at *
  obtain ⟨s', t', d⟩ := R
  simp only at hd hb
  subst hd
  have kb := fun wx (hx : PoAt a.x wx p t') => Base_any hx
  have kh := fun wx => behind_any k n hkn hn2 wx
  have kn := fun wx => NewPop_any p ((k + 1) % n : Nat) a.cl wx
  generalize baseF t' = bb at *
  obtain ⟨b1, b2⟩ := bb
  simp only at hb
  subst hb
  clear hA hM hr
  have hne0 : (((r + 1 : Nat) : Int) == 0) = false := by simp; omega
  have hw1 : IntKind.i64.wrap (((r + 1 : Nat) : Int) - 1) = (r : Int) := by rw [IntKind.wrap_i64]; omega
  have HK : Hid (a.rs = ((r + 1 : Nat) : Int) ∧ a.wk = (k : Int) ∧ p.wk = (n : Int)) := ⟨h0, hk, hn⟩
  generalize hH : headF p ((k + 1) % n : Nat) a.cl = H at *
  generalize (k + 1) % n = k2 at *
  unfold Pl5.v at kn
  clear h0 hk hn hH hkn hn2
  go_enter Tryd.func66, Tryd.ntmps66
  go_wp2_with fail
  refine kp.mono ?_
  rintro e w1 ⟨rfl, hA1, hP1, hF1⟩
  obtain ⟨h1, h2⟩ := HM.out.step hP1 hF1
  obtain ⟨d0, -, -, -, -, -, -, -, d8, -⟩ := h1.cells
  rw [HK.out.1] at d8
  have f8 := h1.al.frozen 8
  have kb1 := kb _ h1.po
  have h3 := h1.set 8 (.int .i64 (r : Int)) (a' := { a with rs := (r : Int) }) rfl rfl
  have HE : Hid (ArAt B (w1.setCell ⟨q, 8, none⟩ (.int .i64 (r : Int))) s' ∧ AlM B q (w1.setCell ⟨q, 8, none⟩ (.int .i64 (r : Int))) p { a with rs := (r : Int) } t' ∧ FrS (S3 B q a.x) w (w1.setCell ⟨q, 8, none⟩ (.int .i64 (r : Int)))) := ⟨hA1.setOther h1.qB h1.qT.1 h1.qT.2 8 _, h3, h2.setCell (.inr (.inl rfl)) _ _⟩
  clear hA1 hP1 hF1 h1 h2 kp c0 kb h3
  go_wp2_with fail
  refine kb1.mono ?_
  rintro e w2 ⟨rfl, rfl⟩
  go_wp2_with fail
  generalize w2.setCell ⟨q, 8, none⟩ (.int .i64 (r : Int)) = w3 at *
  obtain ⟨-, d1, d2, d3, d4, d5, d6, d7, -⟩ := HE.out.2.1.cells
  have f6 := HE.out.2.1.al.frozen 6
  simp only at d6 d7
  rw [HK.out.2.1] at d6
  rw [HK.out.2.2] at d1
  go_region_law (go_simp; go_at_call 72; refine (kh _).mono ?_; rintro e w4 ⟨rfl, rfl⟩)
  all_goals
    have HE5 : Hid (ArAt B (w3.setCell ⟨q, 6, none⟩ (.int .i64 (k2 : Int))).drew s' ∧ AlM B q (w3.setCell ⟨q, 6, none⟩ (.int .i64 (k2 : Int))).drew p { a with wk := (k2 : Int), rs := (r : Int) } t' ∧ FrS (S3 B q a.x) w (w3.setCell ⟨q, 6, none⟩ (.int .i64 (k2 : Int))).drew) := by
      obtain ⟨x1, x2, x3⟩ := HE.out
      have x4 := x2.set 6 (.int .i64 (k2 : Int)) (a' := { a with wk := (k2 : Int), rs := (r : Int) }) rfl rfl
      exact ⟨(x1.setOther x2.qB x2.qT.1 x2.qT.2 6 _).drew, x4.below (Below.refl _ _).drew, (x3.setCell (.inr (.inl rfl)) _ _).drew⟩
    clear d1 d2 d3 d4 d5 d6 d7 f6 HE kh
    generalize (w3.setCell ⟨q, 6, none⟩ (.int .i64 (k2 : Int))).drew = w5 at *
    have S5 := HE5.out.2.1.al.sev
    simp only at S5
    have d0 := HE5.out.2.1.cells.1
    have f0 := HE5.out.2.1.al.frozen 0
    go_wp2_with fail
    go_region_held3 (fun w' => w'.cell? ⟨q, 1, none⟩ = some (.int .i64 p.wk) ∧ w'.cell? ⟨q, 2, none⟩ = some (.int .i64 p.hd) ∧ w'.cell? ⟨q, 3, none⟩ = some (.int .i64 p.ln) ∧ w'.cell? ⟨q, 4, none⟩ = some (.int .i64 p.gn) ∧ w'.cell? ⟨q, 5, none⟩ = some (.int .i64 p.cv) ∧ w'.cell? ⟨q, 6, none⟩ = some (.int .i64 (k2 : Int)) ∧ w'.cell? ⟨q, 7, none⟩ = some (.int .i64 a.cl)) (first | exact S5 | exact S6 | exact S7) (first
      | (go_at_call 38; refine (kn _).mono ?_; rintro e w6 ⟨x, rfl, hX6, hb6, hx6⟩; have hb7 : Below w5.heap.size w5 w6 := (by first | exact hb6 | exact below_then (Below.refl _ _).drew hb6); have hx7 : w5.heap.size ≤ x := hx6; have HM6 := HE5.out.2.1.below hb7; have S6 := HM6.al.sev; have e0 := HM6.cells.1; have g0 := HM6.al.frozen 0; have hA7 := HM6.al.set 0 (.pointer (some ⟨x, 0, none⟩)) (a' := { a with x := x, wk := (k2 : Int), rs := (r : Int) }) rfl; have S7 := hA7.sev))
    have HQ : Hid (SrPost B q w p a.x (.bool false) s' { a with x := x, wk := (k2 : Int), rs := (r : Int) } ⟨H, 0, 0, 0⟩ (.returned (.bool false)) (w6.setCell ⟨q, 0, none⟩ (.pointer (some ⟨x, 0, none⟩)))) := by
      obtain ⟨x1, x2, x3⟩ := HE5.out
      have hql := x2.al.lt
      have hF : FrS (S3 B q a.x) w w6 := x3.trans (FrS.of_below hb7)
      refine ⟨rfl, (x1.below hb7).setOther x2.qB x2.qT.1 x2.qT.2 0 _, ⟨hA7, hX6.same (Below.heap_setCell _ _ _ _ (by show x ≠ q; omega)), x2.qB, (show ¬ B.has x from fun hb => by have := x1.lt hb; omega), x2.qT, noT_new x1.tab hx7⟩, hF.setCell (.inr (.inl rfl)) _ _, .inr ?_⟩
      exact Nat.le_trans x3.size hx7
    clear S5 S6 S7 d0 f0 e0 g0 hA7 hX6 hb6 hb7 hx6 hx7 HM6 HE5 kn
    go_wp2_with fail
    go_ret
    exact ⟨x, HQ.out⟩
end
end Go.Proofs.YtiedoeifpmfbbaaDoor
namespace Go.Proofs.YtiedoeifpmfbbaaDoor
open Go.RowKit
open H8 (okP sizeF HTab below_then packV packF)
open A9 (Ab ArAt ArMem FrA Ar rawA setRawA swapRawA addRawA useA Left9 ptrA Ok9 okB bornS bornA)
open F0 (Pl5 Tn PuAt PoAt FrS noT puStep poStep TuPost ToPost PuStep_any PoStep_any Base_any baseF headF NewPop_any NewPush_any NewPoPost NewPuPost plBox plS plS_of below_next Wk puB poB noT_new)

def SrE (B : Ab) (q : Nat) (w : World) (p : Pl5) (x : Nat) (v : Value) (s' : Ar) (Φ : Al → Tn → Prop) (e : Ending) (w' : World) : Prop := ∃ a' t', SrPost B q w p x v s' a' t' e w' ∧ Φ a' t'
section
variable {B : Ab} {q : Nat} {w w' : World} {p : Pl5} {a : Al} {t t' : Tn} {s s' : Ar}
theorem aSearch_go (hA : ArAt B w s) (hM : AlM B q w p a t) (hr : t.ph = 0 ∨ t.ph = 1 ∨ t.ph = 2 ∨ t.ph = 3) (hd : (poStep p s t).2.2 = false) :
    Calls Tryd.prog 62 #[.pointer (some ⟨q, 0, none⟩), ptrA B] w (SrE B q w p a.x (.int .i64 0) (poStep p s t).1 fun a' t' => a' = a ∧ t' = (poStep p s t).2.1) := by
  have kp := sStep_go hA hM hr hd
  generalize poStep p s t = R at *
  clear hA hM hr hd
  go_enter Tryd.func62, Tryd.ntmps62
  go_wp2_with fail
  refine kp.mono ?_
  rintro e w1 ⟨rfl, h1, h2, h3, h4⟩
  have HE : Hid (SrPost B q w p a.x (.int .i64 0) R.1 a R.2.1 (.returned (.int .i64 0)) w1) := ⟨rfl, h1, h2, h3, h4⟩
  clear h1 h2 h3 h4 kp
  go_wp2_with fail
  go_ret
  exact ⟨a, R.2.1, HE.out, rfl, rfl⟩
theorem aSearch_next (hA : ArAt B w s) (hM : AlM B q w p a t) (hr : t.ph = 0 ∨ t.ph = 1 ∨ t.ph = 2 ∨ t.ph = 3) (hd : (poStep p s t).2.2 = true) (hb : (baseF (poStep p s t).2.1).2 = false) {r k n : Nat} (h0 : a.rs = ((r + 1 : Nat) : Int)) (hk : a.wk = (k : Int)) (hn : p.wk = (n : Int)) (hkn : k < n) (hn2 : n ≤ 1000) (hr2 : r ≤ 1000) :
    Calls Tryd.prog 62 #[.pointer (some ⟨q, 0, none⟩), ptrA B] w (SrE B q w p a.x (.int .i64 0) (poStep p s t).1 fun a' t' => (∃ x', a' = { a with x := x', wk := ((k + 1) % n : Nat), rs := (r : Int) }) ∧ t' = ⟨headF p ((k + 1) % n : Nat) a.cl, 0, 0, 0⟩) := by
  have kp := sStep_next hA hM hr hd hb h0 hk hn hkn hn2 hr2
  generalize poStep p s t = R at *
  clear hA hM hr hd hb h0 hn hkn hn2 hr2 hk
  generalize headF p ((k + 1) % n : Nat) a.cl = H at *
  generalize (k + 1) % n = k2 at *
  go_enter Tryd.func62, Tryd.ntmps62
  go_wp2_with fail
  refine kp.mono ?_
  rintro e w1 ⟨x', rfl, h1, h2, h3, h4⟩
  have HE : Hid (SrPost B q w p a.x (.int .i64 0) R.1 { a with x := x', wk := (k2 : Int), rs := (r : Int) } ⟨H, 0, 0, 0⟩ (.returned (.int .i64 0)) w1) := ⟨rfl, h1, h2, h3, h4⟩
  clear h1 h2 h3 h4 kp
  go_wp2_with fail
  go_ret
  exact ⟨_, _, HE.out, ⟨x', rfl⟩, rfl⟩
theorem aSearch_none (hA : ArAt B w s) (hM : AlM B q w p a t) (hr : t.ph = 0 ∨ t.ph = 1 ∨ t.ph = 2 ∨ t.ph = 3) (hd : (poStep p s t).2.2 = true) (hb : (baseF (poStep p s t).2.1).2 = false) (h0 : a.rs = 0) :
    Calls Tryd.prog 62 #[.pointer (some ⟨q, 0, none⟩), ptrA B] w (SrE B q w p a.x (.int .i64 1) (poStep p s t).1 fun a' t' => a' = a ∧ t' = (poStep p s t).2.1) := by
  have kp := sStep_end hA hM hr hd hb h0
  generalize poStep p s t = R at *
  have kb := fun wx (hx : PoAt a.x wx p R.2.1) => Base_any hx
  generalize baseF R.2.1 = bb at *
  obtain ⟨b1, b2⟩ := bb
  simp only at hb
  subst hb
  clear hA hM hr hd h0
  go_enter Tryd.func62, Tryd.ntmps62
  go_wp2_with fail
  refine kp.mono ?_
  rintro e w1 ⟨rfl, h1, h2, h3, h4⟩
  have kb1 := kb _ h2.po
  have d0 := h2.cells.1
  have HE : Hid (SrPost B q w p a.x (.int .i64 1) R.1 a R.2.1 (.returned (.int .i64 1)) w1) := ⟨rfl, h1, h2, h3, h4⟩
  clear h1 h2 h3 h4 kp kb
  go_wp2_with fail
  refine kb1.mono ?_
  rintro e w2 ⟨rfl, rfl⟩
  go_wp2_with fail
  go_ret
  exact ⟨a, R.2.1, HE.out, rfl, rfl⟩
theorem aSearch_has (hA : ArAt B w s) (hM : AlM B q w p a t) (hr : t.ph = 0 ∨ t.ph = 1 ∨ t.ph = 2 ∨ t.ph = 3) (hd : (poStep p s t).2.2 = true) (hb : (baseF (poStep p s t).2.1).2 = true) :
    Calls Tryd.prog 62 #[.pointer (some ⟨q, 0, none⟩), ptrA B] w (SrE B q w p a.x (.int .i64 3) (poStep p s t).1 fun a' t' => a' = { a with bs := (baseF (poStep p s t).2.1).1 } ∧ t' = (poStep p s t).2.1) := by
  have kp := sStep_has hA hM hr hd hb
  generalize poStep p s t = R at *
  have kb := fun wx (hx : PoAt a.x wx p R.2.1) => Base_any hx
  generalize baseF R.2.1 = bb at *
  obtain ⟨b1, b2⟩ := bb
  simp only at hb
  subst hb
  clear hA hM hr hd
  go_enter Tryd.func62, Tryd.ntmps62
  go_wp2_with fail
  refine kp.mono ?_
  rintro e w1 ⟨rfl, h1, h2, h3, h4⟩
  have kb1 := kb _ h2.po
  have d0 := h2.cells.1
  have d10 : w1.cell? ⟨q, 10, none⟩ = some (.int .i64 a.bs) := h2.al.cell 10
  have f10 := h2.al.frozen 10
  have HE : Hid (SrPost B q w p a.x (.int .i64 3) R.1 { a with bs := b1 } R.2.1 (.returned (.int .i64 3)) (w1.setCell ⟨q, 10, none⟩ (.int .i64 b1))) := ⟨rfl, h1.setOther h2.qB h2.qT.1 h2.qT.2 10 _, h2.set 10 _ rfl rfl, h3.setCell (.inr (.inl rfl)) _ _, h4⟩
  clear h1 h2 h3 h4 kp kb
  go_wp2_with fail
  refine kb1.mono ?_
  rintro e w2 ⟨rfl, rfl⟩
  go_wp2_with fail
  go_ret
  exact ⟨_, R.2.1, HE.out, rfl, rfl⟩
/-- what is carved is looked at -/
theorem aMeas_any (hA : ArAt B w s) (hM : AlM B q w p a t) (hc : 0 ≤ a.cl ∧ a.cl < 4) (hn : s.nw ≤ 65536) :
    Calls Tryd.prog 63 #[.pointer (some ⟨q, 0, none⟩), ptrA B] w (SrE B q w p a.x (.int .i64 (if (rawA s p.cv).1.nw - sizeF a.cl < (rawA s p.cv).2 then 4 else 2)) (rawA s p.cv).1 fun a' t' => a' = { a with bs := (rawA s p.cv).2 } ∧ t' = t) := by
  have kr := A9.Raw_any hA p.cv
  have hnw : (rawA s p.cv).1.nw = s.nw := by unfold rawA; split <;> rfl
  have hz := A9.sizeF_bd hc.1 hc.2
  obtain ⟨-, -, -, -, -, c5, -⟩ := hM.cells
  have HM : Hid (AlM B q w p a t) := hM
  generalize rawA s p.cv = R at *
  obtain ⟨s', v⟩ := R
  simp only at kr hnw ⊢
  have kw := fun wx (hx : ArAt B wx s') => Words_any hx
  have ks := fun wx (hx : HTab wx) => H8.Size_any a.cl wx hx
  rw [hnw] at kw ⊢
  generalize s.nw = N at *
  generalize sizeF a.cl = z at *
  have hwr : IntKind.i64.wrap ((N : Int) - z) = (N : Int) - z := by rw [IntKind.wrap_i64]; omega
  clear hA hM hnw
  by_cases ht : (N : Int) - z < v
  · rw [if_pos ht]
    go_enter Tryd.func63, Tryd.ntmps63
    go_wp2_with fail
    refine kr.mono ?_
    rintro e w1 ⟨rfl, hA1, hF1⟩
    obtain ⟨h2, h3⟩ := HM.out.arena hF1
    have f10 := h2.al.frozen 10
    have d10 : w1.cell? ⟨q, 10, none⟩ = some (.int .i64 a.bs) := h2.al.cell 10
    have h4 := h2.set 10 (.int .i64 v) (a' := { a with bs := v }) rfl rfl
    have HE : Hid (ArAt B (w1.setCell ⟨q, 10, none⟩ (.int .i64 v)) s' ∧ AlM B q (w1.setCell ⟨q, 10, none⟩ (.int .i64 v)) p { a with bs := v } t ∧ FrS (S3 B q a.x) w (w1.setCell ⟨q, 10, none⟩ (.int .i64 v))) := ⟨hA1.setOther h2.qB h2.qT.1 h2.qT.2 10 _, h4, h3.setCell (.inr (.inl rfl)) _ _⟩
    clear hA1 hF1 h2 h3 h4 c5 kr
    go_wp2_with fail
    clear f10 d10
    generalize w1.setCell ⟨q, 10, none⟩ (.int .i64 v) = w2 at *
    obtain ⟨-, -, -, -, -, -, -, d7, -, -, d10, -⟩ := HE.out.2.1.cells
    simp only at d7 d10
    go_quiet ((first | (go_at_call 68; exact Calls.quiet_of_same (kw _ (HE.out.1.drewN _))) | (go_at_call 18; exact Calls.quiet_of_same (ks _ (HE.out.1.tab.drewN _)))))
    have HQ : Hid (ArAt B (w2.drewN nq) s' ∧ AlM B q (w2.drewN nq) p { a with bs := v } t ∧ FrS (S3 B q a.x) w (w2.drewN nq)) := ⟨HE.out.1.drewN nq, HE.out.2.1.below ⟨rfl, rfl, rfl, Nat.le_refl _, fun _ _ => rfl⟩, HE.out.2.2.drewN nq⟩
    clear HE kw ks d7 d10
    go_wp2_with fail
    go_ret
    exact ⟨_, t, ⟨rfl, HQ.out.1, HQ.out.2.1, HQ.out.2.2, .inl rfl⟩, rfl, rfl⟩
  · rw [if_neg ht]
    go_enter Tryd.func63, Tryd.ntmps63
    go_wp2_with fail
    refine kr.mono ?_
    rintro e w1 ⟨rfl, hA1, hF1⟩
    obtain ⟨h2, h3⟩ := HM.out.arena hF1
    have f10 := h2.al.frozen 10
    have d10 : w1.cell? ⟨q, 10, none⟩ = some (.int .i64 a.bs) := h2.al.cell 10
    have h4 := h2.set 10 (.int .i64 v) (a' := { a with bs := v }) rfl rfl
    have HE : Hid (ArAt B (w1.setCell ⟨q, 10, none⟩ (.int .i64 v)) s' ∧ AlM B q (w1.setCell ⟨q, 10, none⟩ (.int .i64 v)) p { a with bs := v } t ∧ FrS (S3 B q a.x) w (w1.setCell ⟨q, 10, none⟩ (.int .i64 v))) := ⟨hA1.setOther h2.qB h2.qT.1 h2.qT.2 10 _, h4, h3.setCell (.inr (.inl rfl)) _ _⟩
    clear hA1 hF1 h2 h3 h4 c5 kr
    go_wp2_with fail
    clear f10 d10
    generalize w1.setCell ⟨q, 10, none⟩ (.int .i64 v) = w2 at *
    obtain ⟨-, -, -, -, -, -, -, d7, -, -, d10, -⟩ := HE.out.2.1.cells
    simp only at d7 d10
    go_quiet ((first | (go_at_call 68; exact Calls.quiet_of_same (kw _ (HE.out.1.drewN _))) | (go_at_call 18; exact Calls.quiet_of_same (ks _ (HE.out.1.tab.drewN _)))))
    have HQ : Hid (ArAt B (w2.drewN nq) s' ∧ AlM B q (w2.drewN nq) p { a with bs := v } t ∧ FrS (S3 B q a.x) w (w2.drewN nq)) := ⟨HE.out.1.drewN nq, HE.out.2.1.below ⟨rfl, rfl, rfl, Nat.le_refl _, fun _ _ => rfl⟩, HE.out.2.2.drewN nq⟩
    clear HE kw ks d7 d10
    go_wp2_with fail
    go_ret
    exact ⟨_, t, ⟨rfl, HQ.out.1, HQ.out.2.1, HQ.out.2.2, .inl rfl⟩, rfl, rfl⟩
end
end Go.Proofs.YtiedoeifpmfbbaaDoor
namespace Go.Proofs.YtiedoeifpmfbbaaDoor
open Go.RowKit
open H8 (okP sizeF HTab below_then packV packF)
open A9 (Ab ArAt ArMem FrA Ar rawA setRawA swapRawA addRawA useA Left9 ptrA Ok9 okB bornS bornA)
open F0 (Pl5 Tn PuAt PoAt FrS noT puStep poStep TuPost ToPost PuStep_any PoStep_any Base_any baseF headF NewPop_any NewPush_any NewPoPost NewPuPost plBox plS plS_of below_next Wk puB poB noT_new)

section
variable {B : Ab} {q : Nat} {w w' : World} {p : Pl5} {a : Al} {t t' : Tn} {s s' : Ar}
def carS (q : Nat) (p : Pl5) (a : Al) (w' : World) : Prop := w'.cell? ⟨q, 5, none⟩ = some (.int .i64 p.cv) ∧ w'.cell? ⟨q, 7, none⟩ = some (.int .i64 a.cl) ∧ w'.cell? ⟨q, 10, none⟩ = some (.int .i64 a.bs)
theorem AlAt.carS (h : AlAt q w p a) : carS q p a w := ⟨h.cell 5, h.cell 7, h.cell 10⟩
theorem aCarve_any (hA : ArAt B w s) (hM : AlM B q w p a t) (hc : 0 ≤ a.cl ∧ a.cl < 4) (hb : 0 ≤ a.bs ∧ a.bs ≤ 1000000) :
    Calls Tryd.prog 64 #[.pointer (some ⟨q, 0, none⟩), ptrA B] w (SrE B q w p a.x (.int .i64 (if (swapRawA s p.cv a.bs (a.bs + sizeF a.cl)).2 = true then 3 else 1)) (swapRawA s p.cv a.bs (a.bs + sizeF a.cl)).1 fun a' t' => a' = a ∧ t' = t) := by
  have kr := fun wx (hx : ArAt B wx s) => A9.SwapRaw_any hx p.cv a.bs (a.bs + sizeF a.cl)
  have ks := fun wx (hx : HTab wx) => H8.Size_any a.cl wx hx
  have hz := A9.sizeF_bd hc.1 hc.2
  have hM0 := hM.al.carS
  obtain ⟨c5, c7, c10⟩ := hM0
  have HM : Hid (ArAt B w s ∧ AlM B q w p a t) := ⟨hA, hM⟩
  generalize swapRawA s p.cv a.bs (a.bs + sizeF a.cl) = R at *
  obtain ⟨s', ok⟩ := R
  simp only at kr ⊢
  generalize sizeF a.cl = z at *
  have hwr : IntKind.i64.wrap (a.bs + z) = a.bs + z := by rw [IntKind.wrap_i64]; omega
  clear hA hM
  go_enter Tryd.func64, Tryd.ntmps64
  go_wp2_with fail
  go_region_held3 (fun w' => w'.cell? ⟨q, 5, none⟩ = some (.int .i64 p.cv) ∧ w'.cell? ⟨q, 7, none⟩ = some (.int .i64 a.cl) ∧ w'.cell? ⟨q, 10, none⟩ = some (.int .i64 a.bs)) (first | exact ⟨c5, c7, c10⟩ | exact S2) (first
    | (go_at_call 18; refine (ks _ (by first | exact HM.out.1.tab | exact HM.out.1.drew.tab)).mono ?_; rintro e w1 ⟨rfl, rfl⟩)
    | (go_at_call 58; refine (kr _ (by first | exact HM.out.1 | exact HM.out.1.drew)).mono ?_; rintro e w2 ⟨rfl, HA2, hF2⟩; have HF2 : FrA B w w2 := (by first | exact hF2 | exact (FrA.refl B w).drew.trans hF2); have HM2 := HM.out.2.arena HF2; have S2 := HM2.1.al.carS))
  all_goals
    have HE : Hid (ArAt B w2 s' ∧ AlM B q w2 p a t ∧ FrS (S3 B q a.x) w w2) := ⟨HA2, HM2⟩
    clear HA2 hF2 HF2 HM2 S2 c5 c7 c10 kr ks HM
    cases ok
    · go_wp2_with fail
      go_ret
      exact ⟨a, t, ⟨rfl, HE.out.1, HE.out.2.1, HE.out.2.2, .inl rfl⟩, rfl, rfl⟩
    · go_wp2_with fail
      go_ret
      exact ⟨a, t, ⟨rfl, HE.out.1, HE.out.2.1, HE.out.2.2, .inl rfl⟩, rfl, rfl⟩
theorem aName_any (hA : ArAt B w s) (hM : AlM B q w p a t) {b : Nat} {c g : Int} (hc : a.cl = c) (hb : a.bs = 8 * (b : Int)) (hb2 : b ≤ 8192) (hg : 0 ≤ p.gn ∧ p.gn ≤ 1000000) {s1 : Ar} (hr : addRawA s (p.gn + b) 1 = (s1, g)) (hg2 : 0 ≤ g ∧ g ≤ 10000000) (ho : okP (8 * (b : Int)) (g + 1) c) (hB : bornA s1 (packV (8 * (b : Int)) (g + 1) c) = (bornS s1 (packV (8 * (b : Int)) (g + 1) c), true)) :
    Calls Tryd.prog 65 #[.pointer (some ⟨q, 0, none⟩), ptrA B] w (SrE B q w p a.x (.int .i64 4) (bornS s1 (packV (8 * (b : Int)) (g + 1) c)) fun a' t' => a' = { a with hn := packV (8 * (b : Int)) (g + 1) c } ∧ t' = t) := by
  have kr : ∀ n', n' = p.gn + (b : Int) → ∀ wx, ArAt B wx s → Calls Tryd.prog 69 #[ptrA B, .int .i64 n', .int .i64 1] wx (Left9 B wx (.int .i64 g) s1) := fun n' hn wx hx => by
    have h := A9.AddRaw_any hx (p.gn + b) 1
    rw [hr] at h
    rw [hn]
    exact h
  have kp := fun wx (hx : HTab wx) => H8.Pack_ok ho wx hx
  have kb := fun wx (hx : ArAt B wx s1) => A9.Born_any hx (packV (8 * (b : Int)) (g + 1) c)
  rw [hB] at kb
  obtain ⟨-, -, -, -, c4, -, -, c7, -, -, c10, -⟩ := hM.cells
  rw [hc] at c7
  obtain ⟨v, hv⟩ : ∃ v, v = 8 * (b : Int) := ⟨_, rfl⟩
  rw [hb, ← hv] at c10
  rw [← hv] at kp kb
  have hv8 : v / 8 = (b : Int) := by omega
  have hv0 : 0 ≤ v := by omega
  have hq : IntKind.i64.wrap (v.tdiv 8) = (b : Int) := by rw [Int.tdiv_eq_ediv_of_nonneg hv0, hv8, IntKind.wrap_i64]; omega
  have hb0 : ∀ u, a.bs = u → u = v := fun u hu => by omega
  have HM : Hid (ArAt B w s ∧ AlM B q w p a t) := ⟨hA, hM⟩
  have HC : Hid (a.cl = c ∧ a.bs = v) := ⟨hc, hb.trans hv.symm⟩
  rw [← hv]
  generalize packV v (g + 1) c = h at *
  generalize bornS s1 h = s2 at *
  have hw1 : IntKind.i64.wrap (g + 1) = g + 1 := by rw [IntKind.wrap_i64]; omega
  have hw2 : IntKind.i64.wrap (p.gn + (b : Int)) = p.gn + (b : Int) := by rw [IntKind.wrap_i64]; omega
  simp only at kb
  clear hA hM ho hB hr hc hb hb0 hv
  go_enter Tryd.func65, Tryd.ntmps65
  go_wp2_with fail
  go_region_held3 (fun w' => w'.cell? ⟨q, 4, none⟩ = some (.int .i64 p.gn) ∧ w'.cell? ⟨q, 10, none⟩ = some (.int .i64 v)) (first | exact ⟨c4, c10⟩ | exact S2) (first
    | (go_at_call 69; refine (kr _ (by first | rfl | (rw [hq]; exact hw2)) _ (by first | exact HM.out.1 | exact HM.out.1.drew)).mono ?_; rintro e w2 ⟨rfl, HA2, hF2⟩; have HF2 : FrA B w w2 := (by first | exact hF2 | exact (FrA.refl B w).drew.trans hF2); have HM2 := HM.out.2.arena HF2; have d4 := HM2.1.cells.2.2.2.2.1; have d10 := HM2.1.cells.2.2.2.2.2.2.2.2.2.2.1; rw [HC.out.2] at d10; have S2 := And.intro d4 d10))
  all_goals
    have HE : Hid (ArAt B w2 s1 ∧ AlM B q w2 p a t ∧ FrS (S3 B q a.x) w w2) := ⟨HA2, HM2⟩
    have d7 := HE.out.2.1.cells.2.2.2.2.2.2.2.1
    rw [HC.out.1] at d7
    have S3' := And.intro d7 d10
    clear HA2 hF2 HF2 HM2 S2 c4 c7 c10 kr HM
    go_wp2_with fail
    go_region_held3 (fun w' => w'.cell? ⟨q, 7, none⟩ = some (.int .i64 c) ∧ w'.cell? ⟨q, 10, none⟩ = some (.int .i64 v)) (first | exact S3' | exact S4) (first
      | (go_at_call 32; refine (kp _ (by first | exact HE.out.1.tab | exact HE.out.1.drew.tab)).mono ?_; rintro e w3 ⟨rfl, hb3⟩; have hb4 : Below w2.heap.size w2 w3 := (by first | exact hb3 | exact below_then (Below.refl _ _).drew hb3); have HM3 := HE.out.2.1.below hb4; have e7 := HM3.cells.2.2.2.2.2.2.2.1; have e10 := HM3.cells.2.2.2.2.2.2.2.2.2.2.1; rw [HC.out.1] at e7; rw [HC.out.2] at e10; have S4 := And.intro e7 e10))
    all_goals
      have HE3 : Hid (ArAt B w3 s1 ∧ AlM B q w3 p a t ∧ FrS (S3 B q a.x) w w3) := ⟨HE.out.1.below hb4, HM3, HE.out.2.2.trans (FrS.of_below hb4)⟩
      have kb3 := kb _ HE3.out.1
      clear d4 d7 d10 S3' hb3 hb4 HM3 e7 e10 S4 HE kb kp
      go_wp2_with fail
      refine kb3.mono ?_
      rintro e w4 ⟨rfl, hA4, hF4⟩
      obtain ⟨h2, h3⟩ := HE3.out.2.1.arena hF4
      have f11 := h2.al.frozen 11
      have d11 : w4.cell? ⟨q, 11, none⟩ = some (.int .i64 a.hn) := h2.al.cell 11
      have HQ : Hid (SrPost B q w p a.x (.int .i64 4) s2 { a with hn := h } t (.returned (.int .i64 4)) (w4.setCell ⟨q, 11, none⟩ (.int .i64 h))) := ⟨rfl, hA4.setOther h2.qB h2.qT.1 h2.qT.2 11 _, h2.set 11 _ rfl rfl, (HE3.out.2.2.trans h3).setCell (.inr (.inl rfl)) _ _, .inl rfl⟩
      clear hA4 hF4 h2 h3 HE3 kb3
      go_wp2_with fail
      go_ret
      exact ⟨_, t, HQ.out, rfl, rfl⟩
end
end Go.Proofs.YtiedoeifpmfbbaaDoor
namespace Go.Proofs.YtiedoeifpmfbbaaDoor
open Go.RowKit
open H8 (okP sizeF HTab below_then packV packF)
open A9 (Ab ArAt ArMem FrA Ar rawA setRawA swapRawA addRawA useA Left9 ptrA Ok9 okB bornS bornA diedA)
open F0 (Pl5 Tn PuAt PoAt FrS noT puStep poStep TuPost ToPost PuStep_any PoStep_any Base_any baseF headF NewPop_any NewPush_any NewPoPost NewPuPost plBox plS plS_of below_next Wk puB poB noT_new)

section
variable {B : Ab} {q : Nat} {w w' : World} {p : Pl5} {a : Al} {t t' : Tn} {s s' : Ar}
theorem aStep0 (hM : AlM B q w p a t) (h0 : a.nx = 0) {v : Int} {Φ : Al → Tn → Prop} (hc : Calls Tryd.prog 62 #[.pointer (some ⟨q, 0, none⟩), ptrA B] w (SrE B q w p a.x (.int .i64 v) s' Φ)) :
    Calls Tryd.prog 61 #[.pointer (some ⟨q, 0, none⟩), ptrA B] w fun e w' => ∃ a' t', SrPost B q w p a.x (.bool (v == 4)) s' { a' with nx := v } t' e w' ∧ Φ a' t' := by
  have c9 : w.cell? ⟨q, 9, none⟩ = some (.int .i64 a.nx) := hM.al.cell 9
  rw [h0] at c9
  clear hM h0
  go_enter Tryd.func61, Tryd.ntmps61
  go_wp2_with fail
  refine hc.mono ?_
  rintro e w1 ⟨a', t', ⟨rfl, h1, h2, h3, h4⟩, hΦ⟩
  have d9 : w1.cell? ⟨q, 9, none⟩ = some (.int .i64 a'.nx) := h2.al.cell 9
  have f9 := h2.al.frozen 9
  have HQ : Hid (SrPost B q w p a.x (.bool (v == 4)) s' { a' with nx := v } t' (.returned (.bool (v == 4))) (w1.setCell ⟨q, 9, none⟩ (.int .i64 v)) ∧ Φ a' t') := ⟨⟨rfl, h1.setOther h2.qB h2.qT.1 h2.qT.2 9 _, h2.set 9 _ rfl rfl, h3.setCell (.inr (.inl rfl)) _ _, h4⟩, hΦ⟩
  clear h1 h2 h3 h4 hΦ c9 hc
  generalize hz : (v == 4) = z at *
  go_wp2_with fail
  go_ret
  subst hz
  exact ⟨a', t', HQ.out⟩
theorem aStep1 (hM : AlM B q w p a t) (h0 : a.nx = 1) {v : Int} {Φ : Al → Tn → Prop} (hc : Calls Tryd.prog 63 #[.pointer (some ⟨q, 0, none⟩), ptrA B] w (SrE B q w p a.x (.int .i64 v) s' Φ)) :
    Calls Tryd.prog 61 #[.pointer (some ⟨q, 0, none⟩), ptrA B] w fun e w' => ∃ a' t', SrPost B q w p a.x (.bool (v == 4)) s' { a' with nx := v } t' e w' ∧ Φ a' t' := by
  have c9 : w.cell? ⟨q, 9, none⟩ = some (.int .i64 a.nx) := hM.al.cell 9
  rw [h0] at c9
  clear hM h0
  go_enter Tryd.func61, Tryd.ntmps61
  go_wp2_with fail
  refine hc.mono ?_
  rintro e w1 ⟨a', t', ⟨rfl, h1, h2, h3, h4⟩, hΦ⟩
  have d9 : w1.cell? ⟨q, 9, none⟩ = some (.int .i64 a'.nx) := h2.al.cell 9
  have f9 := h2.al.frozen 9
  have HQ : Hid (SrPost B q w p a.x (.bool (v == 4)) s' { a' with nx := v } t' (.returned (.bool (v == 4))) (w1.setCell ⟨q, 9, none⟩ (.int .i64 v)) ∧ Φ a' t') := ⟨⟨rfl, h1.setOther h2.qB h2.qT.1 h2.qT.2 9 _, h2.set 9 _ rfl rfl, h3.setCell (.inr (.inl rfl)) _ _, h4⟩, hΦ⟩
  clear h1 h2 h3 h4 hΦ c9 hc
  generalize hz : (v == 4) = z at *
  go_wp2_with fail
  go_ret
  subst hz
  exact ⟨a', t', HQ.out⟩
theorem aStep2 (hM : AlM B q w p a t) (h0 : a.nx = 2) {v : Int} {Φ : Al → Tn → Prop} (hc : Calls Tryd.prog 64 #[.pointer (some ⟨q, 0, none⟩), ptrA B] w (SrE B q w p a.x (.int .i64 v) s' Φ)) :
    Calls Tryd.prog 61 #[.pointer (some ⟨q, 0, none⟩), ptrA B] w fun e w' => ∃ a' t', SrPost B q w p a.x (.bool (v == 4)) s' { a' with nx := v } t' e w' ∧ Φ a' t' := by
  have c9 : w.cell? ⟨q, 9, none⟩ = some (.int .i64 a.nx) := hM.al.cell 9
  rw [h0] at c9
  clear hM h0
  go_enter Tryd.func61, Tryd.ntmps61
  go_wp2_with fail
  refine hc.mono ?_
  rintro e w1 ⟨a', t', ⟨rfl, h1, h2, h3, h4⟩, hΦ⟩
  have d9 : w1.cell? ⟨q, 9, none⟩ = some (.int .i64 a'.nx) := h2.al.cell 9
  have f9 := h2.al.frozen 9
  have HQ : Hid (SrPost B q w p a.x (.bool (v == 4)) s' { a' with nx := v } t' (.returned (.bool (v == 4))) (w1.setCell ⟨q, 9, none⟩ (.int .i64 v)) ∧ Φ a' t') := ⟨⟨rfl, h1.setOther h2.qB h2.qT.1 h2.qT.2 9 _, h2.set 9 _ rfl rfl, h3.setCell (.inr (.inl rfl)) _ _, h4⟩, hΦ⟩
  clear h1 h2 h3 h4 hΦ c9 hc
  generalize hz : (v == 4) = z at *
  go_wp2_with fail
  go_ret
  subst hz
  exact ⟨a', t', HQ.out⟩
theorem aStep3 (hM : AlM B q w p a t) (h0 : a.nx = 3) {v : Int} {Φ : Al → Tn → Prop} (hc : Calls Tryd.prog 65 #[.pointer (some ⟨q, 0, none⟩), ptrA B] w (SrE B q w p a.x (.int .i64 v) s' Φ)) :
    Calls Tryd.prog 61 #[.pointer (some ⟨q, 0, none⟩), ptrA B] w fun e w' => ∃ a' t', SrPost B q w p a.x (.bool (v == 4)) s' { a' with nx := v } t' e w' ∧ Φ a' t' := by
  have c9 : w.cell? ⟨q, 9, none⟩ = some (.int .i64 a.nx) := hM.al.cell 9
  rw [h0] at c9
  clear hM h0
  go_enter Tryd.func61, Tryd.ntmps61
  go_wp2_with fail
  refine hc.mono ?_
  rintro e w1 ⟨a', t', ⟨rfl, h1, h2, h3, h4⟩, hΦ⟩
  have d9 : w1.cell? ⟨q, 9, none⟩ = some (.int .i64 a'.nx) := h2.al.cell 9
  have f9 := h2.al.frozen 9
  have HQ : Hid (SrPost B q w p a.x (.bool (v == 4)) s' { a' with nx := v } t' (.returned (.bool (v == 4))) (w1.setCell ⟨q, 9, none⟩ (.int .i64 v)) ∧ Φ a' t') := ⟨⟨rfl, h1.setOther h2.qB h2.qT.1 h2.qT.2 9 _, h2.set 9 _ rfl rfl, h3.setCell (.inr (.inl rfl)) _ _, h4⟩, hΦ⟩
  clear h1 h2 h3 h4 hΦ c9 hc
  generalize hz : (v == 4) = z at *
  go_wp2_with fail
  go_ret
  subst hz
  exact ⟨a', t', HQ.out⟩
theorem aStep4 (hA : ArAt B w s) (hM : AlM B q w p a t) (h0 : a.nx = 4) :
    Calls Tryd.prog 61 #[.pointer (some ⟨q, 0, none⟩), ptrA B] w (SrPost B q w p a.x (.bool true) s a t) := by
  have c9 : w.cell? ⟨q, 9, none⟩ = some (.int .i64 a.nx) := hM.al.cell 9
  rw [h0] at c9
  have HQ : Hid (SrPost B q w p a.x (.bool true) s a t (.returned (.bool true)) w) := ⟨rfl, hA, hM, FrS.refl _ _, .inl rfl⟩
  clear hM h0 hA
  go_enter Tryd.func61, Tryd.ntmps61
  go_wp2_with fail
  go_ret
  exact HQ.out
/-- a free in memory -/
structure FeM (B : Ab) (q : Nat) (w : World) (p : Pl5) (f : Fe) (b : Int) (t : Tn) : Prop where
  al : FeAt q w f
  po : PuAt f.y w p b t
  qB : ¬ B.has q
  xB : ¬ B.has f.y
  qT : noT q
  xT : noT f.y
def FePost (B : Ab) (q : Nat) (w : World) (p : Pl5) (v : Value) (s' : Ar) (f : Fe) (b : Int) (t' : Tn) (e : Ending) (w' : World) : Prop :=
  e = .returned v ∧ ArAt B w' s' ∧ FeM B q w' p f b t' ∧ FrS (S3 B q f.y) w w'
end
section
variable {B : Ab} {q : Nat} {w w' : World} {p : Pl5} {f : Fe} {b : Int} {t t' : Tn} {s s' : Ar}
theorem FeM.ne (h : FeM B q w p f b t) : f.y ≠ q := fun e => by
  have h1 := h.al
  have h2 := h.po
  unfold FeAt at h1
  unfold PuAt at h2
  rw [e, h1] at h2
  cases h2
theorem FeM.step (h : FeM B q w p f b t) (hP : PuAt f.y w' p b t') (hF : FrS (fun k => B.has k ∨ k = f.y) w w') : FeM B q w' p f b t' ∧ FrS (S3 B q f.y) w w' :=
  ⟨⟨h.al.same (hF.block q h.al.lt fun hh => hh.elim h.qB (fun e => h.ne e.symm)), hP, h.qB, h.xB, h.qT, h.xT⟩, hF.wide fun _ hk => hk.elim .inl fun e => .inr (.inr e)⟩
theorem FeM.arena (h : FeM B q w p f b t) (hF : FrA B w w') : FeM B q w' p f b t ∧ FrS (S3 B q f.y) w w' :=
  ⟨⟨h.al.same (hF.block q h.al.lt h.qB), h.po.same (hF.block f.y h.po.lt h.xB), h.qB, h.xB, h.qT, h.xT⟩, (FrS.of_arena (S := B.has) hF fun _ hk => hk).wide fun _ hk => .inl hk⟩
theorem FeM.below (h : FeM B q w p f b t) (hb : Below w.heap.size w w') : FeM B q w' p f b t :=
  ⟨h.al.same (hb.block q h.al.lt), h.po.same (hb.block f.y h.po.lt), h.qB, h.xB, h.qT, h.xT⟩
theorem FeM.set (h : FeM B q w p f b t) (i : Nat) (v : Value) {f' : Fe} (e : (feB f).setIfInBounds i v = feB f') (hx : f'.y = f.y) : FeM B q (w.setCell ⟨q, i, none⟩ v) p f' b t :=
  ⟨h.al.set i v e, by rw [hx]; exact h.po.same (Below.heap_setCell _ _ _ _ h.ne), h.qB, by rw [hx]; exact h.xB, h.qT, by rw [hx]; exact h.xT⟩
theorem feStep_go (hA : ArAt B w s) (hM : FeM B q w p f b t) (he : f.en = false) (hr : t.ph = 0 ∨ t.ph = 1 ∨ t.ph = 2 ∨ t.ph = 3) (hd : (puStep p b s t).2.2 = false) :
    Calls Tryd.prog 54 #[.pointer (some ⟨q, 0, none⟩), ptrA B] w (FePost B q w p (.bool false) (puStep p b s t).1 f b (puStep p b s t).2.1) := by
  have kp := PuStep_any hA hM.xB hM.xT hM.po hr
  have c0 : w.cell? ⟨q, 0, none⟩ = some (.pointer (some ⟨f.y, 0, none⟩)) := hM.al.cell 0
  have c2 : w.cell? ⟨q, 2, none⟩ = some (.bool f.en) := hM.al.cell 2
  rw [he] at c2
  have HM : Hid (FeM B q w p f b t ∧ f.en = false) := ⟨hM, he⟩
  generalize puStep p b s t = R at *
  obtain ⟨s', t', d⟩ := R
  simp only at hd
  subst hd
  clear hA hM hr he
  go_enter Tryd.func54, Tryd.ntmps54
  go_wp2_with fail
  refine kp.mono ?_
  rintro e w1 ⟨rfl, hA1, hP1, hF1⟩
  obtain ⟨h1, h2⟩ := HM.out.1.step hP1 hF1
  have d2 : w1.cell? ⟨q, 2, none⟩ = some (.bool f.en) := h1.al.cell 2
  rw [HM.out.2] at d2
  have HE : Hid (FePost B q w p (.bool false) s' f b t' (.returned (.bool false)) w1) := ⟨rfl, hA1, h1, h2⟩
  clear hA1 hP1 hF1 h1 h2 kp c0 c2
  go_wp2_with fail
  go_ret
  exact HE.out
theorem feStep_end (hA : ArAt B w s) (hM : FeM B q w p f b t) (he : f.en = false) (hr : t.ph = 0 ∨ t.ph = 1 ∨ t.ph = 2 ∨ t.ph = 3) (hd : (puStep p b s t).2.2 = true) :
    Calls Tryd.prog 54 #[.pointer (some ⟨q, 0, none⟩), ptrA B] w (FePost B q w p (.bool true) (diedA (puStep p b s t).1 f.h).1 { f with en := true } b (puStep p b s t).2.1) := by
  have kp := PuStep_any hA hM.xB hM.xT hM.po hr
  have c0 : w.cell? ⟨q, 0, none⟩ = some (.pointer (some ⟨f.y, 0, none⟩)) := hM.al.cell 0
  have c2 : w.cell? ⟨q, 2, none⟩ = some (.bool f.en) := hM.al.cell 2
  rw [he] at c2
  have HM : Hid (FeM B q w p f b t) := hM
  generalize puStep p b s t = R at *
  obtain ⟨s', t', d⟩ := R
  simp only at hd ⊢
  subst hd
  have kd := fun wx (hx : ArAt B wx s') => A9.Died_any hx f.h
  generalize diedA s' f.h = D at *
  clear hA hM hr he
  go_enter Tryd.func54, Tryd.ntmps54
  go_wp2_with fail
  refine kp.mono ?_
  rintro e w1 ⟨rfl, hA1, hP1, hF1⟩
  obtain ⟨h1, h2⟩ := HM.out.step hP1 hF1
  have d1 : w1.cell? ⟨q, 1, none⟩ = some (.int .i64 f.h) := h1.al.cell 1
  have kd1 := kd _ hA1
  have HE : Hid (FeM B q w1 p f b t' ∧ FrS (S3 B q f.y) w w1) := ⟨h1, h2⟩
  clear hA1 hP1 hF1 h1 h2 kp c0 c2 kd
  go_wp2_with fail
  refine kd1.mono ?_
  rintro e w2 ⟨rfl, hA2, hF2⟩
  obtain ⟨h3, h4⟩ := HE.out.1.arena hF2
  have f2 := h3.al.frozen 2
  have d2 : w2.cell? ⟨q, 2, none⟩ = some (.bool f.en) := h3.al.cell 2
  have h5 := h3.set 2 (.bool true) (f' := { f with en := true }) rfl rfl
  have HQ : Hid (FePost B q w p (.bool true) D.1 { f with en := true } b t' (.returned (.bool true)) (w2.setCell ⟨q, 2, none⟩ (.bool true))) := ⟨rfl, hA2.setOther h3.qB h3.qT.1 h3.qT.2 2 _, h5, (HE.out.2.trans h4).setCell (.inr (.inl rfl)) _ _⟩
  clear hA2 hF2 h3 h4 h5 HE kd1 d1
  go_wp2_with fail
  go_ret
  exact HQ.out
end
end Go.Proofs.YtiedoeifpmfbbaaDoor
namespace Go.Proofs.YtiedoeifpmfbbaaDoor
open Go.RowKit
open H8 (okP sizeF HTab below_then packV packF)
open A9 (Ab ArAt ArMem FrA Ar rawA setRawA swapRawA addRawA useA Left9 ptrA Ok9 okB bornS bornA diedA diedS)
open F0 (Pl5 Tn PuAt PoAt FrS noT puStep poStep TuPost ToPost PuStep_any PoStep_any Base_any baseF headF NewPop_any NewPush_any NewPoPost NewPuPost plBox plS plS_of below_next Wk puB poB noT_new Pu Po PuOk PoOk PlK headF_eq linkF linkF_eq unmF unmF_eq trnF codF tagF mkF cod_bd RwL headS linkS po_read po_link po_swap pu_read pu_link pu_swap upO upO_same upO_other)

/-- where raw words stand: K heads, M links, M gens, the last word -/
structure PlS (K M : Nat) (p : Pl5) : Prop where
  wk : 4 * p.wk = (K : Int)
  hd : p.hd = 0
  ln : p.ln = (K : Int)
  gn : p.gn = (K : Int) + M
  cv : p.cv = ((K + M + M : Nat) : Int)
  four : 4 ≤ K
  most : K ≤ 400
theorem PlS.k {K M : Nat} {p : Pl5} (h : PlS K M p) : PlK K p := ⟨h.hd, h.ln⟩
def PoW (i : Nat) (m : Po) (t : Tn) : Prop := t.word = (i : Int) ∧ t.ph = (m.ph : Int) ∧ (m.ph = 1 ∨ m.ph = 2 → t.h = m.h) ∧ (m.ph = 2 → t.m = m.nx)
def PuW (i : Nat) (m : Pu) (t : Tn) : Prop := t.word = (i : Int) ∧ t.ph = (m.ph : Int) ∧ (m.ph = 1 ∨ m.ph = 2 → t.h = m.h) ∧ (m.ph = 2 → t.m = (m.b : Int) + 1)
/-- an alloc's box is the machine -/
def AlR : Mc → Al → Tn → Prop
  | .free _ _ _, _, _ => False
  | .pop c i n m, a, t => a.nx = 0 ∧ a.hn = 0 ∧ a.cl = (c : Int) ∧ a.rs = (n : Int) ∧ a.wk = ((i / 4 : Nat) : Int) ∧ PoW i m t ∧ n ≤ 1000
  | .look c, a, _ => a.nx = 1 ∧ a.hn = 0 ∧ a.cl = (c : Int)
  | .carve c v, a, _ => a.nx = 2 ∧ a.hn = 0 ∧ a.cl = (c : Int) ∧ a.bs = v ∧ 0 ≤ v
  | .gen c b, a, _ => a.nx = 3 ∧ a.hn = 0 ∧ a.cl = (c : Int) ∧ a.bs = 8 * (b : Int)
def FeR : Mc → Fe → Int → Tn → Prop
  | .free h i m, f, b, t => f.h = h ∧ f.en = false ∧ b = (m.b : Int) + 1 ∧ PuW i m t
  | _, _, _, _ => False
def endB : Out → Bool
  | .go _ => false
  | _ => true
def outR : Out → Al → Tn → Prop
  | .go m, a, t => AlR m a t
  | .freed, _, _ => False
  | .refused, a, _ => a.nx = 4 ∧ a.hn = 0
  | .got h, a, _ => a.nx = 4 ∧ a.hn = h
def outF : Out → Fe → Int → Tn → Prop
  | .go m, f, b, t => FeR m f b t
  | .freed, f, _, _ => f.en = true
  | _, _, _, _ => False
def StPost (B : Ab) (q : Nat) (w : World) (p : Pl5) (x : Nat) (r : Ar × Out) (e : Ending) (w' : World) : Prop := ∃ a' t', SrPost B q w p x (.bool (endB r.2)) r.1 a' t' e w' ∧ outR r.2 a' t'
def SfPost (B : Ab) (q : Nat) (w : World) (p : Pl5) (y : Nat) (b : Int) (r : Ar × Out) (e : Ending) (w' : World) : Prop := ∃ f' t', FePost B q w p (.bool (endB r.2)) r.1 f' b t' e w' ∧ f'.y = y ∧ outF r.2 f' b t'
/-- all that holds of a machine under way -/
def Inv (K M : Nat) (s : Ar) (m : Mc) (N : Nat) : Prop := ∃ k hd lk gn cg cl ls own mc T v, Sl K M k s hd lk gn cg cl ls own mc T ∧ v < k ∧ mc v = some m ∧ T ≤ N
theorem Inv.step {K M N : Nat} {s s' : Ar} {m m' : Mc} (h : Inv K M s m N) (hO : Ok9 s) (hN : N ≤ 1000000) (e : stepF K M s m = (s', .go m')) : Inv K M s' m' (N + 1) := by
  obtain ⟨k, hd, lk, gn, cg, cl, ls, own, mc, T, v, hS, hv, hm, hT⟩ := h
  obtain ⟨hd', lk', gn', cg', cl', ls', h2⟩ := hS.step hO (by omega) hv hm
  rw [e] at h2
  exact ⟨k, hd', lk', gn', cg', cl', ls', own, upO mc v (some m'), T + 1, v, h2, hv, upO_same _ _ _, by omega⟩
/-- a name is one of a slot -/
theorem Inv.nw {K M N : Nat} {s : Ar} {m : Mc} (h : Inv K M s m N) : s.nw ≤ 8 * M ∧ M ≤ 8192 ∧ K + M + M + 1 ≤ 65536 := by
  obtain ⟨k, hd, lk, gn, cg, cl, ls, own, mc, T, v, hS, -⟩ := h
  exact ⟨hS.I.grs, hS.I.M8, hS.I.rw.big2⟩
theorem next_list {k n c : Nat} (hk : k < n) (hc : c < 4) : (4 * k + c + 4) % (4 * n) = 4 * ((k + 1) % n) + c := by
  by_cases e : k + 1 = n
  · subst e
    rw [Nat.mod_self, show 4 * k + c + 4 = c + 4 * (k + 1) by omega, Nat.add_mod_right, Nat.mod_eq_of_lt (by omega)]
    omega
  · rw [Nat.mod_eq_of_lt (show k + 1 < n by omega), Nat.mod_eq_of_lt (by omega)]
    omega
section
variable {B : Ab} {q : Nat} {w w' : World} {p : Pl5} {a : Al} {t t' : Tn} {s s' : Ar} {K M N : Nat}
set_option maxHeartbeats 1000000 in
theorem alStep (hA : ArAt B w s) (hM : AlM B q w p a t) {m : Mc} (hR : AlR m a t) (hp : PlS K M p) (hI : Inv K M s m N) (hN : N ≤ 900000) :
    Calls Tryd.prog 61 #[.pointer (some ⟨q, 0, none⟩), ptrA B] w (StPost B q w p a.x (stepF K M s m)) := by
  obtain ⟨k, hd, lk, gn, cg, cl, ls, own, mc, T, v, hS, hv, hm, hT⟩ := hI
  have hRw := hS.I.rw
  have hL := hRw.toRwL
  have hP := hS.I.P v hv m hm
  have hM8 := hS.I.M8
  obtain ⟨n0, hn0⟩ : ∃ n0 : Nat, K = 4 * n0 := ⟨K / 4, by have := hS.I.K4; omega⟩
  have hpw : p.wk = (n0 : Int) := by have := hp.wk; omega
  have hK4 := hp.most
  cases m with
  | free h i m => exact hR.elim
  | pop c i n m =>
    obtain ⟨r1, r2, r3, r4, r5, r6, r7⟩ := hR
    obtain ⟨hi, hic, o1, o2, o3⟩ := hP
    obtain ⟨word, ph, hh, mk⟩ := t
    obtain ⟨e1, e2, e3, e4⟩ := r6
    simp only at e1 e2 e3 e4
    subst e1 e2
    have hraw := hL.hds i hi
    have hkn : i / 4 < n0 := by omega
    rcases (by omega : m.ph = 0 ∨ m.ph = 1 ∨ m.ph = 2) with h0 | h1 | h2
    · have ep := po_read (p := p) hL hi mk hh
      have et : (⟨(i : Int), (m.ph : Int), hh, mk⟩ : Tn) = ⟨i, 0, hh, mk⟩ := by rw [h0]; rfl
      rw [et] at hM
      unfold stepF
      dsimp only
      rw [if_pos h0, hraw]
      by_cases hc : codF (hd i) = 0
      · rw [if_pos hc] at ep ⊢
        have hb : baseF (⟨(i : Int), 3, hd i, mk⟩ : Tn) = (0, false) := by
          unfold baseF
          rw [if_neg (by simp [hc])]
        cases n with
        | zero =>
          have hs := aSearch_none hA hM (.inl rfl) (by rw [ep]) (by rw [ep, hb]) (by rw [r4]; rfl)
          rw [ep] at hs
          refine (aStep0 hM r1 hs).mono ?_
          rintro e w2 ⟨a', t', h5, rfl, rfl⟩
          exact ⟨_, _, h5, rfl, r2, r3⟩
        | succ n =>
          have hs := aSearch_next (r := n) (k := i / 4) (n := n0) hA hM (.inl rfl) (by rw [ep]) (by rw [ep, hb]) (by rw [r4]) r5 hpw hkn (by omega) (by omega)
          rw [ep] at hs
          refine (aStep0 hM r1 hs).mono ?_
          have hnl := next_list (c := c) hkn (by omega)
          rw [show 4 * (i / 4) + c = i by omega, ← hn0] at hnl
          rintro e w2 ⟨a', t', h5, ⟨x', rfl⟩, rfl⟩
          have hlt : (i / 4 + 1) % n0 < n0 := Nat.mod_lt _ (by omega)
          refine ⟨_, _, h5, rfl, r2, r3, rfl, ?_, ⟨?_, rfl, fun x => ?_, fun x => ?_⟩, by omega⟩
          · show (((i / 4 + 1) % n0 : Nat) : Int) = (((i + 4) % K / 4 : Nat) : Int)
            omega
          · show headF p (((i / 4 + 1) % n0 : Nat) : Int) a.cl = (((i + 4) % K : Nat) : Int)
            rw [r3, headF_eq hp.k (by omega) (by omega) (by omega) (by omega)]
            omega
          · simp at x
          · simp at x
      · rw [if_neg hc] at ep ⊢
        have hs := aSearch_go hA hM (.inl rfl) (by rw [ep])
        rw [ep] at hs
        refine (aStep0 hM r1 hs).mono ?_
        rintro e w2 ⟨a', t', h5, rfl, rfl⟩
        exact ⟨_, _, h5, rfl, r2, r3, r4, r5, ⟨rfl, rfl, fun _ => rfl, fun x => by simp at x⟩, r7⟩
    · have eh := e3 (.inl h1)
      subst eh
      have hb := o1 (.inl h1)
      have hcb := cod_bd m.h
      have hbM : (codF m.h - 1).toNat < M := by omega
      have ep := po_link (p := p) (k := i) hL hp.k hbM mk m.h (by omega)
      have et : (⟨(i : Int), (m.ph : Int), m.h, mk⟩ : Tn) = ⟨i, 1, m.h, mk⟩ := by rw [h1]; rfl
      rw [et] at hM
      unfold stepF
      dsimp only
      rw [if_neg (by omega), if_pos h1, hL.lks _ hbM]
      have hs := aSearch_go hA hM (.inr (.inl rfl)) (by rw [ep])
      rw [ep] at hs
      refine (aStep0 hM r1 hs).mono ?_
      rintro e w2 ⟨a', t', h5, rfl, rfl⟩
      exact ⟨_, _, h5, rfl, r2, r3, r4, r5, ⟨rfl, rfl, fun _ => rfl, fun _ => rfl⟩, r7⟩
    · have eh := e3 (.inr h2)
      have em := e4 h2
      subst eh em
      have hcn := (o1 (.inr h2)).2.1
      have hcb := cod_bd m.h
      have ep := po_swap (p := p) hL hi m.nx m.h
      have et : (⟨(i : Int), (m.ph : Int), m.h, m.nx⟩ : Tn) = ⟨i, 2, m.h, m.nx⟩ := by rw [h2]; rfl
      rw [et] at hM
      unfold stepF
      dsimp only
      rw [if_neg (by omega), if_neg (by omega), hraw]
      by_cases he : hd i = m.h
      · rw [if_pos he] at ep ⊢
        have hb : baseF (⟨(i : Int), 3, m.h, m.nx⟩ : Tn) = (8 * ((codF m.h - 1).toNat : Int), true) := by
          unfold baseF
          rw [if_pos ⟨rfl, hcn⟩, unmF_eq (by simp only; omega) (by simp only; omega)]
          simp only
          rw [show codF m.h - 1 = (((codF m.h - 1).toNat : Nat) : Int) by omega]
          simp
        have hs := aSearch_has hA hM (.inr (.inr (.inl rfl))) (by rw [ep]) (by rw [ep, hb])
        rw [ep, hb] at hs
        refine (aStep0 hM r1 hs).mono ?_
        rintro e w2 ⟨a', t', h5, rfl, rfl⟩
        exact ⟨_, _, h5, rfl, r2, r3, rfl⟩
      · rw [if_neg he] at ep ⊢
        have hs := aSearch_go hA hM (.inr (.inr (.inl rfl))) (by rw [ep])
        rw [ep] at hs
        refine (aStep0 hM r1 hs).mono ?_
        rintro e w2 ⟨a', t', h5, rfl, rfl⟩
        exact ⟨_, _, h5, rfl, r2, r3, r4, r5, ⟨rfl, rfl, fun x => by simp at x, fun x => by simp at x⟩, r7⟩
  | look c =>
    obtain ⟨r1, r2, r3⟩ := hR
    have hc4 : c < 4 := hP
    have hs := aMeas_any hA hM (by rw [r3]; omega) hA.ok.most.1
    rw [hp.cv, rawA_cv hRw, r3, size_zg hc4] at hs
    refine (aStep1 hM r1 hs).mono ?_
    rintro e w2 ⟨a', t', h5, rfl, rfl⟩
    unfold stepF
    simp only [hRw.cvr]
    simp only at h5
    have hnw : (useA s).nw = s.nw := rfl
    rw [hnw] at h5
    by_cases ht : 8 * (cg : Int) + 8 * (zg c : Int) ≤ s.nw
    · rw [if_pos ht]
      rw [if_neg (by omega)] at h5
      exact ⟨_, _, h5, rfl, r2, rfl, rfl, by omega⟩
    · rw [if_neg ht]
      rw [if_pos (by omega)] at h5
      exact ⟨_, _, h5, rfl, r2⟩
  | carve c v' =>
    obtain ⟨r1, r2, r3, r4, r5⟩ := hR
    obtain ⟨hc4, hroom⟩ := hP
    have hz := zg_bd hc4
    have hmost := hA.ok.most.1
    have hs := aCarve_any hA hM (by rw [r3]; omega) (by rw [r4]; omega)
    rw [hp.cv, r3, size_zg hc4, r4, swap_cv hRw] at hs
    unfold stepF
    simp only [hRw.cvr]
    by_cases he : 8 * (cg : Int) = v'
    · rw [if_pos he] at hs ⊢
      simp only [if_true] at hs
      refine (aStep2 hM r1 hs).mono ?_
      rintro e w2 ⟨a', t', h5, rfl, rfl⟩
      exact ⟨_, _, h5, rfl, r2, r3, by simp only; rw [r4]; omega⟩
    · rw [if_neg he] at hs ⊢
      refine (aStep2 hM r1 hs).mono ?_
      rintro e w2 ⟨a', t', h5, rfl, rfl⟩
      exact ⟨_, _, h5, rfl, r2, r3⟩
  | gen c b =>
    obtain ⟨r1, r2, r3, r4⟩ := hR
    obtain ⟨g1, g2, hb, -⟩ := hS.gen hA.ok (by omega) hv hm
    obtain ⟨x1, x2, -⟩ := hS.I.gn0 b hb
    have hr := addRaw_gen hRw hb 1
    rw [A9.wr64_id (by omega) (by omega)] at hr
    have hbn : bornA (genS K M s b (gn b + 1)) (packV (8 * (b : Int)) (gn b + 1) c) = (bornS (genS K M s b (gn b + 1)) (packV (8 * (b : Int)) (gn b + 1) c), true) := by
      unfold bornA
      exact if_pos g1
    have hpg := hp.gn
    have hs := aName_any (b := b) (c := (c : Int)) (g := gn b) hA hM r3 r4 (by omega) (by rw [hpg]; omega) (by rw [hpg, show (K : Int) + M + (b : Int) = ((K + M + b : Nat) : Int) by omega]; exact hr) (by omega) g2 hbn
    unfold stepF
    simp only [hRw.gns b hb]
    refine (aStep3 hM r1 hs).mono ?_
    rintro e w2 ⟨a', t', h5, rfl, rfl⟩
    exact ⟨_, _, h5, rfl, rfl⟩
/-- a free's step -/
theorem feStep {f : Fe} {b : Int} (hA : ArAt B w s) (hM : FeM B q w p f b t) {m : Mc} (hR : FeR m f b t) (hp : PlS K M p) (hI : Inv K M s m N) :
    Calls Tryd.prog 54 #[.pointer (some ⟨q, 0, none⟩), ptrA B] w (SfPost B q w p f.y b (stepF K M s m)) := by
  obtain ⟨k, hd, lk, gn, cg, cl, ls, own, mc, T, v, hS, hv, hm, hT⟩ := hI
  have hRw := hS.I.rw
  have hL := hRw.toRwL
  have hP := hS.I.P v hv m hm
  have hM8 := hS.I.M8
  cases m with
  | pop c i n m => exact hR.elim
  | look c => exact hR.elim
  | carve c v => exact hR.elim
  | gen c b => exact hR.elim
  | free h i m =>
    obtain ⟨r1, r2, r3, r6⟩ := hR
    subst r3
    obtain ⟨hi, hic, hbg, hst, o1, o2, o3, o4⟩ := hP
    obtain ⟨word, ph, hh, mk⟩ := t
    obtain ⟨e1, e2, e3, e4⟩ := r6
    simp only at e1 e2 e3 e4
    subst e1 e2
    have hraw := hL.hds i hi
    rcases (by omega : m.ph = 0 ∨ m.ph = 1 ∨ m.ph = 2) with h0 | h1 | h2
    · have ep := pu_read (p := p) hL hi mk hh ((m.b : Int) + 1)
      have et : (⟨(i : Int), (m.ph : Int), hh, mk⟩ : Tn) = ⟨i, 0, hh, mk⟩ := by rw [h0]; rfl
      rw [et] at hM
      unfold stepF
      dsimp only
      rw [if_pos h0, hraw]
      have hs := feStep_go hA hM r2 (.inl rfl) (by rw [ep])
      rw [ep] at hs
      exact hs.mono fun e w2 h5 => ⟨f, _, h5, rfl, r1, r2, rfl, rfl, rfl, fun _ => rfl, fun x => by simp at x⟩
    · have eh := e3 (.inl h1)
      subst eh
      have ep := pu_link (p := p) (k := i) hL hp.k o1 mk m.h
      have et : (⟨(i : Int), (m.ph : Int), m.h, mk⟩ : Tn) = ⟨i, 1, m.h, mk⟩ := by rw [h1]; rfl
      rw [et] at hM
      unfold stepF
      dsimp only
      rw [if_neg (by omega), if_pos h1]
      have hs := feStep_go hA hM r2 (.inr (.inl rfl)) (by rw [ep])
      rw [ep] at hs
      exact hs.mono fun e w2 h5 => ⟨f, _, h5, rfl, r1, r2, rfl, rfl, rfl, fun _ => rfl, fun _ => rfl⟩
    · have eh := e3 (.inr h2)
      have em := e4 h2
      subst eh em
      have ep := pu_swap (p := p) hL hi ((m.b : Int) + 1) m.h ((m.b : Int) + 1)
      have et : (⟨(i : Int), (m.ph : Int), m.h, (m.b : Int) + 1⟩ : Tn) = ⟨i, 2, m.h, (m.b : Int) + 1⟩ := by rw [h2]; rfl
      rw [et] at hM
      unfold stepF
      dsimp only
      rw [if_neg (by omega), if_neg (by omega), hraw]
      by_cases he : hd i = m.h
      · rw [if_pos he] at ep ⊢
        have hs := feStep_end hA hM r2 (.inr (.inr (.inl rfl))) (by rw [ep])
        rw [ep, r1] at hs
        have hdi : diedA (headS s i (trnF m.h ((m.b : Int) + 1))) h = (diedS (headS s i (trnF m.h ((m.b : Int) + 1))) h, true) := if_pos hst
        simp only [hdi] at hs
        exact hs.mono fun e w2 h5 => ⟨_, _, h5, rfl, rfl⟩
      · rw [if_neg he] at ep ⊢
        have hs := feStep_go hA hM r2 (.inr (.inr (.inl rfl))) (by rw [ep])
        rw [ep] at hs
        exact hs.mono fun e w2 h5 => ⟨f, _, h5, rfl, r1, r2, rfl, rfl, rfl, fun x => by simp at x, fun x => by simp at x⟩
end
end Go.Proofs.YtiedoeifpmfbbaaDoor
