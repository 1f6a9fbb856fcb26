/-
  Helpers: S1Sb, S1Sc, S1Sd.
-/
import Derived.Test.YtopnkfbcphbbiaaDoorBun2ab08a79ebad
import Derived.Test.YtopnkfbcphbbiaaDoorBun7bed67fc46d5
import Derived.Deep.RegionHeld3
import Derived.Deep.RegionLaw
namespace Go.Proofs.YtopnkfbcphbbiaaDoor.S1
open Go.RowKit
open H8 (okP sizeF HTab below_then packV packF)
open A9 (Ab ArAt ArMem FrA Ar rawA setRawA swapRawA addRawA useA Left9 ptrA Ok9)
open F0 (Pl5 Tn PuAt PoAt FrS noT puStep poStep TuPost ToPost PuStep_any PoStep_any Base_any baseF headF NewPop_any NewPush_any NewPoPost NewPuPost plBox plS plS_of below_next Wk puB poB)

/-- an alloc's box, beside its places: its pop's block, whose list, the class, how many lists behind, what is next, the base, the name -/
structure Al where
  x : Nat
  wk : Int
  cl : Int
  rs : Int
  nx : Int
  bs : Int
  hn : Int
def alB (p : Pl5) (a : Al) : Array Value := #[.pointer (some ⟨a.x, 0, none⟩), .int .i64 p.wk, .int .i64 p.hd, .int .i64 p.ln, .int .i64 p.gn, .int .i64 p.cv, .int .i64 a.wk, .int .i64 a.cl, .int .i64 a.rs, .int .i64 a.nx, .int .i64 a.bs, .int .i64 a.hn]
def AlAt (q : Nat) (w : World) (p : Pl5) (a : Al) : Prop := w.heap[q]? = some (.cells (alB p a) 84 (0, 0))
/-- a free's box: its push's block, the name, whether it has ended -/
structure Fe where
  y : Nat
  h : Int
  en : Bool
def feB (f : Fe) : Array Value := #[.pointer (some ⟨f.y, 0, none⟩), .int .i64 f.h, .bool f.en]
def FeAt (q : Nat) (w : World) (f : Fe) : Prop := w.heap[q]? = some (.cells (feB f) 100 (0, 0))
section
variable {q : Nat} {w w' : World} {p : Pl5} {a a' : Al} {f : Fe} {B : Ab} {s : Ar}
theorem AlAt.cell (h : AlAt q w p a) (i : Nat) : w.cell? ⟨q, i, none⟩ = (alB p a)[i]? := cell_of_row _ _ _ _ _ _ h
theorem AlAt.frozen (h : AlAt q w p a) (i : Nat) : w.frozen? ⟨q, i, none⟩ = false := frozen_of_row w _ i _ _ h
theorem AlAt.lt (h : AlAt q w p a) : q < w.heap.size := lt_of_block h
theorem AlAt.same (h : AlAt q w p a) (e : w'.heap[q]? = w.heap[q]?) : AlAt q w' p a := e.trans h
theorem AlAt.set (h : AlAt q w p a) (i : Nat) (v : Value) (e : (alB p a).setIfInBounds i v = alB p a') : AlAt q (w.setCell ⟨q, i, none⟩ v) p a' := by
  unfold AlAt
  rw [heap_setCell_same _ _ _ _ _ _ h, e]
theorem FeAt.cell (h : FeAt q w f) (i : Nat) : w.cell? ⟨q, i, none⟩ = (feB f)[i]? := cell_of_row _ _ _ _ _ _ h
theorem FeAt.frozen (h : FeAt q w f) (i : Nat) : w.frozen? ⟨q, i, none⟩ = false := frozen_of_row w _ i _ _ h
theorem FeAt.lt (h : FeAt q w f) : q < w.heap.size := lt_of_block h
theorem FeAt.same (h : FeAt q w f) (e : w'.heap[q]? = w.heap[q]?) : FeAt q w' f := e.trans h
theorem FeAt.set {f' : Fe} (h : FeAt q w f) (i : Nat) (v : Value) (e : (feB f).setIfInBounds i v = feB f') : FeAt q (w.setCell ⟨q, i, none⟩ v) f' := by
  unfold FeAt
  rw [heap_setCell_same _ _ _ _ _ _ h, e]
theorem Words_any (h : ArAt B w s) : Calls Tryd.prog 58 #[ptrA B] w fun e w' => e = .returned (.int .i64 s.nw) ∧ w' = w := by
  have c1 : w.cell? ⟨B.b, 1, none⟩ = some (.slice (some ⟨B.m, 0, none⟩) s.nw s.nw) := h.toArMem.cell 1
  clear h
  unfold ptrA
  go_enter Tryd.func58, Tryd.ntmps58
  go_wp2_with fail
  go_ret
  exact ⟨rfl, rfl⟩
theorem behind_any (k n : Nat) (hk : k < n) (hn : n ≤ 1000) (w : World) : Calls Tryd.prog 68 #[.int .i64 (k : Int), .int .i64 (n : Int)] w fun e w' => e = .returned (.int .i64 (((k + 1) % n : Nat) : Int)) ∧ w' = w := by
  have h0 : ¬ (k : Int) < 0 := by omega
  have h0b : decide ((k : Int) < 0) = false := by simp
  by_cases e : k + 1 = n
  · have h1 : (n : Int) - 1 ≤ (k : Int) := by omega
    have h2 : (((k + 1) % n : Nat) : Int) = 0 := by rw [e, Nat.mod_self]; rfl
    rw [h2]
    clear h2
    go_enter Tryd.func68, Tryd.ntmps68
    go_wp2_with fail
    go_ret
    exact ⟨rfl, rfl⟩
  · have h1 : ¬ (n : Int) - 1 ≤ (k : Int) := by omega
    have h2 : (((k + 1) % n : Nat) : Int) = (k : Int) + 1 := by rw [Nat.mod_eq_of_lt (by omega)]; omega
    rw [h2]
    clear h2
    go_enter Tryd.func68, Tryd.ntmps68
    go_wp2_with fail
    go_ret
    exact ⟨rfl, rfl⟩
theorem Handle_any (h : AlAt q w p a) : Calls Tryd.prog 26 #[.pointer (some ⟨q, 0, none⟩)] w fun e w' => e = .returned (.tuple #[.int .i64 a.hn, .bool (a.hn != 0)]) ∧ Below w.heap.size w w' := by
  have c : w.cell? ⟨q, 11, none⟩ = some (.int .i64 a.hn) := h.cell 11
  clear h
  generalize a.hn = h at *
  go_enter Tryd.func26, Tryd.ntmps26
  go_wp2_with fail
  go_quiet (fail)
  go_wp2_with fail
  go_ret2
  exact ⟨rfl, ⟨rfl, rfl, rfl, Nat.le_refl _, fun _ _ => rfl⟩⟩
end
end Go.Proofs.YtopnkfbcphbbiaaDoor.S1
namespace Go.Proofs.YtopnkfbcphbbiaaDoor.S1
open Go.RowKit
open H8 (okP sizeF HTab below_then packV packF)
open A9 (Ab ArAt ArMem FrA Ar rawA setRawA swapRawA addRawA useA Left9 ptrA Ok9)
open F0 (Pl5 Tn PuAt PoAt FrS noT puStep poStep TuPost ToPost PuStep_any PoStep_any Base_any baseF headF NewPop_any NewPush_any NewPoPost NewPuPost plBox plS plS_of below_next Wk puB poB)

/-- a search, as a value: its pop's block, whose list, the class, how many lists behind -/
def srV (p : Pl5) (x : Nat) (k c r : Int) : Value := .agg #[.pointer (some ⟨x, 0, none⟩), .int .i64 p.wk, .int .i64 p.hd, .int .i64 p.ln, .int .i64 p.gn, .int .i64 p.cv, .int .i64 k, .int .i64 c, .int .i64 r]
def NewSrPost (w : World) (p : Pl5) (k c H : Int) (e : Ending) (w' : World) : Prop := ∃ x, e = .returned (srV p x k c (p.wk - 1)) ∧ PoAt x w' p ⟨H, 0, 0, 0⟩ ∧ Below w.heap.size w w' ∧ w.heap.size ≤ x
theorem srS {w : World} {r : Nat} {a b c d e f g h i : Value} {t : TypeId} (hR : w.heap[r]? = some (.cells #[a, b, c, d, e, f, g, h, i] t (0, 0))) :
    w.cell? ⟨r, 0, none⟩ = some a ∧ w.cell? ⟨r, 1, none⟩ = some b ∧ w.cell? ⟨r, 2, none⟩ = some c ∧ w.cell? ⟨r, 3, none⟩ = some d ∧ w.cell? ⟨r, 4, none⟩ = some e ∧ w.cell? ⟨r, 5, none⟩ = some f ∧ w.cell? ⟨r, 6, none⟩ = some g ∧ w.cell? ⟨r, 7, none⟩ = some h ∧ w.cell? ⟨r, 8, none⟩ = some i ∧
    w.frozen? ⟨r, 0, none⟩ = false ∧ w.frozen? ⟨r, 1, none⟩ = false ∧ w.frozen? ⟨r, 2, none⟩ = false ∧ w.frozen? ⟨r, 3, none⟩ = false ∧ w.frozen? ⟨r, 4, none⟩ = false ∧ w.frozen? ⟨r, 5, none⟩ = false ∧ w.frozen? ⟨r, 6, none⟩ = false ∧ w.frozen? ⟨r, 7, none⟩ = false ∧ w.frozen? ⟨r, 8, none⟩ = false := by
  refine ⟨?_, ?_, ?_, ?_, ?_, ?_, ?_, ?_, ?_, ?_, ?_, ?_, ?_, ?_, ?_, ?_, ?_, ?_⟩
  all_goals first | exact cell_of_row _ _ _ _ _ _ hR | exact frozen_of_row w _ _ _ _ hR
theorem sr9 (w : World) (r : Nat) (v0 v1 v2 v3 v4 v5 v6 v7 v8 : Value) {a b c d e f g h i : Value} {t : TypeId} (hR : w.heap[r]? = some (.cells #[a, b, c, d, e, f, g, h, i] t (0, 0))) :
    (((((((((w.setCell ⟨r, 0, none⟩ v0).setCell ⟨r, 1, none⟩ v1).setCell ⟨r, 2, none⟩ v2).setCell ⟨r, 3, none⟩ v3).setCell ⟨r, 4, none⟩ v4).setCell ⟨r, 5, none⟩ v5).setCell ⟨r, 6, none⟩ v6).setCell ⟨r, 7, none⟩ v7).setCell ⟨r, 8, none⟩ v8).heap[r]? = some (.cells #[v0, v1, v2, v3, v4, v5, v6, v7, v8] t (0, 0)) ∧
    FrS (fun k => k = r) w (((((((((w.setCell ⟨r, 0, none⟩ v0).setCell ⟨r, 1, none⟩ v1).setCell ⟨r, 2, none⟩ v2).setCell ⟨r, 3, none⟩ v3).setCell ⟨r, 4, none⟩ v4).setCell ⟨r, 5, none⟩ v5).setCell ⟨r, 6, none⟩ v6).setCell ⟨r, 7, none⟩ v7).setCell ⟨r, 8, none⟩ v8) := by
  have h0 : (w.setCell ⟨r, 0, none⟩ v0).heap[r]? = some (.cells #[v0, b, c, d, e, f, g, h, i] t (0, 0)) := heap_setCell_same _ _ 0 _ _ v0 hR
  have h1 : ((w.setCell ⟨r, 0, none⟩ v0).setCell ⟨r, 1, none⟩ v1).heap[r]? = some (.cells #[v0, v1, c, d, e, f, g, h, i] t (0, 0)) := heap_setCell_same _ _ 1 _ _ v1 h0
  have h2 : (((w.setCell ⟨r, 0, none⟩ v0).setCell ⟨r, 1, none⟩ v1).setCell ⟨r, 2, none⟩ v2).heap[r]? = some (.cells #[v0, v1, v2, d, e, f, g, h, i] t (0, 0)) := heap_setCell_same _ _ 2 _ _ v2 h1
  have h3 : ((((w.setCell ⟨r, 0, none⟩ v0).setCell ⟨r, 1, none⟩ v1).setCell ⟨r, 2, none⟩ v2).setCell ⟨r, 3, none⟩ v3).heap[r]? = some (.cells #[v0, v1, v2, v3, e, f, g, h, i] t (0, 0)) := heap_setCell_same _ _ 3 _ _ v3 h2
  have h4 : (((((w.setCell ⟨r, 0, none⟩ v0).setCell ⟨r, 1, none⟩ v1).setCell ⟨r, 2, none⟩ v2).setCell ⟨r, 3, none⟩ v3).setCell ⟨r, 4, none⟩ v4).heap[r]? = some (.cells #[v0, v1, v2, v3, v4, f, g, h, i] t (0, 0)) := heap_setCell_same _ _ 4 _ _ v4 h3
  have h5 : ((((((w.setCell ⟨r, 0, none⟩ v0).setCell ⟨r, 1, none⟩ v1).setCell ⟨r, 2, none⟩ v2).setCell ⟨r, 3, none⟩ v3).setCell ⟨r, 4, none⟩ v4).setCell ⟨r, 5, none⟩ v5).heap[r]? = some (.cells #[v0, v1, v2, v3, v4, v5, g, h, i] t (0, 0)) := heap_setCell_same _ _ 5 _ _ v5 h4
  have h6 : (((((((w.setCell ⟨r, 0, none⟩ v0).setCell ⟨r, 1, none⟩ v1).setCell ⟨r, 2, none⟩ v2).setCell ⟨r, 3, none⟩ v3).setCell ⟨r, 4, none⟩ v4).setCell ⟨r, 5, none⟩ v5).setCell ⟨r, 6, none⟩ v6).heap[r]? = some (.cells #[v0, v1, v2, v3, v4, v5, v6, h, i] t (0, 0)) := heap_setCell_same _ _ 6 _ _ v6 h5
  have h7 : ((((((((w.setCell ⟨r, 0, none⟩ v0).setCell ⟨r, 1, none⟩ v1).setCell ⟨r, 2, none⟩ v2).setCell ⟨r, 3, none⟩ v3).setCell ⟨r, 4, none⟩ v4).setCell ⟨r, 5, none⟩ v5).setCell ⟨r, 6, none⟩ v6).setCell ⟨r, 7, none⟩ v7).heap[r]? = some (.cells #[v0, v1, v2, v3, v4, v5, v6, v7, i] t (0, 0)) := heap_setCell_same _ _ 7 _ _ v7 h6
  have h8 : (((((((((w.setCell ⟨r, 0, none⟩ v0).setCell ⟨r, 1, none⟩ v1).setCell ⟨r, 2, none⟩ v2).setCell ⟨r, 3, none⟩ v3).setCell ⟨r, 4, none⟩ v4).setCell ⟨r, 5, none⟩ v5).setCell ⟨r, 6, none⟩ v6).setCell ⟨r, 7, none⟩ v7).setCell ⟨r, 8, none⟩ v8).heap[r]? = some (.cells #[v0, v1, v2, v3, v4, v5, v6, v7, v8] t (0, 0)) := heap_setCell_same _ _ 8 _ _ v8 h7
  have f := ((((((((((FrS.refl (fun k => k = r) w).setCell rfl 0 v0).setCell rfl 1 v1).setCell rfl 2 v2).setCell rfl 3 v3).setCell rfl 4 v4).setCell rfl 5 v5).setCell rfl 6 v6).setCell rfl 7 v7).setCell rfl 8 v8)
  exact ⟨h8, f⟩
set_option maxHeartbeats 400000 in
theorem newSearch_any (p : Pl5) (k c : Int) (h1 : 1 ≤ p.wk) (h2 : p.wk ≤ 1000000) (w : World) : Calls Tryd.prog 44 #[p.v, .int .i64 k, .int .i64 c] w (NewSrPost w p k c (headF p k c)) := by
  have hn := fun wx => NewPop_any p k c wx
  have hB0 : (w.alloc (plBox p)).heap[w.heap.size]? = some (plBox p) := (Go.MapKept.heap_alloc w _).1
  have hb0 : Below w.heap.size w (w.alloc (plBox p)) := (Below.refl _ _).alloc (Nat.le_refl _) _
  have hlt := lt_of_block hB0
  have hm : (if p.wk < 1 then 1 else p.wk) = p.wk := if_neg (by omega)
  have hw : IntKind.i64.wrap (p.wk - 1) = p.wk - 1 := by rw [IntKind.wrap_i64]; omega
  have ha : w.alloc (.cells #[.int .i64 p.wk, .int .i64 p.hd, .int .i64 p.ln, .int .i64 p.gn, .int .i64 p.cv] 26 (0, 0)) = w.alloc (plBox p) := rfl
  obtain ⟨rb, hrb⟩ : ∃ o, o = Obj.cells #[.pointer none, .int .i64 0, .int .i64 0, .int .i64 0, .int .i64 0, .int .i64 0, .int .i64 0, .int .i64 0, .int .i64 0] 80 (0, 0) := ⟨_, rfl⟩
  have hR0 : ((w.alloc (plBox p)).alloc rb).heap[w.heap.size + 1]? = some rb := by
    have := (Go.MapKept.heap_alloc (w.alloc (plBox p)) rb).1
    rwa [show (w.alloc (plBox p)).heap.size = w.heap.size + 1 by simp] at this
  have hb1 : Below w.heap.size w ((w.alloc (plBox p)).alloc rb) := hb0.alloc hb0.size _
  have hB1 : ((w.alloc (plBox p)).alloc rb).heap[w.heap.size]? = some (plBox p) := (Below.heap_alloc _ _ _ hlt).trans hB0
  unfold Pl5.v at hn ⊢
  generalize headF p k c = H at *
  go_enter Tryd.func44, Tryd.ntmps44
  go_wp2_with fail
  rw [← hrb]
  clear ha hB0 hb0 hlt
  generalize (w.alloc (plBox p)).alloc rb = W at *
  obtain ⟨g, HG⟩ : ∃ g, Hid (g = w.heap.size) := ⟨_, rfl⟩
  rw [← (HG.out : g = w.heap.size)] at hB1 hb1 hR0 ⊢
  have hlt := lt_of_block hB1
  have hlr := lt_of_block hR0
  have c0 : plS g p W := plS_of hB1
  obtain ⟨c0, c1, c2, c3, c4⟩ := c0
  go_region_held3 (fun w' => w'.cell? ⟨g, 0, none⟩ = some (.int .i64 p.wk) ∧ w'.cell? ⟨g, 1, none⟩ = some (.int .i64 p.hd) ∧ w'.cell? ⟨g, 2, none⟩ = some (.int .i64 p.ln) ∧ w'.cell? ⟨g, 3, none⟩ = some (.int .i64 p.gn) ∧ w'.cell? ⟨g, 4, none⟩ = some (.int .i64 p.cv)) (go_keep) (first
    | (go_at_call 55; refine (hn _).mono ?_; rintro e w1 ⟨x, rfl, hX1, hb2, hx⟩; have hb2' : Below W.heap.size W w1 := (by first | exact hb2 | exact below_then (Below.refl _ _).drew hb2); have c1 : plS g p w1 := plS_of ((hb2'.block g hlt).trans hB1); obtain ⟨e0, e1, e2, e3, e4⟩ := c1; have hx' : W.heap.size ≤ x := hx; have hR1 : w1.heap[g + 1]? = some (.cells #[.pointer none, .int .i64 0, .int .i64 0, .int .i64 0, .int .i64 0, .int .i64 0, .int .i64 0, .int .i64 0, .int .i64 0] 80 (0, 0)) := ((hb2'.block _ hlr).trans hR0).trans (congrArg some hrb); obtain ⟨d0, d1, d2, d3, d4, d5, d6, d7, d8, k0, k1, k2, k3, k4, k5, k6, k7, k8⟩ := srS hR1))
  all_goals
    rename_i hHeld
    clear hHeld d0 d1 d2 d3 d4 d5 d6 d7 d8 k0 k1 k2 k3 k4 k5 k6 k7 k8 e0 e1 e2 e3 e4 c0 c1 c2 c3 c4
    have hF := sr9 w1 (g + 1) (.pointer (some ⟨x, 0, none⟩)) (.int .i64 p.wk) (.int .i64 p.hd) (.int .i64 p.ln) (.int .i64 p.gn) (.int .i64 p.cv) (.int .i64 k) (.int .i64 c) (.int .i64 (p.wk - 1)) hR1
    have hxl := hX1.lt
    generalize ((((((((w1.setCell ⟨g + 1, 0, none⟩ (.pointer (some ⟨x, 0, none⟩))).setCell ⟨g + 1, 1, none⟩ (.int .i64 p.wk)).setCell ⟨g + 1, 2, none⟩ (.int .i64 p.hd)).setCell ⟨g + 1, 3, none⟩ (.int .i64 p.ln)).setCell ⟨g + 1, 4, none⟩ (.int .i64 p.gn)).setCell ⟨g + 1, 5, none⟩ (.int .i64 p.cv)).setCell ⟨g + 1, 6, none⟩ (.int .i64 k)).setCell ⟨g + 1, 7, none⟩ (.int .i64 c)).setCell ⟨g + 1, 8, none⟩ (.int .i64 (p.wk - 1)) = W9 at *
    obtain ⟨hR9, hF9⟩ := hF
    obtain ⟨d0, d1, d2, d3, d4, d5, d6, d7, d8, -⟩ := srS hR9
    have HE : Hid (PoAt x W9 p ⟨H, 0, 0, 0⟩ ∧ Below w.heap.size w W9 ∧ w.heap.size ≤ x) := by
      have e2 : g = w.heap.size := HG.out
      refine ⟨hX1.same (hF9.block x hxl (by omega)), ?_, by omega⟩
      have hb3 : Below w.heap.size w w1 := below_next (e2 ▸ hb1) (by omega) hb2'
      exact ⟨hF9.os.trans hb3.os, hF9.tape.trans hb3.tape, hF9.output.trans hb3.output, Nat.le_trans hb3.size hF9.size, fun i hi => (hF9.block i (Nat.lt_of_lt_of_le hi hb3.size) (by omega)).trans (hb3.block i hi)⟩
    clear hX1 hxl hR9 hF9 hR1 hb2 hb2' hx hx' hB1 hb1 hR0 hrb hn
    go_wp2_with fail
    refine bodyPost_ret (v := srV p x k c (p.wk - 1)) ?_ rfl ?_
    · simp [results, Tryd.results44, go_sem, srV, d0, d1, d2, d3, d4, d5, d6, d7, d8]
    · obtain ⟨x1, x2, x3⟩ := HE.out
      exact ⟨x, rfl, x1, x2, x3⟩
/-- an alloc that begins -/
def NewAlPost (w : World) (p : Pl5) (k c H nx : Int) (e : Ending) (w' : World) : Prop := ∃ q x, e = .returned (.pointer (some ⟨q, 0, none⟩)) ∧ AlAt q w' p ⟨x, k, c, p.wk - 1, nx, 0, 0⟩ ∧ PoAt x w' p ⟨H, 0, 0, 0⟩ ∧ Below w.heap.size w w' ∧ w.heap.size ≤ q ∧ w.heap.size ≤ x ∧ x ≠ q
theorem newAl_end (nx : Int) {w w1 : World} {p : Pl5} {k c H : Int} {x : Nat} (hb : Below w.heap.size w w1) (hX : PoAt x w1 p ⟨H, 0, 0, 0⟩) (hx : w.heap.size ≤ x) : NewAlPost w p k c H nx (.returned (.pointer (some ⟨w1.heap.size, 0, none⟩))) (w1.alloc (.cells (alB p ⟨x, k, c, p.wk - 1, nx, 0, 0⟩) 84 (0, 0))) := by
  have hl := hX.lt
  exact ⟨_, x, rfl, (Go.MapKept.heap_alloc w1 _).1, hX.same (Below.heap_alloc _ _ _ hl), hb.alloc hb.size _, hb.size, hx, by omega⟩
theorem NewAl_ok (p : Pl5) (k c : Int) (h1 : 1 ≤ p.wk) (h2 : p.wk ≤ 1000000) (hc : sizeF c ≠ 0) (w : World) (hT : HTab w) : Calls Tryd.prog 24 #[p.v, .int .i64 k, .int .i64 c] w (NewAlPost w p k c (headF p k c) 0) := by
  have hn := fun wx => newSearch_any p k c h1 h2 wx
  have hS := fun wx (hx : HTab wx) => H8.Size_any c wx hx
  have hz : (sizeF c == 0) = false := by simpa using hc
  have hB0 : (w.alloc (plBox p)).heap[w.heap.size]? = some (plBox p) := (Go.MapKept.heap_alloc w _).1
  have hb0 : Below w.heap.size w (w.alloc (plBox p)) := (Below.refl _ _).alloc (Nat.le_refl _) _
  obtain ⟨c0, c1, c2, c3, c4⟩ := plS_of hB0
  have ha : w.alloc (.cells #[.int .i64 p.wk, .int .i64 p.hd, .int .i64 p.ln, .int .i64 p.gn, .int .i64 p.cv] 26 (0, 0)) = w.alloc (plBox p) := rfl
  have HT : Hid (HTab w) := hT
  unfold Pl5.v at hn ⊢
  generalize headF p k c = H at *
  generalize sizeF c = z at *
  clear hT hc
  go_enter Tryd.func24, Tryd.ntmps24
  go_wp2_with fail
  refine (hn _).mono ?_
  rintro e w1 ⟨x, rfl, hX, hb1, hx⟩
  have hb2 : Below w.heap.size w w1 := below_next hb0 hb0.size hb1
  have hx2 : w.heap.size ≤ x := Nat.le_trans hb0.size hx
  have HE := newAl_end 0 (k := k) (c := c) hb2 hX hx2
  have HT2 : Hid (HTab (w1.alloc (.cells (alB p ⟨x, k, c, p.wk - 1, 0, 0, 0⟩) 84 (0, 0)))) := (HT.out.below hb2).alloc _
  unfold srV
  clear hX hb1 hx hb2 hx2 c0 c1 c2 c3 c4 hb0 hB0 ha hn
  go_wp2_with fail
  refine (hS _ HT2.out).mono ?_
  rintro e w2 ⟨rfl, rfl⟩
  go_wp2_with fail
  go_ret
  exact HE
theorem NewAl_no (p : Pl5) (k c : Int) (h1 : 1 ≤ p.wk) (h2 : p.wk ≤ 1000000) (hc : sizeF c = 0) (w : World) (hT : HTab w) : Calls Tryd.prog 24 #[p.v, .int .i64 k, .int .i64 c] w (NewAlPost w p k c (headF p k c) 4) := by
  have hn := fun wx => newSearch_any p k c h1 h2 wx
  have hS := fun wx (hx : HTab wx) => H8.Size_any c wx hx
  have hz : (sizeF c == 0) = true := by simpa using hc
  have hB0 : (w.alloc (plBox p)).heap[w.heap.size]? = some (plBox p) := (Go.MapKept.heap_alloc w _).1
  have hb0 : Below w.heap.size w (w.alloc (plBox p)) := (Below.refl _ _).alloc (Nat.le_refl _) _
  obtain ⟨c0, c1, c2, c3, c4⟩ := plS_of hB0
  have ha : w.alloc (.cells #[.int .i64 p.wk, .int .i64 p.hd, .int .i64 p.ln, .int .i64 p.gn, .int .i64 p.cv] 26 (0, 0)) = w.alloc (plBox p) := rfl
  have HT : Hid (HTab w) := hT
  unfold Pl5.v at hn ⊢
  generalize headF p k c = H at *
  generalize sizeF c = z at *
  clear hT hc
  go_enter Tryd.func24, Tryd.ntmps24
  go_wp2_with fail
  refine (hn _).mono ?_
  rintro e w1 ⟨x, rfl, hX, hb1, hx⟩
  have hb2 : Below w.heap.size w w1 := below_next hb0 hb0.size hb1
  have hx2 : w.heap.size ≤ x := Nat.le_trans hb0.size hx
  have HE := newAl_end 4 (k := k) (c := c) hb2 hX hx2
  have HT2 : Hid (HTab (w1.alloc (.cells (alB p ⟨x, k, c, p.wk - 1, 0, 0, 0⟩) 84 (0, 0)))) := (HT.out.below hb2).alloc _
  unfold srV
  clear hX hb1 hx hb2 hx2 c0 c1 c2 c3 c4 hb0 hB0 ha hn
  go_wp2_with fail
  refine (hS _ HT2.out).mono ?_
  rintro e w2 ⟨rfl, rfl⟩
  go_wp2_with fail
  go_ret
  exact HE
/-- a free that begins -/
def NewFePost (w : World) (p : Pl5) (h m H : Int) (e : Ending) (w' : World) : Prop := ∃ q y, e = .returned (.pointer (some ⟨q, 0, none⟩)) ∧ FeAt q w' ⟨y, h, false⟩ ∧ PuAt y w' p m ⟨H, 0, 0, 0⟩ ∧ Below w.heap.size w w' ∧ w.heap.size ≤ q ∧ w.heap.size ≤ y ∧ y ≠ q
theorem newFe_end {w w1 : World} {p : Pl5} {h m H : Int} {y : Nat} (hb : Below w.heap.size w w1) (hX : PuAt y w1 p m ⟨H, 0, 0, 0⟩) (hx : w.heap.size ≤ y) : NewFePost w p h m H (.returned (.pointer (some ⟨w1.heap.size, 0, none⟩))) (w1.alloc (.cells (feB ⟨y, h, false⟩) 100 (0, 0))) := by
  have hl := hX.lt
  exact ⟨_, y, rfl, (Go.MapKept.heap_alloc w1 _).1, hX.same (Below.heap_alloc _ _ _ hl), hb.alloc hb.size _, hb.size, hx, by omega⟩
theorem NewFe_ok (p : Pl5) (k a b c : Int) (ho : okP a b c) (w : World) (hT : HTab w) : Calls Tryd.prog 53 #[p.v, .int .i64 k, .int .i64 (packV a b c)] w (NewFePost w p (packV a b c) (a / 8 + 1) (headF p k c)) := by
  have hn := fun wx => NewPush_any p k c a ho.1 (by have := ho.2.1; omega) wx
  have hO := fun wx (hx : HTab wx) => H8.Open_ok ho wx hx
  have hB0 : (w.alloc (plBox p)).heap[w.heap.size]? = some (plBox p) := (Go.MapKept.heap_alloc w _).1
  have hlt := lt_of_block hB0
  have hb0 : Below w.heap.size w (w.alloc (plBox p)) := (Below.refl _ _).alloc (Nat.le_refl _) _
  have ha : w.alloc (.cells #[.int .i64 p.wk, .int .i64 p.hd, .int .i64 p.ln, .int .i64 p.gn, .int .i64 p.cv] 26 (0, 0)) = w.alloc (plBox p) := rfl
  have HT : Hid (HTab (w.alloc (plBox p))) := hT.alloc _
  unfold Pl5.v at hn ⊢
  generalize headF p k c = H at *
  generalize packV a b c = h at *
  generalize a / 8 + 1 = m at *
  clear hT ho
  go_enter Tryd.func53, Tryd.ntmps53
  go_wp2_with fail
  refine (hO _ HT.out).mono ?_
  rintro e w1 ⟨rfl, hb1⟩
  obtain ⟨g, HG⟩ : ∃ g, Hid (g = w.heap.size) := ⟨_, rfl⟩
  rw [← (HG.out : g = w.heap.size)] at hB0 hlt ⊢
  have hB1 := (hb1.block g hlt).trans hB0
  obtain ⟨c0, c1, c2, c3, c4⟩ := plS_of hB1
  have hb2 : Hid (Below w.heap.size w w1) := below_next hb0 hb0.size hb1
  clear hb1 hb0 hB0 hB1 ha hO hlt
  go_wp2_with fail
  refine (hn _).mono ?_
  rintro e w2 ⟨y, rfl, hY, hb3, hy⟩
  have HE := newFe_end (h := h) (below_then hb2.out hb3) hY (Nat.le_trans hb2.out.size hy)
  clear hY hb3 hy hb2 c0 c1 c2 c3 c4
  go_wp2_with fail
  go_ret
  exact HE
end Go.Proofs.YtopnkfbcphbbiaaDoor.S1
namespace Go.Proofs.YtopnkfbcphbbiaaDoor.S1
open Go.RowKit
open H8 (okP sizeF HTab below_then packV packF)
open A9 (Ab ArAt ArMem FrA Ar rawA setRawA swapRawA addRawA useA Left9 ptrA Ok9)
open F0 (Pl5 Tn PuAt PoAt FrS noT puStep poStep TuPost ToPost PuStep_any PoStep_any Base_any baseF headF NewPop_any NewPush_any NewPoPost NewPuPost plBox plS plS_of below_next Wk puB poB noT_new)

/-- an alloc in memory: its box and its pop's, beside an arena -/
structure AlM (B : Ab) (q : Nat) (w : World) (p : Pl5) (a : Al) (t : Tn) : Prop where
  al : AlAt q w p a
  po : PoAt a.x w p t
  qB : ¬ B.has q
  xB : ¬ B.has a.x
  qT : noT q
  xT : noT a.x
def S3 (B : Ab) (q x : Nat) (k : Nat) : Prop := B.has k ∨ k = q ∨ k = x
/-- what a step leaves -/
def SrPost (B : Ab) (q : Nat) (w : World) (p : Pl5) (x : Nat) (v : Value) (s' : Ar) (a' : Al) (t' : Tn) (e : Ending) (w' : World) : Prop :=
  e = .returned v ∧ ArAt B w' s' ∧ AlM B q w' p a' t' ∧ FrS (S3 B q x) w w' ∧ (a'.x = x ∨ w.heap.size ≤ a'.x)
section
variable {B : Ab} {q : Nat} {w w' : World} {p : Pl5} {a : Al} {t t' : Tn} {s s' : Ar}
theorem AlM.ne (h : AlM B q w p a t) : a.x ≠ q := fun e => by
  have h1 := h.al
  have h2 := h.po
  unfold AlAt at h1
  unfold PoAt at h2
  rw [e, h1] at h2
  cases h2
/-- behind a step of the pop -/
theorem AlM.step (h : AlM B q w p a t) (hP : PoAt a.x w' p t') (hF : FrS (fun k => B.has k ∨ k = a.x) w w') : AlM B q w' p a t' ∧ FrS (S3 B q a.x) w w' :=
  ⟨⟨h.al.same (hF.block q h.al.lt fun hh => hh.elim h.qB (fun e => h.ne e.symm)), hP, h.qB, h.xB, h.qT, h.xT⟩, hF.wide fun _ hk => hk.elim .inl fun e => .inr (.inr e)⟩
/-- behind a call of the arena -/
theorem AlM.arena (h : AlM B q w p a t) (hF : FrA B w w') : AlM B q w' p a t ∧ FrS (S3 B q a.x) w w' :=
  ⟨⟨h.al.same (hF.block q h.al.lt h.qB), h.po.same (hF.block a.x h.po.lt h.xB), h.qB, h.xB, h.qT, h.xT⟩, (FrS.of_arena (S := B.has) hF fun _ hk => hk).wide fun _ hk => .inl hk⟩
theorem AlM.below (h : AlM B q w p a t) (hb : Below w.heap.size w w') : AlM B q w' p a t :=
  ⟨h.al.same (hb.block q h.al.lt), h.po.same (hb.block a.x h.po.lt), h.qB, h.xB, h.qT, h.xT⟩
/-- a cell of its box turned, its pop's as it was -/
theorem AlM.set (h : AlM B q w p a t) (i : Nat) (v : Value) {a' : Al} (e : (alB p a).setIfInBounds i v = alB p a') (hx : a'.x = a.x) : AlM B q (w.setCell ⟨q, i, none⟩ v) p a' t :=
  ⟨h.al.set i v e, by rw [hx]; exact h.po.same (Below.heap_setCell _ _ _ _ h.ne), h.qB, by rw [hx]; exact h.xB, h.qT, by rw [hx]; exact h.xT⟩
theorem AlM.cells (h : AlM B q w p a t) : w.cell? ⟨q, 0, none⟩ = some (.pointer (some ⟨a.x, 0, none⟩)) ∧ w.cell? ⟨q, 1, none⟩ = some (.int .i64 p.wk) ∧ w.cell? ⟨q, 2, none⟩ = some (.int .i64 p.hd) ∧ w.cell? ⟨q, 3, none⟩ = some (.int .i64 p.ln) ∧ w.cell? ⟨q, 4, none⟩ = some (.int .i64 p.gn) ∧ w.cell? ⟨q, 5, none⟩ = some (.int .i64 p.cv) ∧ w.cell? ⟨q, 6, none⟩ = some (.int .i64 a.wk) ∧ w.cell? ⟨q, 7, none⟩ = some (.int .i64 a.cl) ∧ w.cell? ⟨q, 8, none⟩ = some (.int .i64 a.rs) ∧ w.cell? ⟨q, 9, none⟩ = some (.int .i64 a.nx) ∧ w.cell? ⟨q, 10, none⟩ = some (.int .i64 a.bs) ∧ w.cell? ⟨q, 11, none⟩ = some (.int .i64 a.hn) :=
  ⟨h.al.cell 0, h.al.cell 1, h.al.cell 2, h.al.cell 3, h.al.cell 4, h.al.cell 5, h.al.cell 6, h.al.cell 7, h.al.cell 8, h.al.cell 9, h.al.cell 10, h.al.cell 11⟩
theorem AlAt.sev (h : AlAt q w p a) : w.cell? ⟨q, 1, none⟩ = some (.int .i64 p.wk) ∧ w.cell? ⟨q, 2, none⟩ = some (.int .i64 p.hd) ∧ w.cell? ⟨q, 3, none⟩ = some (.int .i64 p.ln) ∧ w.cell? ⟨q, 4, none⟩ = some (.int .i64 p.gn) ∧ w.cell? ⟨q, 5, none⟩ = some (.int .i64 p.cv) ∧ w.cell? ⟨q, 6, none⟩ = some (.int .i64 a.wk) ∧ w.cell? ⟨q, 7, none⟩ = some (.int .i64 a.cl) :=
  ⟨h.cell 1, h.cell 2, h.cell 3, h.cell 4, h.cell 5, h.cell 6, h.cell 7⟩
theorem sStep_go (hA : ArAt B w s) (hM : AlM B q w p a t) (hr : t.ph = 0 ∨ t.ph = 1 ∨ t.ph = 2 ∨ t.ph = 3) (hd : (poStep p s t).2.2 = false) :
    Calls Tryd.prog 56 #[.pointer (some ⟨q, 0, none⟩), ptrA B] w (SrPost B q w p a.x (.bool false) (poStep p s t).1 a (poStep p s t).2.1) := by
  have kp := PoStep_any hA hM.xB hM.xT hM.po hr
  obtain ⟨c0, -⟩ := hM.cells
  have HM : Hid (AlM B q w p a t) := hM
  generalize poStep p s t = R at *
  obtain ⟨s', t', d⟩ := R
  simp only at hd
  subst hd
  clear hA hM hr
  go_enter Tryd.func56, Tryd.ntmps56
  go_wp2_with fail
  refine kp.mono ?_
  rintro e w1 ⟨rfl, hA1, hP1, hF1⟩
  obtain ⟨h1, h2⟩ := HM.out.step hP1 hF1
  have HE : Hid (ArAt B w1 s' ∧ AlM B q w1 p a t' ∧ FrS (S3 B q a.x) w w1) := ⟨hA1, h1, h2⟩
  clear hA1 hP1 hF1 h1 h2 kp c0
  go_wp2_with fail
  go_ret
  exact ⟨rfl, HE.out.1, HE.out.2.1, HE.out.2.2, .inl rfl⟩
theorem sStep_has (hA : ArAt B w s) (hM : AlM B q w p a t) (hr : t.ph = 0 ∨ t.ph = 1 ∨ t.ph = 2 ∨ t.ph = 3) (hd : (poStep p s t).2.2 = true) (hb : (baseF (poStep p s t).2.1).2 = true) :
    Calls Tryd.prog 56 #[.pointer (some ⟨q, 0, none⟩), ptrA B] w (SrPost B q w p a.x (.bool true) (poStep p s t).1 a (poStep p s t).2.1) := by
  have kp := PoStep_any hA hM.xB hM.xT hM.po hr
  obtain ⟨c0, -⟩ := hM.cells
  have HM : Hid (AlM B q w p a t) := hM
  generalize poStep p s t = R at *
  obtain ⟨s', t', d⟩ := R
  simp only at hd hb
  subst hd
  have kb := fun wx (hx : PoAt a.x wx p t') => Base_any hx
  generalize baseF t' = bb at *
  obtain ⟨b1, b2⟩ := bb
  simp only at hb
  subst hb
  clear hA hM hr
  go_enter Tryd.func56, Tryd.ntmps56
  go_wp2_with fail
  refine kp.mono ?_
  rintro e w1 ⟨rfl, hA1, hP1, hF1⟩
  obtain ⟨h1, h2⟩ := HM.out.step hP1 hF1
  obtain ⟨d0, -⟩ := h1.cells
  have kb1 := kb _ h1.po
  have HE : Hid (ArAt B w1 s' ∧ AlM B q w1 p a t' ∧ FrS (S3 B q a.x) w w1) := ⟨hA1, h1, h2⟩
  clear hA1 hP1 hF1 h1 h2 kp c0 kb
  go_wp2_with fail
  refine kb1.mono ?_
  rintro e w2 ⟨rfl, rfl⟩
  go_wp2_with fail
  go_ret
  exact ⟨rfl, HE.out.1, HE.out.2.1, HE.out.2.2, .inl rfl⟩
theorem sStep_end (hA : ArAt B w s) (hM : AlM B q w p a t) (hr : t.ph = 0 ∨ t.ph = 1 ∨ t.ph = 2 ∨ t.ph = 3) (hd : (poStep p s t).2.2 = true) (hb : (baseF (poStep p s t).2.1).2 = false) (h0 : a.rs = 0) :
    Calls Tryd.prog 56 #[.pointer (some ⟨q, 0, none⟩), ptrA B] w (SrPost B q w p a.x (.bool true) (poStep p s t).1 a (poStep p s t).2.1) := by
  have kp := PoStep_any hA hM.xB hM.xT hM.po hr
  obtain ⟨c0, -⟩ := hM.cells
  have HM : Hid (AlM B q w p a t) := hM
  generalize poStep p s t = R at *
  obtain ⟨s', t', d⟩ := R
  simp only at hd hb
  subst hd
  have kb := fun wx (hx : PoAt a.x wx p t') => Base_any hx
  generalize baseF t' = bb at *
  obtain ⟨b1, b2⟩ := bb
  simp only at hb
  subst hb
  clear hA hM hr
  go_enter Tryd.func56, Tryd.ntmps56
  go_wp2_with fail
  refine kp.mono ?_
  rintro e w1 ⟨rfl, hA1, hP1, hF1⟩
  obtain ⟨h1, h2⟩ := HM.out.step hP1 hF1
  obtain ⟨d0, -, -, -, -, -, -, -, d8, -⟩ := h1.cells
  rw [h0] at d8
  have kb1 := kb _ h1.po
  have HE : Hid (ArAt B w1 s' ∧ AlM B q w1 p a t' ∧ FrS (S3 B q a.x) w w1) := ⟨hA1, h1, h2⟩
  clear hA1 hP1 hF1 h1 h2 kp c0 kb h0
  go_wp2_with fail
  refine kb1.mono ?_
  rintro e w2 ⟨rfl, rfl⟩
  go_wp2_with fail
  go_ret
  exact ⟨rfl, HE.out.1, HE.out.2.1, HE.out.2.2, .inl rfl⟩
/-- the next list -/
theorem sStep_next (hA : ArAt B w s) (hM : AlM B q w p a t) (hr : t.ph = 0 ∨ t.ph = 1 ∨ t.ph = 2 ∨ t.ph = 3) (hd : (poStep p s t).2.2 = true) (hb : (baseF (poStep p s t).2.1).2 = false) {r k n : Nat} (h0 : a.rs = ((r + 1 : Nat) : Int)) (hk : a.wk = (k : Int)) (hn : p.wk = (n : Int)) (hkn : k < n) (hn2 : n ≤ 1000) (hr2 : r ≤ 1000) :
    Calls Tryd.prog 56 #[.pointer (some ⟨q, 0, none⟩), ptrA B] w fun e w' => ∃ x', SrPost B q w p a.x (.bool false) (poStep p s t).1 { a with x := x', wk := ((k + 1) % n : Nat), rs := (r : Int) } ⟨headF p ((k + 1) % n : Nat) a.cl, 0, 0, 0⟩ e w' := by
  have kp := PoStep_any hA hM.xB hM.xT hM.po hr
  obtain ⟨c0, -⟩ := hM.cells
  have HM : Hid (AlM B q w p a t) := hM
  generalize poStep p s t = R at *
  obtain ⟨s', t', d⟩ := R
  simp only at hd hb
  subst hd
  have kb := fun wx (hx : PoAt a.x wx p t') => Base_any hx
  have kh := fun wx => behind_any k n hkn hn2 wx
  have kn := fun wx => NewPop_any p ((k + 1) % n : Nat) a.cl wx
  generalize baseF t' = bb at *
  obtain ⟨b1, b2⟩ := bb
  simp only at hb
  subst hb
  clear hA hM hr
  have hne0 : (((r + 1 : Nat) : Int) == 0) = false := by simp; omega
  have hw1 : IntKind.i64.wrap (((r + 1 : Nat) : Int) - 1) = (r : Int) := by rw [IntKind.wrap_i64]; omega
  have HK : Hid (a.rs = ((r + 1 : Nat) : Int) ∧ a.wk = (k : Int) ∧ p.wk = (n : Int)) := ⟨h0, hk, hn⟩
  generalize hH : headF p ((k + 1) % n : Nat) a.cl = H at *
  generalize (k + 1) % n = k2 at *
  unfold Pl5.v at kn
  clear h0 hk hn hH hkn hn2
  go_enter Tryd.func56, Tryd.ntmps56
  go_wp2_with fail
  refine kp.mono ?_
  rintro e w1 ⟨rfl, hA1, hP1, hF1⟩
  obtain ⟨h1, h2⟩ := HM.out.step hP1 hF1
  obtain ⟨d0, -, -, -, -, -, -, -, d8, -⟩ := h1.cells
  rw [HK.out.1] at d8
  have f8 := h1.al.frozen 8
  have kb1 := kb _ h1.po
  have h3 := h1.set 8 (.int .i64 (r : Int)) (a' := { a with rs := (r : Int) }) rfl rfl
  have HE : Hid (ArAt B (w1.setCell ⟨q, 8, none⟩ (.int .i64 (r : Int))) s' ∧ AlM B q (w1.setCell ⟨q, 8, none⟩ (.int .i64 (r : Int))) p { a with rs := (r : Int) } t' ∧ FrS (S3 B q a.x) w (w1.setCell ⟨q, 8, none⟩ (.int .i64 (r : Int)))) := ⟨hA1.setOther h1.qB h1.qT.1 h1.qT.2 8 _, h3, h2.setCell (.inr (.inl rfl)) _ _⟩
  clear hA1 hP1 hF1 h1 h2 kp c0 kb h3
  go_wp2_with fail
  refine kb1.mono ?_
  rintro e w2 ⟨rfl, rfl⟩
  go_wp2_with fail
  generalize w2.setCell ⟨q, 8, none⟩ (.int .i64 (r : Int)) = w3 at *
  obtain ⟨-, d1, d2, d3, d4, d5, d6, d7, -⟩ := HE.out.2.1.cells
  have f6 := HE.out.2.1.al.frozen 6
  simp only at d6 d7
  rw [HK.out.2.1] at d6
  rw [HK.out.2.2] at d1
  go_region_law (go_simp; go_at_call 68; refine (kh _).mono ?_; rintro e w4 ⟨rfl, rfl⟩)
  all_goals
    have HE5 : Hid (ArAt B (w3.setCell ⟨q, 6, none⟩ (.int .i64 (k2 : Int))).drew s' ∧ AlM B q (w3.setCell ⟨q, 6, none⟩ (.int .i64 (k2 : Int))).drew p { a with wk := (k2 : Int), rs := (r : Int) } t' ∧ FrS (S3 B q a.x) w (w3.setCell ⟨q, 6, none⟩ (.int .i64 (k2 : Int))).drew) := by
      obtain ⟨x1, x2, x3⟩ := HE.out
      have x4 := x2.set 6 (.int .i64 (k2 : Int)) (a' := { a with wk := (k2 : Int), rs := (r : Int) }) rfl rfl
      exact ⟨(x1.setOther x2.qB x2.qT.1 x2.qT.2 6 _).drew, x4.below (Below.refl _ _).drew, (x3.setCell (.inr (.inl rfl)) _ _).drew⟩
    clear d1 d2 d3 d4 d5 d6 d7 f6 HE kh
    generalize (w3.setCell ⟨q, 6, none⟩ (.int .i64 (k2 : Int))).drew = w5 at *
    have S5 := HE5.out.2.1.al.sev
    simp only at S5
    have d0 := HE5.out.2.1.cells.1
    have f0 := HE5.out.2.1.al.frozen 0
    go_wp2_with fail
    go_region_held3 (fun w' => w'.cell? ⟨q, 1, none⟩ = some (.int .i64 p.wk) ∧ w'.cell? ⟨q, 2, none⟩ = some (.int .i64 p.hd) ∧ w'.cell? ⟨q, 3, none⟩ = some (.int .i64 p.ln) ∧ w'.cell? ⟨q, 4, none⟩ = some (.int .i64 p.gn) ∧ w'.cell? ⟨q, 5, none⟩ = some (.int .i64 p.cv) ∧ w'.cell? ⟨q, 6, none⟩ = some (.int .i64 (k2 : Int)) ∧ w'.cell? ⟨q, 7, none⟩ = some (.int .i64 a.cl)) (first | exact S5 | exact S6 | exact S7) (first
      | (go_at_call 55; refine (kn _).mono ?_; rintro e w6 ⟨x, rfl, hX6, hb6, hx6⟩; have hb7 : Below w5.heap.size w5 w6 := (by first | exact hb6 | exact below_then (Below.refl _ _).drew hb6); have hx7 : w5.heap.size ≤ x := hx6; have HM6 := HE5.out.2.1.below hb7; have S6 := HM6.al.sev; have e0 := HM6.cells.1; have g0 := HM6.al.frozen 0; have hA7 := HM6.al.set 0 (.pointer (some ⟨x, 0, none⟩)) (a' := { a with x := x, wk := (k2 : Int), rs := (r : Int) }) rfl; have S7 := hA7.sev))
    have HQ : Hid (SrPost B q w p a.x (.bool false) s' { a with x := x, wk := (k2 : Int), rs := (r : Int) } ⟨H, 0, 0, 0⟩ (.returned (.bool false)) (w6.setCell ⟨q, 0, none⟩ (.pointer (some ⟨x, 0, none⟩)))) := by
      obtain ⟨x1, x2, x3⟩ := HE5.out
      have hql := x2.al.lt
      have hF : FrS (S3 B q a.x) w w6 := x3.trans (FrS.of_below hb7)
      refine ⟨rfl, (x1.below hb7).setOther x2.qB x2.qT.1 x2.qT.2 0 _, ⟨hA7, hX6.same (Below.heap_setCell _ _ _ _ (by show x ≠ q; omega)), x2.qB, (show ¬ B.has x from fun hb => by have := x1.lt hb; omega), x2.qT, noT_new x1.tab hx7⟩, hF.setCell (.inr (.inl rfl)) _ _, .inr ?_⟩
      exact Nat.le_trans x3.size hx7
    clear S5 S6 S7 d0 f0 e0 g0 hA7 hX6 hb6 hb7 hx6 hx7 HM6 HE5 kn
    go_wp2_with fail
    go_ret
    exact ⟨x, HQ.out⟩
end
end Go.Proofs.YtopnkfbcphbbiaaDoor.S1
