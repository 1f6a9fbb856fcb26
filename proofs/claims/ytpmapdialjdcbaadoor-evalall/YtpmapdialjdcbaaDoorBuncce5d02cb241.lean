/-
  Helpers: EvW, EvAw, EvQa, EvRa.
-/
import Derived.Test.YtpmapdialjdcbaaDoorBunb2904d9a5503
import Derived.Deep.OwnRows
import Derived.Test.YtpmapdialjdcbaaDoorBunaf079b1ea84e
import Derived.Test.YtpmapdialjdcbaaDoorBun53d5438622c1
import Derived.Test.YtpmapdialjdcbaaDoorBunc9d98ac31031
import Derived.Test.YtpmapdialjdcbaaDoorBund9599332a1f5
import Derived.Test.YtpmapdialjdcbaaDoorBun679e11fb756f
namespace Go.Proofs.YtpmapdialjdcbaaDoor
open Go.RowKit
open C2 (In Pr SlF SlI InsAt Tab BoxedP still_of_below below_then below_alloc Still)
open K6 (Ky)
open V5 (checkF SlN)

/-- what ran, in memory -/
structure RanAt (w : World) (g f : Nat) (x : Rn) : Prop where
  c0 : w.cell? ⟨g, f, none⟩ = some (.int .i64 x.key)
  c1 : w.cell? ⟨g, f + 1, none⟩ = some (.int .i64 x.fn)
  c2 : w.cell? ⟨g, f + 2, none⟩ = some (.int .i64 x.arg)
  c3 : w.cell? ⟨g, f + 3, none⟩ = some (.int .i64 x.e.h)
  c4 : w.cell? ⟨g, f + 4, none⟩ = some (.int .i64 x.e.v)
def SlR (w : World) (v : Value) (xs : List Rn) : Prop :=
  ∃ ad cap, v = .slice ad xs.length cap ∧ ∀ k (h : k < xs.length), ∃ g f, ad = some ⟨g, f, none⟩ ∧ RanAt w g (f + k * 5) xs[k]
def SlB (w : World) (v : Value) (xs : List Bool) : Prop :=
  ∃ ad cap, v = .slice ad xs.length cap ∧ ∀ k (h : k < xs.length), ∃ g f, ad = some ⟨g, f, none⟩ ∧ w.cell? ⟨g, f + k, none⟩ = some (.bool xs[k])
theorem SlR.still {w w' : World} {v : Value} {xs : List Rn} (h : SlR w v xs) (hs : Still w w') : SlR w' v xs := by
  obtain ⟨ad, cap, hv, hx⟩ := h
  refine ⟨ad, cap, hv, fun k hk => ?_⟩
  obtain ⟨g, f, h1, h2⟩ := hx k hk
  exact ⟨g, f, h1, hs _ _ h2.c0, hs _ _ h2.c1, hs _ _ h2.c2, hs _ _ h2.c3, hs _ _ h2.c4⟩
theorem SlB.still {w w' : World} {v : Value} {xs : List Bool} (h : SlB w v xs) (hs : Still w w') : SlB w' v xs := by
  obtain ⟨ad, cap, hv, hx⟩ := h
  refine ⟨ad, cap, hv, fun k hk => ?_⟩
  obtain ⟨g, f, h1, h2⟩ := hx k hk
  exact ⟨g, f, h1, hs _ _ h2⟩
theorem own_slR {w : World} {base : Nat} {v : Value} {xs : List Rn} (h : w.ownsRow base 60 5 v xs.length (cellsR xs)) : SlR w v xs := by
  rcases h.2 with ⟨rfl, h0⟩ | ⟨g, cap, cur, rfl, hb, hg, hn, hc, hs, ht⟩
  · obtain rfl : xs = [] := List.eq_nil_of_length_eq_zero h0
    exact ⟨none, 0, rfl, fun k hk => by simp at hk⟩
  · refine ⟨some ⟨g, 0, none⟩, cap, rfl, fun k hk => ⟨g, 0, rfl, ?_⟩⟩
    have e : xs = xs.take k ++ (xs[k] :: xs.drop (k + 1)) := by rw [← List.drop_eq_getElem_cons hk, List.take_append_drop]
    have hl : (cellsR (xs.take k)).length = k * 5 := by rw [cellsR_length, List.length_take]; congr 1; omega
    have hcell : ∀ j, j < 5 → w.cell? ⟨g, k * 5 + j, none⟩ = (rnC xs[k])[j]? := fun j hj => by
      have h1 : (cellsR xs)[k * 5 + j]? = (rnC xs[k])[j]? := by
        conv => lhs; rw [e, cellsR_mid]
        rw [List.getElem?_append_right (by omega), hl, show k * 5 + j - k * 5 = j by omega, List.getElem?_append_left (by simp [rnC]; omega)]
      rw [h.cellAt (k * 5 + j) (by omega), h1]
    rw [Nat.zero_add]
    exact ⟨hcell 0 (by omega), hcell 1 (by omega), hcell 2 (by omega), hcell 3 (by omega), hcell 4 (by omega)⟩
theorem own_slB {w : World} {base : Nat} {v : Value} {xs : List Bool} (h : w.ownsRow base 4 1 v xs.length (xs.map Value.bool)) : SlB w v xs := by
  rcases h.2 with ⟨rfl, h0⟩ | ⟨g, cap, cur, rfl, hb, hg, hn, hc, hs, ht⟩
  · obtain rfl : xs = [] := List.eq_nil_of_length_eq_zero h0
    exact ⟨none, 0, rfl, fun k hk => by simp at hk⟩
  · refine ⟨some ⟨g, 0, none⟩, cap, rfl, fun k hk => ⟨g, 0, rfl, ?_⟩⟩
    rw [Nat.zero_add, h.cellAt k (by omega)]
    simp [hk]
theorem own_slN7 {w : World} {base : Nat} {v : Value} {xs : List Int} (h : w.ownsRow base 3 1 v xs.length (xs.map (Value.int .i64))) : SlN w v xs := by
  rcases h.2 with ⟨rfl, h0⟩ | ⟨g, cap, cur, rfl, hb, hg, hn, hc, hs, ht⟩
  · obtain rfl : xs = [] := List.eq_nil_of_length_eq_zero h0
    exact ⟨none, 0, rfl, fun k hk => by simp at hk⟩
  · refine ⟨some ⟨g, 0, none⟩, cap, rfl, fun k hk => ⟨g, 0, rfl, ?_⟩⟩
    rw [Nat.zero_add, h.cellAt k (by omega)]
    simp [hk]
/-- so many instructions at most -/
def mostN (most : Int) : Nat := (min (max most 0) 20000).toNat
abbrev resV (en : En) (rv uv sv : Value) (st fk : Int) (ov : Bool) : Value := .agg #[.int .i64 en.h, .int .i64 en.v, rv, uv, sv, .int .i64 st, .int .i64 fk, .bool ov]
abbrev resZ (ov : Bool) : Value := .agg #[.int .i64 0, .int .i64 0, .slice none 0 0, .slice none 0 0, .slice none 0 0, .int .i64 0, .int .i64 0, .bool ov]
abbrev ev0 (p : Pg7) (M : Nat) (arg : Int) : Rs × Ts := ev7 p M (rs0 p) (root7 p arg)
/-- all that ran, the root first -/
def ran0 (p : Pg7) (M : Nat) (arg : Int) : List Rn := putR (ev0 p M arg).1.ran ⟨1125899906842624, 0, wrp arg, (ev0 p M arg).2.e⟩
def RnPost (p : Pg7) (arg most : Int) (w : World) (e : Ending) (w' : World) : Prop :=
  Below w.heap.size w w' ∧
  ((checkF p ≠ 0 ∧ e = .returned (.tuple #[resZ false, .int .i64 (checkF p)])) ∨
   (checkF p = 0 ∧ (ev0 p (mostN most) arg).1.over = true ∧ e = .returned (.tuple #[resZ true, .int .i64 0])) ∨
   (checkF p = 0 ∧ (ev0 p (mostN most) arg).1.over = false ∧ ∃ rv uv sv, e = .returned (.tuple #[resV (ev0 p (mostN most) arg).2.e rv uv sv (ev0 p (mostN most) arg).1.steps (ev0 p (mostN most) arg).1.forks false, .int .i64 0]) ∧
     SlR w' rv (ran0 p (mostN most) arg) ∧ SlN w' uv (ev0 p (mostN most) arg).1.futs ∧ SlB w' sv (ev0 p (mostN most) arg).1.was))
/-- every run of a program that may run -/
theorem runs_all {E : Ev7} (hp : Ok7 E.p) (hM : E.M ≤ 20000) : ∀ n, n ≤ 20000 → RunsOk E n := by
  intro n
  induction n using Nat.strongRecOn with
  | _ n ih => exact fun hn => run_any hp hM hn fun m hm => ih m hm (by omega)
theorem root_st {p : Pg7} (hp : Ok7 p) (arg : Int) : St7 p (rs0 p) (root7 p arg) K6.root := by
  refine ⟨K6.root_ok, rfl, TOk.start _ _ _ _, rfl, fun x hx => ?_, rfl, rfl, fun x hx => ?_, rfl, hp.n0, fun _ => (hp.fn _ (getD_mem hp.n0 [])).1, by rw [K6.dep_root]; exact hp.d0, by show 0 ≤ 1000; omega, by have := hp.f5; show p.fuel.toNat ≤ 500; omega, List.Pairwise.nil, fun x hx => by simp [rs0] at hx, by simp [rs0], by simp [rs0], fun x hx => ?_⟩
  · simp only [root7, ts0, List.mem_cons, List.not_mem_nil, or_false] at hx
    rcases hx with rfl | rfl | rfl | rfl | rfl | rfl | rfl | rfl
    · exact wrp_wrp _
    all_goals rfl
  · simp only [root7, ts0, List.mem_cons, List.not_mem_nil, or_false] at hx
    rcases hx with rfl | rfl | rfl | rfl <;> rfl
  · simp [rs0] at hx
    rw [hx.2]; rfl
theorem root_wrp (p : Pg7) (arg : Int) : ts0 0 (wrp arg) 1125899906842624 p.fuel.toNat = root7 p arg := by
  unfold root7 ts0
  rw [wrp_wrp]
theorem infoInt7 : (Tryd.prog.info? 3).map (fun i => (i.zero, i.size, i.bytes)) = some (some (.int .i64 0), 1, 8) := by kernel_rfl
theorem infoBool7 : (Tryd.prog.info? 4).map (fun i => (i.zero, i.size, i.bytes)) = some (some (.bool false), 1, 1) := by kernel_rfl
def put8 (w : World) (b : Nat) (v0 v1 v2 v3 v4 v5 v6 v7 : Value) : World := (((((((w.setCell ⟨b, 0, none⟩ v0).setCell ⟨b, 1, none⟩ v1).setCell ⟨b, 2, none⟩ v2).setCell ⟨b, 3, none⟩ v3).setCell ⟨b, 4, none⟩ v4).setCell ⟨b, 5, none⟩ v5).setCell ⟨b, 6, none⟩ v6).setCell ⟨b, 7, none⟩ v7
theorem put8_box {w : World} {b : Nat} {T : TypeId} {x0 x1 x2 x3 x4 x5 x6 x7 : Value} (h : w.heap[b]? = some (.cells #[x0, x1, x2, x3, x4, x5, x6, x7] T (0, 0))) (v0 v1 v2 v3 v4 v5 v6 v7 : Value) : (put8 w b v0 v1 v2 v3 v4 v5 v6 v7).heap[b]? = some (.cells #[v0, v1, v2, v3, v4, v5, v6, v7] T (0, 0)) := by
  unfold put8
  have h0 : (w.setCell ⟨b, 0, none⟩ v0).heap[b]? = some (.cells #[v0, x1, x2, x3, x4, x5, x6, x7] T (0, 0)) := by rw [heap_setCell_same _ _ _ _ _ _ h]; rfl
  have h1 : ((w.setCell ⟨b, 0, none⟩ v0).setCell ⟨b, 1, none⟩ v1).heap[b]? = some (.cells #[v0, v1, x2, x3, x4, x5, x6, x7] T (0, 0)) := by rw [heap_setCell_same _ _ _ _ _ _ h0]; rfl
  have h2 : (((w.setCell ⟨b, 0, none⟩ v0).setCell ⟨b, 1, none⟩ v1).setCell ⟨b, 2, none⟩ v2).heap[b]? = some (.cells #[v0, v1, v2, x3, x4, x5, x6, x7] T (0, 0)) := by rw [heap_setCell_same _ _ _ _ _ _ h1]; rfl
  have h3 : ((((w.setCell ⟨b, 0, none⟩ v0).setCell ⟨b, 1, none⟩ v1).setCell ⟨b, 2, none⟩ v2).setCell ⟨b, 3, none⟩ v3).heap[b]? = some (.cells #[v0, v1, v2, v3, x4, x5, x6, x7] T (0, 0)) := by rw [heap_setCell_same _ _ _ _ _ _ h2]; rfl
  have h4 : (((((w.setCell ⟨b, 0, none⟩ v0).setCell ⟨b, 1, none⟩ v1).setCell ⟨b, 2, none⟩ v2).setCell ⟨b, 3, none⟩ v3).setCell ⟨b, 4, none⟩ v4).heap[b]? = some (.cells #[v0, v1, v2, v3, v4, x5, x6, x7] T (0, 0)) := by rw [heap_setCell_same _ _ _ _ _ _ h3]; rfl
  have h5 : ((((((w.setCell ⟨b, 0, none⟩ v0).setCell ⟨b, 1, none⟩ v1).setCell ⟨b, 2, none⟩ v2).setCell ⟨b, 3, none⟩ v3).setCell ⟨b, 4, none⟩ v4).setCell ⟨b, 5, none⟩ v5).heap[b]? = some (.cells #[v0, v1, v2, v3, v4, v5, x6, x7] T (0, 0)) := by rw [heap_setCell_same _ _ _ _ _ _ h4]; rfl
  have h6 : (((((((w.setCell ⟨b, 0, none⟩ v0).setCell ⟨b, 1, none⟩ v1).setCell ⟨b, 2, none⟩ v2).setCell ⟨b, 3, none⟩ v3).setCell ⟨b, 4, none⟩ v4).setCell ⟨b, 5, none⟩ v5).setCell ⟨b, 6, none⟩ v6).heap[b]? = some (.cells #[v0, v1, v2, v3, v4, v5, v6, x7] T (0, 0)) := by rw [heap_setCell_same _ _ _ _ _ _ h5]; rfl
  have h7 : ((((((((w.setCell ⟨b, 0, none⟩ v0).setCell ⟨b, 1, none⟩ v1).setCell ⟨b, 2, none⟩ v2).setCell ⟨b, 3, none⟩ v3).setCell ⟨b, 4, none⟩ v4).setCell ⟨b, 5, none⟩ v5).setCell ⟨b, 6, none⟩ v6).setCell ⟨b, 7, none⟩ v7).heap[b]? = some (.cells #[v0, v1, v2, v3, v4, v5, v6, v7] T (0, 0)) := by rw [heap_setCell_same _ _ _ _ _ _ h6]; rfl
  exact h7
theorem put8_below {S : Nat} {a w : World} {b : Nat} (h : Below S a w) (hb : S ≤ b) (v0 v1 v2 v3 v4 v5 v6 v7 : Value) : Below S a (put8 w b v0 v1 v2 v3 v4 v5 v6 v7) :=
  (((((((h.setCell (p := ⟨b, 0, none⟩) hb v0).setCell (p := ⟨b, 1, none⟩) hb v1).setCell (p := ⟨b, 2, none⟩) hb v2).setCell (p := ⟨b, 3, none⟩) hb v3).setCell (p := ⟨b, 4, none⟩) hb v4).setCell (p := ⟨b, 5, none⟩) hb v5).setCell (p := ⟨b, 6, none⟩) hb v6).setCell (p := ⟨b, 7, none⟩) hb v7
theorem put8_other {w : World} {b k : Nat} (hk : k ≠ b) (v0 v1 v2 v3 v4 v5 v6 v7 : Value) : (put8 w b v0 v1 v2 v3 v4 v5 v6 v7).heap[k]? = w.heap[k]? := by
  unfold put8
  rw [Below.heap_setCell _ _ _ _ hk, Below.heap_setCell _ _ _ _ hk, Below.heap_setCell _ _ _ _ hk, Below.heap_setCell _ _ _ _ hk, Below.heap_setCell _ _ _ _ hk, Below.heap_setCell _ _ _ _ hk, Below.heap_setCell _ _ _ _ hk, Below.heap_setCell _ _ _ _ hk]
structure Res8 (w : World) (b : Nat) (v0 v1 v2 v3 v4 v5 v6 v7 : Value) : Prop where
  c0 : w.cell? ⟨b, 0, none⟩ = some v0
  c1 : w.cell? ⟨b, 1, none⟩ = some v1
  c2 : w.cell? ⟨b, 2, none⟩ = some v2
  c3 : w.cell? ⟨b, 3, none⟩ = some v3
  c4 : w.cell? ⟨b, 4, none⟩ = some v4
  c5 : w.cell? ⟨b, 5, none⟩ = some v5
  c6 : w.cell? ⟨b, 6, none⟩ = some v6
  c7 : w.cell? ⟨b, 7, none⟩ = some v7
theorem res8 {w : World} {b : Nat} {T : TypeId} {x0 x1 x2 x3 x4 x5 x6 x7 : Value} (h : w.heap[b]? = some (.cells #[x0, x1, x2, x3, x4, x5, x6, x7] T (0, 0))) : Res8 w b x0 x1 x2 x3 x4 x5 x6 x7 :=
  ⟨cell_of_row _ _ _ _ _ _ h, cell_of_row _ _ _ _ _ _ h, cell_of_row _ _ _ _ _ _ h, cell_of_row _ _ _ _ _ _ h, cell_of_row _ _ _ _ _ _ h, cell_of_row _ _ _ _ _ _ h, cell_of_row _ _ _ _ _ _ h, cell_of_row _ _ _ _ _ _ h⟩
theorem made_list (z : Value) (m : Nat) : (madeCells #[z] m).toList = List.replicate m z := by
  refine List.ext_getElem (by simp [size_madeCells]) fun i h1 h2 => ?_
  simp [madeCells, Nat.mod_one]
theorem own_made (w : World) (z : Value) (m : Nat) (T : TypeId) {B : Nat} (hB : B ≤ w.heap.size) (hm : m ≤ 1000) : (w.alloc (.cells (madeCells #[z] m) T)).ownsRow B T 1 (.slice (some ⟨w.heap.size, 0, none⟩) m m) m (List.replicate m z) :=
  ⟨by simp, .inr ⟨_, m, _, rfl, hB, heap_alloc_new _ _, Nat.le_refl _, by unfold maxLen; omega, by simp [size_madeCells], by rw [made_list]; simp⟩⟩
/-- how a run begins -/
def d07 (m : Nat) : Wd := ⟨.slice none 0 0, [], List.replicate m 0, List.replicate m false, 0, 0⟩
theorem begin7 {w1 wx : World} {p : Pg7} {M : Nat} {fv : Value} {gu gs bw m : Nat} (hF : SlF w1 fv p.fs) (hm : p.futs = m) (hb : Below w1.heap.size w1 wx) (h1 : w1.heap.size ≤ bw)
    (hbox : wx.heap[bw]? = some (.cells #[fv, .int .i64 m, .int .i64 p.depth, .int .i64 p.fuel, .int .i64 M, .int .i64 0, .int .i64 0, .slice none 0 0, .slice (some ⟨gu, 0, none⟩) m m, .slice (some ⟨gs, 0, none⟩) m m] 66 (0, 0)))
    (hu : wx.ownsRow w1.heap.size 3 1 (.slice (some ⟨gu, 0, none⟩) m m) m (List.replicate m (.int .i64 0))) (hs : wx.ownsRow w1.heap.size 4 1 (.slice (some ⟨gs, 0, none⟩) m m) m (List.replicate m (.bool false))) :
    Wh ⟨w1, bw, p, M, fv, .slice (some ⟨gu, 0, none⟩) m m, .slice (some ⟨gs, 0, none⟩) m m⟩ wx (d07 m) := by
  refine ⟨hb, h1, ?_, World.ownsRow_nil _ _ _ _, ?_, ?_, hF⟩
  · rw [hbox]
    simp only [Wd.box, d07, hm]
    rfl
  · simp only [d07, List.length_replicate, List.map_replicate]
    exact hu
  · simp only [d07, List.length_replicate, List.map_replicate]
    exact hs
theorem begin_a {w1 : World} {p : Pg7} {M : Nat} {fv : Value} {m : Nat} (hF : SlF w1 fv p.fs) (hm : p.futs = m) (hm2 : m ≤ 16) :
    Wh ⟨w1, w1.heap.size + 1 + 1, p, M, fv, .slice (some ⟨w1.heap.size, 0, none⟩) m m, .slice (some ⟨w1.heap.size + 1, 0, none⟩) m m⟩ (((w1.alloc (.cells (madeCells #[.int .i64 0] m) 3)).alloc (.cells (madeCells #[.bool false] m) 4)).alloc (.cells #[fv, .int .i64 m, .int .i64 p.depth, .int .i64 p.fuel, .int .i64 M, .int .i64 0, .int .i64 0, .slice none 0 0, .slice (some ⟨w1.heap.size, 0, none⟩) m m, .slice (some ⟨w1.heap.size + 1, 0, none⟩) m m] 66)).drew (d07 m) ∧
    Below w1.heap.size w1 (((w1.alloc (.cells (madeCells #[.int .i64 0] m) 3)).alloc (.cells (madeCells #[.bool false] m) 4)).alloc (.cells #[fv, .int .i64 m, .int .i64 p.depth, .int .i64 p.fuel, .int .i64 M, .int .i64 0, .int .i64 0, .slice none 0 0, .slice (some ⟨w1.heap.size, 0, none⟩) m m, .slice (some ⟨w1.heap.size + 1, 0, none⟩) m m] 66)).drew := by
  have hb := (below_alloc (below_alloc (below_alloc (Below.refl w1.heap.size w1) (.cells (madeCells #[.int .i64 0] m) 3)) (.cells (madeCells #[.bool false] m) 4)) (.cells #[fv, .int .i64 m, .int .i64 p.depth, .int .i64 p.fuel, .int .i64 M, .int .i64 0, .int .i64 0, .slice none 0 0, .slice (some ⟨w1.heap.size, 0, none⟩) m m, .slice (some ⟨w1.heap.size + 1, 0, none⟩) m m] 66)).drew
  have z1 : (w1.alloc (.cells (madeCells #[.int .i64 0] m) 3)).heap.size = w1.heap.size + 1 := by simp
  have z2 : ((w1.alloc (.cells (madeCells #[.int .i64 0] m) 3)).alloc (.cells (madeCells #[.bool false] m) 4)).heap.size = w1.heap.size + 1 + 1 := by simp
  have hu := (((own_made w1 (.int .i64 0) m 3 (Nat.le_refl _) (by omega)).alloc (.cells (madeCells #[.bool false] m) 4)).alloc (.cells #[fv, .int .i64 m, .int .i64 p.depth, .int .i64 p.fuel, .int .i64 M, .int .i64 0, .int .i64 0, .slice none 0 0, .slice (some ⟨w1.heap.size, 0, none⟩) m m, .slice (some ⟨w1.heap.size + 1, 0, none⟩) m m] 66))
  have hs := (own_made (w1.alloc (.cells (madeCells #[.int .i64 0] m) 3)) (.bool false) m 4 (B := w1.heap.size) (by omega) (by omega)).alloc (.cells #[fv, .int .i64 m, .int .i64 p.depth, .int .i64 p.fuel, .int .i64 M, .int .i64 0, .int .i64 0, .slice none 0 0, .slice (some ⟨w1.heap.size, 0, none⟩) m m, .slice (some ⟨w1.heap.size + 1, 0, none⟩) m m] 66)
  have hx := heap_alloc_new ((w1.alloc (.cells (madeCells #[.int .i64 0] m) 3)).alloc (.cells (madeCells #[.bool false] m) 4)) (.cells #[fv, .int .i64 m, .int .i64 p.depth, .int .i64 p.fuel, .int .i64 M, .int .i64 0, .int .i64 0, .slice none 0 0, .slice (some ⟨w1.heap.size, 0, none⟩) m m, .slice (some ⟨w1.heap.size + 1, 0, none⟩) m m] 66)
  rw [z2] at hx
  rw [z1] at hs
  exact ⟨begin7 hF hm hb (by omega) hx hu hs, hb⟩
theorem begin_b {w1 : World} {p : Pg7} {M : Nat} {fv : Value} {m : Nat} (hF : SlF w1 fv p.fs) (hm : p.futs = m) (hm2 : m ≤ 16) :
    Wh ⟨w1, w1.heap.size + 1 + 1, p, M, fv, .slice (some ⟨w1.heap.size + 1, 0, none⟩) m m, .slice (some ⟨w1.heap.size, 0, none⟩) m m⟩ (((w1.alloc (.cells (madeCells #[.bool false] m) 4)).alloc (.cells (madeCells #[.int .i64 0] m) 3)).alloc (.cells #[fv, .int .i64 m, .int .i64 p.depth, .int .i64 p.fuel, .int .i64 M, .int .i64 0, .int .i64 0, .slice none 0 0, .slice (some ⟨w1.heap.size + 1, 0, none⟩) m m, .slice (some ⟨w1.heap.size, 0, none⟩) m m] 66)).drew (d07 m) ∧
    Below w1.heap.size w1 (((w1.alloc (.cells (madeCells #[.bool false] m) 4)).alloc (.cells (madeCells #[.int .i64 0] m) 3)).alloc (.cells #[fv, .int .i64 m, .int .i64 p.depth, .int .i64 p.fuel, .int .i64 M, .int .i64 0, .int .i64 0, .slice none 0 0, .slice (some ⟨w1.heap.size + 1, 0, none⟩) m m, .slice (some ⟨w1.heap.size, 0, none⟩) m m] 66)).drew := by
  have hb := (below_alloc (below_alloc (below_alloc (Below.refl w1.heap.size w1) (.cells (madeCells #[.bool false] m) 4)) (.cells (madeCells #[.int .i64 0] m) 3)) (.cells #[fv, .int .i64 m, .int .i64 p.depth, .int .i64 p.fuel, .int .i64 M, .int .i64 0, .int .i64 0, .slice none 0 0, .slice (some ⟨w1.heap.size + 1, 0, none⟩) m m, .slice (some ⟨w1.heap.size, 0, none⟩) m m] 66)).drew
  have z1 : (w1.alloc (.cells (madeCells #[.bool false] m) 4)).heap.size = w1.heap.size + 1 := by simp
  have z2 : ((w1.alloc (.cells (madeCells #[.bool false] m) 4)).alloc (.cells (madeCells #[.int .i64 0] m) 3)).heap.size = w1.heap.size + 1 + 1 := by simp
  have hs := (((own_made w1 (.bool false) m 4 (Nat.le_refl _) (by omega)).alloc (.cells (madeCells #[.int .i64 0] m) 3)).alloc (.cells #[fv, .int .i64 m, .int .i64 p.depth, .int .i64 p.fuel, .int .i64 M, .int .i64 0, .int .i64 0, .slice none 0 0, .slice (some ⟨w1.heap.size + 1, 0, none⟩) m m, .slice (some ⟨w1.heap.size, 0, none⟩) m m] 66))
  have hu := (own_made (w1.alloc (.cells (madeCells #[.bool false] m) 4)) (.int .i64 0) m 3 (B := w1.heap.size) (by omega) (by omega)).alloc (.cells #[fv, .int .i64 m, .int .i64 p.depth, .int .i64 p.fuel, .int .i64 M, .int .i64 0, .int .i64 0, .slice none 0 0, .slice (some ⟨w1.heap.size + 1, 0, none⟩) m m, .slice (some ⟨w1.heap.size, 0, none⟩) m m] 66)
  have hx := heap_alloc_new ((w1.alloc (.cells (madeCells #[.bool false] m) 4)).alloc (.cells (madeCells #[.int .i64 0] m) 3)) (.cells #[fv, .int .i64 m, .int .i64 p.depth, .int .i64 p.fuel, .int .i64 M, .int .i64 0, .int .i64 0, .slice none 0 0, .slice (some ⟨w1.heap.size + 1, 0, none⟩) m m, .slice (some ⟨w1.heap.size, 0, none⟩) m m] 66)
  rw [z2] at hx
  rw [z1] at hu
  exact ⟨begin7 hF hm hb (by omega) hx hu hs, hb⟩
theorem most_le (most : Int) : mostN most ≤ 20000 := by unfold mostN; omega
theorem most_eq (most : Int) : (if 20000 < (if most < 0 then 0 else most) then 20000 else (if most < 0 then 0 else most)) = ((mostN most : Nat) : Int) := by
  unfold mostN
  split <;> split <;> omega
theorem Run_bad (p : Pg7) (fv : Value) (arg most : Int) (w : World) (hT : Tab w) (hF : SlF w fv p.fs) (hn : p.fs.length ≤ 1000000) (hm : ∀ f ∈ p.fs, f.length ≤ 1000000) (hc : checkF p ≠ 0) :
    Calls Tryd.prog 12 #[.agg #[fv, .int .i64 p.futs, .int .i64 p.depth, .int .i64 p.fuel], .int .i64 arg, .int .i64 most] w fun e w' => RnPost p arg most w e w' := by
  obtain ⟨fa, fc, rfl, -⟩ := id hF
  have hB := BoxedP.made hF
  have hb := below_alloc (Below.refl w.heap.size w) (.cells #[.slice fa p.fs.length fc, .int .i64 p.futs, .int .i64 p.depth, .int .i64 p.fuel] 24)
  have hB2 := hB.kept (below_alloc (Below.refl _ _) (.cells #[.int .i64 0, .int .i64 0, .slice none 0 0, .slice none 0 0, .slice none 0 0, .int .i64 0, .int .i64 0, .bool false] 34))
  have hb2 := below_alloc hb (.cells #[.int .i64 0, .int .i64 0, .slice none 0 0, .slice none 0 0, .slice none 0 0, .int .i64 0, .int .i64 0, .bool false] 34)
  obtain ⟨c0, c1, c2, c3⟩ := hB2.cells
  have q := V5.Check_any p _ _ (hT.below hb2) hB2.fns hn hm
  have e0 : (checkF p != 0) = true := by simpa using hc
  have HC : Hid (checkF p ≠ 0) := hc
  clear hc
  obtain ⟨z, hz⟩ : ∃ z, checkF p = z := ⟨_, rfl⟩
  rw [hz] at q e0
  have HZ : Hid (checkF p = z) := hz
  clear hz
  go_enter Tryd.func12, Tryd.ntmps12
  go_wp2_with fail
  refine q.mono ?_
  rintro e w1 ⟨rfl, hb3⟩
  have hb4 := below_then hb2 hb3
  have hbox := (hb3.block (w.heap.size + 1) (by simp)).trans (heap_alloc2_new w (.cells #[.slice fa p.fs.length fc, .int .i64 p.futs, .int .i64 p.depth, .int .i64 p.fuel] 24) (.cells #[.int .i64 0, .int .i64 0, .slice none 0 0, .slice none 0 0, .slice none 0 0, .int .i64 0, .int .i64 0, .bool false] 34))
  obtain ⟨k0, k1, k2, k3, k4, k5, k6, k7⟩ := res8 hbox
  have kf := fun j => frozen_of_row _ _ j _ _ hbox
  clear q hB hB2 c0 c1 c2 c3
  go_wp2_with fail
  change bodyPost _ _ _ _ _ (put8 w1 (w.heap.size + 1) (.int .i64 0) (.int .i64 0) (.slice none 0 0) (.slice none 0 0) (.slice none 0 0) (.int .i64 0) (.int .i64 0) (.bool false))
  have hbox2 := put8_box hbox (.int .i64 0) (.int .i64 0) (.slice none 0 0) (.slice none 0 0) (.slice none 0 0) (.int .i64 0) (.int .i64 0) (.bool false)
  have hbel := put8_below hb4 (b := w.heap.size + 1) (by omega) (.int .i64 0) (.int .i64 0) (.slice none 0 0) (.slice none 0 0) (.slice none 0 0) (.int .i64 0) (.int .i64 0) (.bool false)
  generalize put8 w1 (w.heap.size + 1) (.int .i64 0) (.int .i64 0) (.slice none 0 0) (.slice none 0 0) (.slice none 0 0) (.int .i64 0) (.int .i64 0) (.bool false) = w2 at *
  obtain ⟨m0, m1, m2, m3, m4, m5, m6, m7⟩ := res8 hbox2
  refine bodyPost_ret (v := .tuple #[resZ false, .int .i64 z]) (by simp [results, Tryd.results12, go_sem, m0, m1, m2, m3, m4, m5, m6, m7]) rfl ⟨hbel, .inl ⟨HC.out, ?_⟩⟩
  rw [HZ.out]
set_option maxHeartbeats 2000000 in
set_option maxRecDepth 8000 in
theorem Run_ok (p : Pg7) (fv : Value) (arg most : Int) (w : World) (hT : Tab w) (hF : SlF w fv p.fs) (hn : p.fs.length ≤ 1000000) (hm : ∀ f ∈ p.fs, f.length ≤ 1000000) (hc : checkF p = 0) :
    Calls Tryd.prog 12 #[.agg #[fv, .int .i64 p.futs, .int .i64 p.depth, .int .i64 p.fuel], .int .i64 arg, .int .i64 most] w fun e w' => RnPost p arg most w e w' := by
  have hp := ok_of_check hc
  obtain ⟨fa, fc, rfl, -⟩ := id hF
  have hB := BoxedP.made hF
  have hb := below_alloc (Below.refl w.heap.size w) (.cells #[.slice fa p.fs.length fc, .int .i64 p.futs, .int .i64 p.depth, .int .i64 p.fuel] 24)
  have hB2 := hB.kept (below_alloc (Below.refl _ _) (.cells #[.int .i64 0, .int .i64 0, .slice none 0 0, .slice none 0 0, .slice none 0 0, .int .i64 0, .int .i64 0, .bool false] 34))
  have hb2 := below_alloc hb (.cells #[.int .i64 0, .int .i64 0, .slice none 0 0, .slice none 0 0, .slice none 0 0, .int .i64 0, .int .i64 0, .bool false] 34)
  obtain ⟨c0, c1, c2, c3⟩ := hB2.cells
  have q := V5.Check_any p _ _ (hT.below hb2) hB2.fns hn hm
  rw [hc] at q
  have HC : Hid (checkF p = 0) := hc
  obtain ⟨m, hfm⟩ : ∃ m : Nat, p.futs = m := ⟨p.futs.toNat, by have := hp.u0; omega⟩
  have hm16 : m ≤ 16 := by have := hp.u1; omega
  have hmk1 := fun w => run_make_row' (P := Tryd.prog) 31 3 (.int .i64 0) 8 Tryd.underlying31 infoInt7 rfl .i64 .i64 m (by omega) (by omega) w
  have hmk2 := fun w => run_make_row' (P := Tryd.prog) 32 4 (.bool false) 1 Tryd.underlying32 infoBool7 rfl .i64 .i64 m (by omega) (by omega) w
  clear hc
  have HFM : Hid (p.futs = m) := hfm
  clear hfm
  go_enter Tryd.func12, Tryd.ntmps12
  go_wp2_with fail
  refine q.mono ?_
  rintro e w1 ⟨rfl, hb3⟩
  have hb4 := below_then hb2 hb3
  have hbox := (hb3.block (w.heap.size + 1) (by simp)).trans (heap_alloc2_new w (.cells #[.slice fa p.fs.length fc, .int .i64 p.futs, .int .i64 p.depth, .int .i64 p.fuel] 24) (.cells #[.int .i64 0, .int .i64 0, .slice none 0 0, .slice none 0 0, .slice none 0 0, .int .i64 0, .int .i64 0, .bool false] 34))
  have hB3 := hB2.kept hb3
  obtain ⟨k0, k1, k2, k3⟩ := hB3.cells
  rw [HFM.out] at k1
  have hsz1 : w.heap.size + 2 ≤ w1.heap.size := by have := hb3.size; simp at this; omega
  have hlt0 : w.heap.size < w1.heap.size := by omega
  have hlt1 : w.heap.size + 1 < w1.heap.size := by omega
  clear q hB hB2 c0 c1 c2 c3
  have hmo := most_eq most
  have HFN : Hid (SlF w1 (.slice fa p.fs.length fc) p.fs) := hB3.fns
  obtain ⟨M, hMe⟩ : ∃ M, mostN most = M := ⟨_, rfl⟩
  have hM20 : M ≤ 20000 := by rw [← hMe]; exact most_le most
  rw [hMe] at hmo
  have HMO : Hid (mostN most = M) := hMe
  clear hMe
  go_upto_region 4 with fail
  go_cut [9] (fun v9 wx => ∃ bw gu gs, v9 = .pointer (some ⟨bw, 0, none⟩) ∧ Wh ⟨w1, bw, p, M, .slice fa p.fs.length fc, .slice (some ⟨gu, 0, none⟩) m m, .slice (some ⟨gs, 0, none⟩) m m⟩ wx (d07 m) ∧ Below w1.heap.size w1 wx)
  case first =>
    have hA := begin_a (M := M) HFN.out HFM.out hm16
    have hBb := begin_b (M := M) HFN.out HFM.out hm16
    have HA : Hid (∃ bw gu gs, (.pointer (some ⟨w1.heap.size + 1 + 1, 0, none⟩) : Value) = .pointer (some ⟨bw, 0, none⟩) ∧ Wh ⟨w1, bw, p, M, .slice fa p.fs.length fc, .slice (some ⟨gu, 0, none⟩) m m, .slice (some ⟨gs, 0, none⟩) m m⟩ _ (d07 m) ∧ Below w1.heap.size w1 _) := ⟨_, _, _, rfl, hA.1, hA.2⟩
    have HBb : Hid (∃ bw gu gs, (.pointer (some ⟨w1.heap.size + 1 + 1, 0, none⟩) : Value) = .pointer (some ⟨bw, 0, none⟩) ∧ Wh ⟨w1, bw, p, M, .slice fa p.fs.length fc, .slice (some ⟨gu, 0, none⟩) m m, .slice (some ⟨gs, 0, none⟩) m m⟩ _ (d07 m) ∧ Below w1.heap.size w1 _) := ⟨_, _, _, rfl, hBb.1, hBb.2⟩
    clear hA hBb
    go_region
    all_goals
      go_wp2_with fail
    all_goals
      go_meet
      first | exact HA.out | exact HBb.out
  case rest =>
    obtain ⟨bw, gu, gs, rfl, hwx, hbx⟩ := hcut
    have q2 := fun w => V1.wrap_any arg w
    rw [v_wrap] at q2
    have hrun := runs_all (E := ⟨w1, bw, p, M, .slice fa p.fs.length fc, .slice (some ⟨gu, 0, none⟩) m m, .slice (some ⟨gs, 0, none⟩) m m⟩) hp hM20 M hM20 wc (d07 m) (rs0 p) K6.root 0 (wrp arg) hwx (by have := root_st hp arg; rw [← root_wrp] at this; exact this) rfl ⟨by simp only [d07, rs0]; rw [HFM.out]; rfl, by simp only [d07, rs0]; rw [HFM.out]; rfl, rfl, rfl⟩ (by simp [d07]) (by simp [d07]) (wrp_wrp _) (fun x hx => by simp [rs0] at hx) (by show M - 0 ≤ M; omega) (by show 0 ≤ M; omega)
    rw [K6.key_root] at hrun
    have HRUN : Hid (Calls Tryd.prog 22 #[.pointer (some ⟨bw, 0, none⟩), .int .i64 1125899906842624, .int .i64 0, .int .i64 (wrp arg)] wc fun e w' => RunPost ⟨w1, bw, p, M, .slice fa p.fs.length fc, .slice (some ⟨gu, 0, none⟩) m m, .slice (some ⟨gs, 0, none⟩) m m⟩ M wc (d07 m) (rs0 p) 0 (wrp arg) 1125899906842624 e w') := hrun
    have HP : Hid (Ok7 p) := hp
    clear hrun hB3 hp hT hn hm
    go_wp2_with fail
    refine (q2 _).mono ?_
    rintro e w2 ⟨rfl, rfl⟩
    go_wp2_with fail
    refine HRUN.out.mono ?_
    rintro e w3 ⟨en, d3, rfl, hw3, hF3, hbd3, hwas⟩
    have hb31 : Below w1.heap.size w1 w3 := hw3.base
    have hw4 := hw3.alloc (.cells #[.int .i64 en.h, .int .i64 en.v] 29)
    go_wp2_with fail
    refine (over_any hw4).mono ?_
    rintro e w5 ⟨rfl, nn, rfl⟩
    unfold Was7 at hwas
    rw [show ts0 0 (wrp arg) 1125899906842624 p.fuel.toNat = root7 p arg from root_wrp p arg] at hwas
    simp only at hwas
    have hw5 := hw4.drewN nn
    have hend : ((w3.alloc (.cells #[.int .i64 en.h, .int .i64 en.v] 29)).drewN nn).heap[w3.heap.size]? = some (.cells #[.int .i64 en.h, .int .i64 en.v] 29 (0, 0)) := heap_alloc_new _ _
    simp only
    generalize (w3.alloc (.cells #[.int .i64 en.h, .int .i64 en.v] 29)).drewN nn = w5 at *
    generalize w3.heap.size = b3 at *
    have hb5 : Below w1.heap.size w1 w5 := hw5.base
    have hbw : Below w.heap.size w w5 := hb4.trans (hb5.mono hb4.size)
    have hbox5 := (hb5.block (w.heap.size + 1) hlt1).trans hbox
    obtain ⟨k0, k1, k2, k3, k4, k5, k6, k7⟩ := res8 hbox5
    have kf := fun j => frozen_of_row _ _ j _ _ hbox5
    rcases hwas with ⟨o1, o2, o3, Z, o4, o5⟩ | ⟨o1, o2, o3, o4⟩
    · have hst3 : d3.st = (ev7 p M (rs0 p) (root7 p arg)).1.steps := by rw [o3.st, (told_steps _ _ _ _ _).1]
      have hle : d3.st ≤ M := by rw [hst3]; exact ev_le M _ _ (by show M - 0 ≤ M; omega) (by show 0 ≤ M; omega)
      have hdec : decide (M < d3.st) = false := by simp; omega
      rw [hdec]
      obtain ⟨t1, t2, t3⟩ := told_ran o1 ((0 : Nat) : Int) (wrp arg) 1125899906842624 (ev7 p M (rs0 p) (root7 p arg)).2.e
      have hC3 : d3.C = ran0 p M arg := by
        rw [o4]
        have h5 := o5
        rw [t1] at h5
        simp only [rs0, List.nil_append, wrp_wrp] at h5
        show [] ++ Z = _
        rw [List.nil_append, ← h5]
        rfl
      have hfk3 : d3.fk = (ev7 p M (rs0 p) (root7 p arg)).1.forks := by rw [o3.fk, t2]
      have hfu3 : d3.fu = (ev7 p M (rs0 p) (root7 p arg)).1.futs ∧ d3.ws = (ev7 p M (rs0 p) (root7 p arg)).1.was := by
        rw [o3.fu, o3.ws]
        unfold told
        rw [if_neg (by simp [o1])]
        exact ⟨rfl, rfl⟩
      obtain ⟨ra, rc, hrv⟩ : ∃ ra rc, d3.rv = .slice ra d3.C.length rc := by
        rcases hw5.ran.2 with ⟨h1, h2⟩ | ⟨g, cap, cur, h1, _⟩
        · exact ⟨none, 0, by rw [h1, h2]⟩
        · exact ⟨_, cap, h1⟩
      have j5 := hw5.cellsAt 5
      have j6 := hw5.cellsAt 6
      have j7 := hw5.cellsAt 7
      have j8 := hw5.cellsAt 8
      have j9 := hw5.cellsAt 9
      simp [Wd.box] at j5 j6 j7 j8 j9
      rw [hrv] at j7
      have e0 : w5.cell? ⟨b3, 0, none⟩ = some (.int .i64 en.h) := by rw [cell_of_row _ _ _ _ _ _ hend]; rfl
      have e1 : w5.cell? ⟨b3, 1, none⟩ = some (.int .i64 en.v) := by rw [cell_of_row _ _ _ _ _ _ hend]; rfl
      have HSL : Hid (∀ w', (∀ k, k ≠ w.heap.size + 1 → w'.heap[k]? = w5.heap[k]?) → SlR w' d3.rv (ran0 p M arg) ∧ SlN w' (.slice (some ⟨gu, 0, none⟩) m m) (ev7 p M (rs0 p) (root7 p arg)).1.futs ∧ SlB w' (.slice (some ⟨gs, 0, none⟩) m m) (ev7 p M (rs0 p) (root7 p arg)).1.was) := fun w' h => by
        have hSR := own_slR (own_same7 (w' := w') hw5.ran fun g hg => h g (by have := (hw5.ran.lt g hg).1; simp only at this; omega))
        have hSN := own_slN7 (own_same7 (w' := w') hw5.fut fun g hg => h g (by have := (hw5.fut.lt g hg).1; simp only at this; omega))
        have hSB := own_slB (own_same7 (w' := w') hw5.was fun g hg => h g (by have := (hw5.was.lt g hg).1; simp only at this; omega))
        rw [hC3] at hSR
        rw [hfu3.1] at hSN
        rw [hfu3.2] at hSB
        exact ⟨hSR, hSN, hSB⟩
      have HALL : Hid (∀ w', Below w.heap.size w w' → SlR w' d3.rv (ran0 p M arg) → SlN w' (.slice (some ⟨gu, 0, none⟩) m m) (ev7 p M (rs0 p) (root7 p arg)).1.futs → SlB w' (.slice (some ⟨gs, 0, none⟩) m m) (ev7 p M (rs0 p) (root7 p arg)).1.was → RnPost p arg most w (.returned (.tuple #[resV en d3.rv (.slice (some ⟨gu, 0, none⟩) m m) (.slice (some ⟨gs, 0, none⟩) m m) d3.st d3.fk false, .int .i64 0])) w') := fun w' h1 h2 h3 h4 => by
        refine ⟨h1, .inr (.inr ⟨HC.out, by rw [HMO.out]; exact o1, d3.rv, _, _, ?_, by rw [HMO.out]; exact h2, by rw [HMO.out]; exact h3, by rw [HMO.out]; exact h4⟩)⟩
        rw [HMO.out, o2, hst3, hfk3]
      rw [hrv] at HALL HSL
      clear hrv hfu3 hC3 hfk3 hst3 hle hdec t1 t2 t3 o1 o2 o3 o4 o5 hmo
      go_wp2_with fail
      go_region
      all_goals
        go_wp2_with fail
        change bodyPost _ _ _ _ _ (put8 w5 (w.heap.size + 1) (.int .i64 en.h) (.int .i64 en.v) (.slice ra d3.C.length rc) (.slice (some ⟨gu, 0, none⟩) m m) (.slice (some ⟨gs, 0, none⟩) m m) (.int .i64 d3.st) (.int .i64 d3.fk) (.bool false)).drew
        have hbox2 := put8_box hbox5 (.int .i64 en.h) (.int .i64 en.v) (.slice ra d3.C.length rc) (.slice (some ⟨gu, 0, none⟩) m m) (.slice (some ⟨gs, 0, none⟩) m m) (.int .i64 d3.st) (.int .i64 d3.fk) (.bool false)
        have hbel := (put8_below hbw (b := w.heap.size + 1) (by omega) (.int .i64 en.h) (.int .i64 en.v) (.slice ra d3.C.length rc) (.slice (some ⟨gu, 0, none⟩) m m) (.slice (some ⟨gs, 0, none⟩) m m) (.int .i64 d3.st) (.int .i64 d3.fk) (.bool false)).drew
        have hoth : ∀ k, k ≠ w.heap.size + 1 → (put8 w5 (w.heap.size + 1) (.int .i64 en.h) (.int .i64 en.v) (.slice ra d3.C.length rc) (.slice (some ⟨gu, 0, none⟩) m m) (.slice (some ⟨gs, 0, none⟩) m m) (.int .i64 d3.st) (.int .i64 d3.fk) (.bool false)).heap[k]? = w5.heap[k]? := fun k hk => put8_other hk _ _ _ _ _ _ _ _
        generalize (put8 w5 (w.heap.size + 1) (.int .i64 en.h) (.int .i64 en.v) (.slice ra d3.C.length rc) (.slice (some ⟨gu, 0, none⟩) m m) (.slice (some ⟨gs, 0, none⟩) m m) (.int .i64 d3.st) (.int .i64 d3.fk) (.bool false)) = w6 at *
        obtain ⟨s1, s2, s3⟩ := HSL.out w6.drew hoth
        have hPost := HALL.out _ hbel s1 s2 s3
        obtain ⟨m0, m1, m2, m3, m4, m5, m6, m7⟩ := res8 hbox2
        exact bodyPost_ret (v := .tuple #[resV en (.slice ra d3.C.length rc) (.slice (some ⟨gu, 0, none⟩) m m) (.slice (some ⟨gs, 0, none⟩) m m) d3.st d3.fk false, .int .i64 0]) (by simp [results, Tryd.results12, go_sem, m0, m1, m2, m3, m4, m5, m6, m7]) rfl hPost
    · have hdec : decide (M < d3.st) = true := by simpa using o2
      rw [hdec]
      have HOV : Hid ((ev0 p (mostN most) arg).1.over = true) := by show _ = _; rw [HMO.out]; exact o1
      clear hmo hdec o1 o2 o3 o4
      go_wp2_with fail
      change bodyPost _ _ _ _ _ (put8 w5 (w.heap.size + 1) (.int .i64 0) (.int .i64 0) (.slice none 0 0) (.slice none 0 0) (.slice none 0 0) (.int .i64 0) (.int .i64 0) (.bool true))
      have hbox2 := put8_box hbox5 (.int .i64 0) (.int .i64 0) (.slice none 0 0) (.slice none 0 0) (.slice none 0 0) (.int .i64 0) (.int .i64 0) (.bool true)
      have hbel := put8_below hbw (b := w.heap.size + 1) (by omega) (.int .i64 0) (.int .i64 0) (.slice none 0 0) (.slice none 0 0) (.slice none 0 0) (.int .i64 0) (.int .i64 0) (.bool true)
      generalize put8 w5 (w.heap.size + 1) (.int .i64 0) (.int .i64 0) (.slice none 0 0) (.slice none 0 0) (.slice none 0 0) (.int .i64 0) (.int .i64 0) (.bool true) = w6 at *
      obtain ⟨m0, m1, m2, m3, m4, m5, m6, m7⟩ := res8 hbox2
      exact bodyPost_ret (v := .tuple #[resZ true, .int .i64 0]) (by simp [results, Tryd.results12, go_sem, m0, m1, m2, m3, m4, m5, m6, m7]) rfl ⟨hbel, .inr (.inl ⟨HC.out, HOV.out, rfl⟩)⟩
theorem Run_any (p : Pg7) (fv : Value) (arg most : Int) (w : World) (hT : Tab w) (hF : SlF w fv p.fs) (hn : p.fs.length ≤ 1000000) (hm : ∀ f ∈ p.fs, f.length ≤ 1000000) :
    Calls Tryd.prog 12 #[.agg #[fv, .int .i64 p.futs, .int .i64 p.depth, .int .i64 p.fuel], .int .i64 arg, .int .i64 most] w fun e w' => RnPost p arg most w e w' := by
  by_cases hc : checkF p = 0
  · exact Run_ok p fv arg most w hT hF hn hm hc
  · exact Run_bad p fv arg most w hT hF hn hm hc
end Go.Proofs.YtpmapdialjdcbaaDoor
namespace Go.Proofs.YtpmapdialjdcbaaDoor
open Go.RowKit
open C2 (In Pr SlF SlI InsAt Tab BoxedP still_of_below below_then below_alloc Still)
open K6 (Ky)
open V5 (checkF SlN)

def pE : Pg7 := ⟨[[⟨1, 0, 5, 0⟩, ⟨15, 0, 0, 0⟩]], 0, 0, 9⟩
theorem pE_code : checkF pE = 0 := by decide +kernel
theorem pE_run : (ev0 pE 100 1).1.over = false ∧ (ev0 pE 100 1).2.e.h = 1 ∧ (ev0 pE 100 1).2.e.v = 5 ∧ (ev0 pE 100 1).1.steps = 2 ∧ (ran0 pE 100 1).length = 1 := by decide +kernel
/-- what Run says of a program that may run, and that is not over -/
theorem RnPost.good {p : Pg7} {arg most : Int} {M : Nat} {w w' : World} {e : Ending} (h : RnPost p arg most w e w') (hM : mostN most = M) (hc : checkF p = 0) (ho : (ev0 p M arg).1.over = false) :
    ∃ ra rc ua uc sa sc, e = .returned (.tuple #[.agg #[.int .i64 (ev0 p M arg).2.e.h, .int .i64 (ev0 p M arg).2.e.v, .slice ra (ran0 p M arg).length rc, .slice ua (ev0 p M arg).1.futs.length uc, .slice sa (ev0 p M arg).1.was.length sc, .int .i64 (ev0 p M arg).1.steps, .int .i64 (ev0 p M arg).1.forks, .bool false], .int .i64 0]) ∧ Below w.heap.size w w' ∧
      SlR w' (.slice ra (ran0 p M arg).length rc) (ran0 p M arg) ∧ SlN w' (.slice ua (ev0 p M arg).1.futs.length uc) (ev0 p M arg).1.futs ∧ SlB w' (.slice sa (ev0 p M arg).1.was.length sc) (ev0 p M arg).1.was := by
  subst hM
  obtain ⟨hb, h | h | h⟩ := h
  · exact absurd hc h.1
  · rw [ho] at h
    exact absurd h.2.1 (by decide)
  · obtain ⟨-, -, rv, uv, sv, he, h1, h2, h3⟩ := h
    obtain ⟨ra, rc, hr, -⟩ := id h1
    obtain ⟨ua, uc, hu, -⟩ := id h2
    obtain ⟨sa, sc, hs, -⟩ := id h3
    subst hr; subst hu; subst hs
    exact ⟨ra, rc, ua, uc, sa, sc, he, hb, h1, h2, h3⟩
theorem pE_lies (w : World) : SlF ((w.alloc (.cells #[.int .i64 1, .int .i64 0, .int .i64 5, .int .i64 0, .int .i64 15, .int .i64 0, .int .i64 0, .int .i64 0] 54)).alloc (.cells #[.slice (some ⟨w.heap.size, 0, none⟩) 2 2] 55)) (.slice (some ⟨w.heap.size + 1, 0, none⟩) 1 1) pE.fs := by
  have h0 := heap_alloc2_old w (.cells #[.int .i64 1, .int .i64 0, .int .i64 5, .int .i64 0, .int .i64 15, .int .i64 0, .int .i64 0, .int .i64 0] 54) (.cells #[.slice (some ⟨w.heap.size, 0, none⟩) 2 2] 55)
  have h1 := heap_alloc2_new w (.cells #[.int .i64 1, .int .i64 0, .int .i64 5, .int .i64 0, .int .i64 15, .int .i64 0, .int .i64 0, .int .i64 0] 54) (.cells #[.slice (some ⟨w.heap.size, 0, none⟩) 2 2] 55)
  refine ⟨_, _, rfl, fun k hk => ?_⟩
  obtain rfl : k = 0 := by simp [pE] at hk; exact hk
  refine ⟨_, _, .slice (some ⟨w.heap.size, 0, none⟩) 2 2, rfl, by rw [cell_of_row _ _ _ _ _ _ h1]; rfl, ?_⟩
  refine ⟨_, _, rfl, fun j hj => ?_⟩
  have hj2 : j < 2 := hj
  rcases (by omega : j = 0 ∨ j = 1) with rfl | rfl
  · refine ⟨_, _, rfl, ?_⟩
    constructor <;> rw [cell_of_row _ _ _ _ _ _ h0] <;> rfl
  · refine ⟨_, _, rfl, ?_⟩
    constructor <;> rw [cell_of_row _ _ _ _ _ _ h0] <;> rfl
theorem awake_any (w : World) (hT : Tab w) : Calls Tryd.prog 10 #[] w fun e w' => e = .returned (.bool true) ∧ Below w.heap.size w w' := by
  have hb1 := below_alloc (below_alloc (Below.refl w.heap.size w) (.cells #[.int .i64 1, .int .i64 0, .int .i64 5, .int .i64 0, .int .i64 15, .int .i64 0, .int .i64 0, .int .i64 0] 54)) (.cells #[.slice (some ⟨w.heap.size, 0, none⟩) 2 2] 55)
  have h1 := Run_any pE _ 1 100 _ (hT.below hb1) (pE_lies w) (by simp [pE]) (by simp [pE])
  obtain ⟨r1, r2, r3, r4, r5⟩ := pE_run
  have H1 : Hid (Calls Tryd.prog 12 #[.agg #[.slice (some ⟨w.heap.size + 1, 0, none⟩) 1 1, .int .i64 0, .int .i64 0, .int .i64 9], .int .i64 1, .int .i64 100] ((w.alloc (.cells #[.int .i64 1, .int .i64 0, .int .i64 5, .int .i64 0, .int .i64 15, .int .i64 0, .int .i64 0, .int .i64 0] 54)).alloc (.cells #[.slice (some ⟨w.heap.size, 0, none⟩) 2 2] 55)) fun e w' => ∃ ra rc ua un uc sa sn sc, ∃ fk : Int, e = .returned (.tuple #[.agg #[.int .i64 1, .int .i64 5, .slice ra 1 rc, .slice ua un uc, .slice sa sn sc, .int .i64 2, .int .i64 fk, .bool false], .int .i64 0]) ∧ Below w.heap.size w w') := by
    refine h1.mono ?_
    intro e w' hq
    obtain ⟨ra, rc, ua, uc, sa, sc, he, hb, -, -, -⟩ := hq.good (M := 100) (by decide) pE_code r1
    rw [r2, r3, r4, r5] at he
    exact ⟨ra, rc, ua, _, uc, sa, _, sc, _, he, below_then hb1 hb⟩
  clear h1 r1 r2 r3 r4 r5
  go_enter Tryd.func10, Tryd.ntmps10
  go_wp2_with fail
  refine H1.out.mono ?_
  rintro e w1 ⟨ra, rc, ua, un, uc, sa, sn, sc, fk, rfl, hb2⟩
  clear H1
  go_wp2_with fail
  go_ret
  exact ⟨rfl, below_alloc hb2 _⟩
end Go.Proofs.YtpmapdialjdcbaaDoor
namespace Go.Proofs.YtpmapdialjdcbaaDoor
open Go.RowKit
open C2 (In Pr SlF SlI InsAt Tab BoxedP still_of_below below_then below_alloc Still)
open K6 (Ky)
open V5 (checkF SlN)

def allocs (w : World) : List Obj → World
  | [] => w
  | o :: os => allocs (w.alloc o) os
theorem allocs_below : ∀ (os : List Obj) (a w : World), Below a.heap.size a w → Below a.heap.size a (allocs w os)
  | [], _, _, h => h
  | o :: os, a, w, h => allocs_below os a (w.alloc o) (below_alloc h o)
theorem allocs_at : ∀ (os : List Obj) (w : World) (i : Nat) (o : Obj), os[i]? = some o → (allocs w os).heap[w.heap.size + i]? = some o
  | [], _, _, _, h => by simp at h
  | a :: os, w, 0, o, h => by
    simp at h
    subst h
    have hb := allocs_below os (w.alloc a) (w.alloc a) (Below.refl _ _)
    rw [Nat.add_zero]
    show (allocs (w.alloc a) os).heap[w.heap.size]? = some a
    rw [hb.block _ (by simp)]
    exact heap_alloc_new _ _
  | a :: os, w, i + 1, o, h => by
    have h2 := allocs_at os (w.alloc a) i o (by simpa using h)
    rw [show (w.alloc a).heap.size + i = w.heap.size + (i + 1) by simp; omega] at h2
    exact h2
def inC (x : In) : List Value := [.int .i64 x.o, .int .i64 x.a, .int .i64 x.b, .int .i64 x.c]
theorem slI_blk {w : World} {g cap : Nat} {cs : Array Value} {T : TypeId} {fz : Nat × Nat} {xs : List In} (h : w.heap[g]? = some (.cells cs T fz)) (hc : cs.toList = (xs.map inC).flatten) : SlI w (.slice (some ⟨g, 0, none⟩) xs.length cap) xs := by
  refine ⟨_, _, rfl, fun k hk => ⟨g, 0, rfl, ?_⟩⟩
  have e : xs = xs.take k ++ (xs[k] :: xs.drop (k + 1)) := by rw [← List.drop_eq_getElem_cons hk, List.take_append_drop]
  have hl : ∀ l : List In, ((l.map inC).flatten).length = l.length * 4 := fun l => by
    induction l with
    | nil => rfl
    | cons a l ih => simp only [List.map_cons, List.flatten_cons, List.length_append, ih, List.length_cons]; simp [inC]; omega
  have hcell : ∀ j, j < 4 → w.cell? ⟨g, k * 4 + j, none⟩ = (inC xs[k])[j]? := fun j hj => by
    rw [cell_of_row _ _ _ _ _ _ h, ← Array.getElem?_toList, hc]
    conv => lhs; rw [e]
    rw [List.map_append, List.flatten_append, List.map_cons, List.flatten_cons, List.getElem?_append_right (by rw [hl, List.length_take]; omega), hl, List.length_take, show k * 4 + j - min k xs.length * 4 = j by omega, List.getElem?_append_left (by simp [inC]; omega)]
  rw [Nat.zero_add]
  exact ⟨hcell 0 (by omega), hcell 1 (by omega), hcell 2 (by omega), hcell 3 (by omega)⟩
/-- two functions -/
theorem slF_two {w : World} {g g1 g2 c1 c2 cap : Nat} {T T1 T2 : TypeId} {cs1 cs2 : Array Value} {xs ys : List In} (h : w.heap[g]? = some (.cells #[.slice (some ⟨g1, 0, none⟩) xs.length c1, .slice (some ⟨g2, 0, none⟩) ys.length c2] T (0, 0))) (h1 : w.heap[g1]? = some (.cells cs1 T1 (0, 0))) (h2 : w.heap[g2]? = some (.cells cs2 T2 (0, 0))) (k1 : cs1.toList = (xs.map inC).flatten) (k2 : cs2.toList = (ys.map inC).flatten) : SlF w (.slice (some ⟨g, 0, none⟩) 2 cap) [xs, ys] := by
  refine ⟨_, _, rfl, fun k hk => ?_⟩
  have hk2 : k < 2 := hk
  rcases (by omega : k = 0 ∨ k = 1) with rfl | rfl
  · exact ⟨g, 0, _, rfl, by rw [cell_of_row _ _ _ _ _ _ h]; rfl, slI_blk h1 k1⟩
  · exact ⟨g, 0, _, rfl, by rw [cell_of_row _ _ _ _ _ _ h]; rfl, slI_blk h2 k2⟩
end Go.Proofs.YtpmapdialjdcbaaDoor
namespace Go.Proofs.YtpmapdialjdcbaaDoor
open Go.RowKit
open C2 (In Pr SlF SlI InsAt Tab BoxedP still_of_below below_then below_alloc Still OkPr)
open K6 (Ky paO paK paN)
open V5 (checkF SlN)

theorem sameEnd_any (h1 v1 h2 v2 : Int) (w : World) : Calls Tryd.prog 15 #[.agg #[.int .i64 h1, .int .i64 v1], .agg #[.int .i64 h2, .int .i64 v2]] w fun e w' => e = .returned (.bool (h1 == h2 && v1 == v2)) ∧ Below w.heap.size w w' := by
  have hb := below_alloc (below_alloc (Below.refl w.heap.size w) (.cells #[.int .i64 h1, .int .i64 v1] 29)) (.cells #[.int .i64 h2, .int .i64 v2] 29)
  by_cases hh : h1 = h2
  · subst hh
    have e1 : (h1 == h1) = true := by simp
    go_enter Tryd.func15, Tryd.ntmps15
    go_wp2_with fail
    go_ret
    exact ⟨by simp, hb⟩
  · have e1 : (h1 == h2) = false := by simpa using hh
    go_enter Tryd.func15, Tryd.ntmps15
    go_wp2_with fail
    go_ret
    exact ⟨by simp [e1], hb⟩
theorem wd_pos7 (i : Nat) : 0 < K6.wd i := by
  unfold K6.wd
  split <;> decide
/-- of what ran, in the order of keys -/
structure RunsL (L : List Rn) : Prop where
  one : 0 < L.length
  root : ∀ h : 0 < L.length, L[0].key = 1125899906842624
  up : ∀ i j (hi : i < L.length) (hj : j < L.length), i < j → L[i].key < L[j].key
  ends : ∀ i (hi : i < L.length), EndOk L[i].e
  par : ∀ i (hi : i < L.length), 0 < i → paO L[i].key = true ∧ ∃ j, ∃ hj : j < L.length, j < i ∧ L[j].key = paK L[i].key
theorem runs_list {p : Pg7} (hp : p.depth ≤ 5) (M : Nat) (arg : Int) (ho : (ev0 p M arg).1.over = false) : RunsL (ran0 p M arg) ∧ (ran0 p M arg).length = (ev0 p M arg).1.forks + 1 ∧ ∀ h : 0 < (ran0 p M arg).length, (ran0 p M arg)[0].e = (ev0 p M arg).2.e := by
  have hk := run_ok hp M arg ho
  have hk2 : RunOk arg (ev0 p M arg) (ran0 p M arg) := hk
  clear hk
  generalize ran0 p M arg = L at *
  obtain ⟨eq, srt, ends, up, len⟩ := hk2
  have h1 : 0 < L.length := by omega
  have hr : ∀ h : 0 < L.length, L[0].key = 1125899906842624 := by intro h; subst eq; rfl
  refine ⟨⟨h1, hr, fun i j hi hj => (srt_at srt hi hj).2, fun i hi => ends _ (List.getElem_mem hi), fun i hi h0 => ?_⟩, len, by intro h; subst eq; rfl⟩
  have hgt := (srt_at srt h1 hi).2 h0
  rw [hr h1] at hgt
  rcases up _ (List.getElem_mem hi) with h | ⟨xk, xo, xe, xd, y, hy, ye⟩
  · omega
  · have hpo : paO L[i].key = true := by rw [xe, K6.paO_key xo]; simpa using xd
    have hpk : paK L[i].key = xk.par.key := by rw [xe]; exact (K6.paK_key xo xd).1
    refine ⟨hpo, ?_⟩
    obtain ⟨j, hj, rfl⟩ := List.getElem_of_mem hy
    refine ⟨j, hj, ?_, by rw [ye, hpk]⟩
    refine (srt_at srt hj hi).1 ?_
    rw [ye, xe]
    obtain ⟨-, -, p3, -, p5, p6, -⟩ := K6.par_facts xo xd
    have hw : 0 < K6.wd xk.dep := wd_pos7 xk.dep
    have : 1 * K6.wd xk.dep ≤ xk.last * K6.wd xk.dep := Int.mul_le_mul_of_nonneg_right p5 (by omega)
    omega
/-- a fork is an instruction -/
theorem told_forks (r : Rs) (fn arg key : Int) (e : En) : (told r fn arg key e).forks = r.forks := by
  unfold told
  split <;> rfl
theorem forks_le (p : Pg7) (most : Nat) (depth : Int → Int) (child : Int → Int → Int) : ∀ (n : Nat) (r : Rs) (t : Ts), (loopP p most depth child n r t).1.forks + r.steps ≤ (loopP p most depth child n r t).1.steps + r.forks
  | n, r, t => by
    by_cases h0 : t.e.h ≠ 0 ∨ r.over = true
    · rw [loopP_end p most depth child h0]; show r.forks + r.steps ≤ r.steps + r.forks; omega
    have e1 : t.e.h = 0 := by
      by_cases h : t.e.h = 0
      · exact h
      · exact absurd (.inl h) h0
    have e2 : r.over = false := by
      cases h : r.over with
      | false => rfl
      | true => exact absurd (.inr h) h0
    by_cases h3 : t.fuel = 0
    · rw [loopP_fuel p most depth child e1 e2 h3]; show r.forks + r.steps ≤ r.steps + r.forks; omega
    by_cases h4 : most ≤ r.steps
    · rw [loopP_over p most depth child e1 e2 h3 h4]; show r.forks + r.steps ≤ r.steps + r.forks; omega
    cases n with
    | zero =>
      unfold loopP
      rw [if_neg h0, if_neg h3, if_neg h4]
      show r.forks + r.steps ≤ r.steps + r.forks
      omega
    | succ n =>
      rw [loopP_step p most depth child ⟨e1, e2, h3, by omega⟩]
      have hu : (up1 r).steps = r.steps + 1 := rfl
      have huf : (up1 r).forks = r.forks := rfl
      have hf : (forkR (up1 r)).steps = r.steps + 1 := rfl
      have hff : (forkR (up1 r)).forks = r.forks + 1 := rfl
      unfold bodyP
      split
      · split
        · have := forks_le p most depth child n (up1 r) ((down1 t).ends 6); omega
        · split
          · have := forks_le p most depth child n (up1 r) ((down1 t).ends 9); omega
          · have k1 := forks_le p most depth child n (forkR (up1 r)) (ts0 (ins7 p t).b.toNat (rg t (ins7 p t).c) (child t.key (t.forks + 1)) p.fuel.toNat)
            generalize loopP p most depth child n (forkR (up1 r)) (ts0 (ins7 p t).b.toNat (rg t (ins7 p t).c) (child t.key (t.forks + 1)) p.fuel.toNat) = q at *
            have k2 := forks_le p most depth child n (told q.1 (ins7 p t).b (rg t (ins7 p t).c) (child t.key (t.forks + 1)) q.2.e) (forkT (down1 t) (ins7 p t).a q.2.e)
            rw [(told_steps _ _ _ _ _).1, told_forks] at k2
            omega
      · have k := forks_le p most depth child n (oneP (up1 r) (down1 t) (ins7 p t)).1 (oneP (up1 r) (down1 t) (ins7 p t)).2
        obtain ⟨o1, -, -, o4⟩ := oneP_steps (up1 r) (down1 t) (ins7 p t)
        rw [o1, o4] at k
        omega
theorem ev_forks {p : Pg7} {M : Nat} (arg : Int) : (ev0 p M arg).1.forks ≤ (ev0 p M arg).1.steps := by
  have := forks_le p M depK chY M (rs0 p) (root7 p arg)
  have e1 : (rs0 p).steps = 0 := rfl
  have e2 : (rs0 p).forks = 0 := rfl
  show (loopP p M depK chY M (rs0 p) (root7 p arg)).1.forks ≤ (loopP p M depK chY M (rs0 p) (root7 p arg)).1.steps
  omega
end Go.Proofs.YtpmapdialjdcbaaDoor
