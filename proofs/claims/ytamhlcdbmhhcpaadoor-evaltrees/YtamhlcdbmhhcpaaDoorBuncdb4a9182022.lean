/-
  Helpers: EvW, EvAw, EvQa, EvJa, EvTa, EvJn, EvTb, EvTc, EvTd.
-/
import Derived.Test.YtamhlcdbmhhcpaaDoorBunb6bd3f96ec46
import Derived.Deep.OwnRows
import Derived.Test.YtamhlcdbmhhcpaaDoorBun42776fdf8de5
namespace Go.Proofs.YtamhlcdbmhhcpaaDoor
open Go.RowKit
open C2 (In Pr SlF SlI InsAt Tab BoxedP still_of_below below_then below_alloc Still)
open K6 (Ky)
open V5 (checkF SlN)

/-- what ran, in memory -/
structure RanAt (w : World) (g f : Nat) (x : Rn) : Prop where
  c0 : w.cell? ⟨g, f, none⟩ = some (.int .i64 x.key)
  c1 : w.cell? ⟨g, f + 1, none⟩ = some (.int .i64 x.fn)
  c2 : w.cell? ⟨g, f + 2, none⟩ = some (.int .i64 x.arg)
  c3 : w.cell? ⟨g, f + 3, none⟩ = some (.int .i64 x.e.h)
  c4 : w.cell? ⟨g, f + 4, none⟩ = some (.int .i64 x.e.v)
def SlR (w : World) (v : Value) (xs : List Rn) : Prop :=
  ∃ ad cap, v = .slice ad xs.length cap ∧ ∀ k (h : k < xs.length), ∃ g f, ad = some ⟨g, f, none⟩ ∧ RanAt w g (f + k * 5) xs[k]
def SlB (w : World) (v : Value) (xs : List Bool) : Prop :=
  ∃ ad cap, v = .slice ad xs.length cap ∧ ∀ k (h : k < xs.length), ∃ g f, ad = some ⟨g, f, none⟩ ∧ w.cell? ⟨g, f + k, none⟩ = some (.bool xs[k])
theorem SlR.still {w w' : World} {v : Value} {xs : List Rn} (h : SlR w v xs) (hs : Still w w') : SlR w' v xs := by
  obtain ⟨ad, cap, hv, hx⟩ := h
  refine ⟨ad, cap, hv, fun k hk => ?_⟩
  obtain ⟨g, f, h1, h2⟩ := hx k hk
  exact ⟨g, f, h1, hs _ _ h2.c0, hs _ _ h2.c1, hs _ _ h2.c2, hs _ _ h2.c3, hs _ _ h2.c4⟩
theorem SlB.still {w w' : World} {v : Value} {xs : List Bool} (h : SlB w v xs) (hs : Still w w') : SlB w' v xs := by
  obtain ⟨ad, cap, hv, hx⟩ := h
  refine ⟨ad, cap, hv, fun k hk => ?_⟩
  obtain ⟨g, f, h1, h2⟩ := hx k hk
  exact ⟨g, f, h1, hs _ _ h2⟩
theorem own_slR {w : World} {base : Nat} {v : Value} {xs : List Rn} (h : w.ownsRow base 54 5 v xs.length (cellsR xs)) : SlR w v xs := by
  rcases h.2 with ⟨rfl, h0⟩ | ⟨g, cap, cur, rfl, hb, hg, hn, hc, hs, ht⟩
  · obtain rfl : xs = [] := List.eq_nil_of_length_eq_zero h0
    exact ⟨none, 0, rfl, fun k hk => by simp at hk⟩
  · refine ⟨some ⟨g, 0, none⟩, cap, rfl, fun k hk => ⟨g, 0, rfl, ?_⟩⟩
    have e : xs = xs.take k ++ (xs[k] :: xs.drop (k + 1)) := by rw [← List.drop_eq_getElem_cons hk, List.take_append_drop]
    have hl : (cellsR (xs.take k)).length = k * 5 := by rw [cellsR_length, List.length_take]; congr 1; omega
    have hcell : ∀ j, j < 5 → w.cell? ⟨g, k * 5 + j, none⟩ = (rnC xs[k])[j]? := fun j hj => by
      have h1 : (cellsR xs)[k * 5 + j]? = (rnC xs[k])[j]? := by
        conv => lhs; rw [e, cellsR_mid]
        rw [List.getElem?_append_right (by omega), hl, show k * 5 + j - k * 5 = j by omega, List.getElem?_append_left (by simp [rnC]; omega)]
      rw [h.cellAt (k * 5 + j) (by omega), h1]
    rw [Nat.zero_add]
    exact ⟨hcell 0 (by omega), hcell 1 (by omega), hcell 2 (by omega), hcell 3 (by omega), hcell 4 (by omega)⟩
theorem own_slB {w : World} {base : Nat} {v : Value} {xs : List Bool} (h : w.ownsRow base 4 1 v xs.length (xs.map Value.bool)) : SlB w v xs := by
  rcases h.2 with ⟨rfl, h0⟩ | ⟨g, cap, cur, rfl, hb, hg, hn, hc, hs, ht⟩
  · obtain rfl : xs = [] := List.eq_nil_of_length_eq_zero h0
    exact ⟨none, 0, rfl, fun k hk => by simp at hk⟩
  · refine ⟨some ⟨g, 0, none⟩, cap, rfl, fun k hk => ⟨g, 0, rfl, ?_⟩⟩
    rw [Nat.zero_add, h.cellAt k (by omega)]
    simp [hk]
theorem own_slN7 {w : World} {base : Nat} {v : Value} {xs : List Int} (h : w.ownsRow base 3 1 v xs.length (xs.map (Value.int .i64))) : SlN w v xs := by
  rcases h.2 with ⟨rfl, h0⟩ | ⟨g, cap, cur, rfl, hb, hg, hn, hc, hs, ht⟩
  · obtain rfl : xs = [] := List.eq_nil_of_length_eq_zero h0
    exact ⟨none, 0, rfl, fun k hk => by simp at hk⟩
  · refine ⟨some ⟨g, 0, none⟩, cap, rfl, fun k hk => ⟨g, 0, rfl, ?_⟩⟩
    rw [Nat.zero_add, h.cellAt k (by omega)]
    simp [hk]
/-- so many instructions at most -/
def mostN (most : Int) : Nat := (min (max most 0) 20000).toNat
abbrev resV (en : En) (rv uv sv : Value) (st fk : Int) (ov : Bool) : Value := .agg #[.int .i64 en.h, .int .i64 en.v, rv, uv, sv, .int .i64 st, .int .i64 fk, .bool ov]
abbrev resZ (ov : Bool) : Value := .agg #[.int .i64 0, .int .i64 0, .slice none 0 0, .slice none 0 0, .slice none 0 0, .int .i64 0, .int .i64 0, .bool ov]
abbrev ev0 (p : Pg7) (M : Nat) (arg : Int) : Rs × Ts := ev7 p M (rs0 p) (root7 p arg)
/-- all that ran, the root first -/
def ran0 (p : Pg7) (M : Nat) (arg : Int) : List Rn := putR (ev0 p M arg).1.ran ⟨1125899906842624, 0, wrp arg, (ev0 p M arg).2.e⟩
def RnPost (p : Pg7) (arg most : Int) (w : World) (e : Ending) (w' : World) : Prop :=
  Below w.heap.size w w' ∧
  ((checkF p ≠ 0 ∧ e = .returned (.tuple #[resZ false, .int .i64 (checkF p)])) ∨
   (checkF p = 0 ∧ (ev0 p (mostN most) arg).1.over = true ∧ e = .returned (.tuple #[resZ true, .int .i64 0])) ∨
   (checkF p = 0 ∧ (ev0 p (mostN most) arg).1.over = false ∧ ∃ rv uv sv, e = .returned (.tuple #[resV (ev0 p (mostN most) arg).2.e rv uv sv (ev0 p (mostN most) arg).1.steps (ev0 p (mostN most) arg).1.forks false, .int .i64 0]) ∧
     SlR w' rv (ran0 p (mostN most) arg) ∧ SlN w' uv (ev0 p (mostN most) arg).1.futs ∧ SlB w' sv (ev0 p (mostN most) arg).1.was))
/-- every run of a program that may run -/
theorem runs_all {E : Ev7} (hp : Ok7 E.p) (hM : E.M ≤ 20000) : ∀ n, n ≤ 20000 → RunsOk E n := by
  intro n
  induction n using Nat.strongRecOn with
  | _ n ih => exact fun hn => run_any hp hM hn fun m hm => ih m hm (by omega)
theorem root_st {p : Pg7} (hp : Ok7 p) (arg : Int) : St7 p (rs0 p) (root7 p arg) K6.root := by
  refine ⟨K6.root_ok, rfl, TOk.start _ _ _ _, rfl, fun x hx => ?_, rfl, rfl, fun x hx => ?_, rfl, hp.n0, fun _ => (hp.fn _ (getD_mem hp.n0 [])).1, by rw [K6.dep_root]; exact hp.d0, by show 0 ≤ 1000; omega, by have := hp.f5; show p.fuel.toNat ≤ 500; omega, List.Pairwise.nil, fun x hx => by simp [rs0] at hx, by simp [rs0], by simp [rs0], fun x hx => ?_⟩
  · simp only [root7, ts0, List.mem_cons, List.not_mem_nil, or_false] at hx
    rcases hx with rfl | rfl | rfl | rfl | rfl | rfl | rfl | rfl
    · exact wrp_wrp _
    all_goals rfl
  · simp only [root7, ts0, List.mem_cons, List.not_mem_nil, or_false] at hx
    rcases hx with rfl | rfl | rfl | rfl <;> rfl
  · simp [rs0] at hx
    rw [hx.2]; rfl
theorem root_wrp (p : Pg7) (arg : Int) : ts0 0 (wrp arg) 1125899906842624 p.fuel.toNat = root7 p arg := by
  unfold root7 ts0
  rw [wrp_wrp]
theorem infoInt7 : (Tryd.prog.info? 3).map (fun i => (i.zero, i.size, i.bytes)) = some (some (.int .i64 0), 1, 8) := by kernel_rfl
theorem infoBool7 : (Tryd.prog.info? 4).map (fun i => (i.zero, i.size, i.bytes)) = some (some (.bool false), 1, 1) := by kernel_rfl
def put8 (w : World) (b : Nat) (v0 v1 v2 v3 v4 v5 v6 v7 : Value) : World := (((((((w.setCell ⟨b, 0, none⟩ v0).setCell ⟨b, 1, none⟩ v1).setCell ⟨b, 2, none⟩ v2).setCell ⟨b, 3, none⟩ v3).setCell ⟨b, 4, none⟩ v4).setCell ⟨b, 5, none⟩ v5).setCell ⟨b, 6, none⟩ v6).setCell ⟨b, 7, none⟩ v7
theorem put8_box {w : World} {b : Nat} {T : TypeId} {x0 x1 x2 x3 x4 x5 x6 x7 : Value} (h : w.heap[b]? = some (.cells #[x0, x1, x2, x3, x4, x5, x6, x7] T (0, 0))) (v0 v1 v2 v3 v4 v5 v6 v7 : Value) : (put8 w b v0 v1 v2 v3 v4 v5 v6 v7).heap[b]? = some (.cells #[v0, v1, v2, v3, v4, v5, v6, v7] T (0, 0)) := by
  unfold put8
  have h0 : (w.setCell ⟨b, 0, none⟩ v0).heap[b]? = some (.cells #[v0, x1, x2, x3, x4, x5, x6, x7] T (0, 0)) := by rw [heap_setCell_same _ _ _ _ _ _ h]; rfl
  have h1 : ((w.setCell ⟨b, 0, none⟩ v0).setCell ⟨b, 1, none⟩ v1).heap[b]? = some (.cells #[v0, v1, x2, x3, x4, x5, x6, x7] T (0, 0)) := by rw [heap_setCell_same _ _ _ _ _ _ h0]; rfl
  have h2 : (((w.setCell ⟨b, 0, none⟩ v0).setCell ⟨b, 1, none⟩ v1).setCell ⟨b, 2, none⟩ v2).heap[b]? = some (.cells #[v0, v1, v2, x3, x4, x5, x6, x7] T (0, 0)) := by rw [heap_setCell_same _ _ _ _ _ _ h1]; rfl
  have h3 : ((((w.setCell ⟨b, 0, none⟩ v0).setCell ⟨b, 1, none⟩ v1).setCell ⟨b, 2, none⟩ v2).setCell ⟨b, 3, none⟩ v3).heap[b]? = some (.cells #[v0, v1, v2, v3, x4, x5, x6, x7] T (0, 0)) := by rw [heap_setCell_same _ _ _ _ _ _ h2]; rfl
  have h4 : (((((w.setCell ⟨b, 0, none⟩ v0).setCell ⟨b, 1, none⟩ v1).setCell ⟨b, 2, none⟩ v2).setCell ⟨b, 3, none⟩ v3).setCell ⟨b, 4, none⟩ v4).heap[b]? = some (.cells #[v0, v1, v2, v3, v4, x5, x6, x7] T (0, 0)) := by rw [heap_setCell_same _ _ _ _ _ _ h3]; rfl
  have h5 : ((((((w.setCell ⟨b, 0, none⟩ v0).setCell ⟨b, 1, none⟩ v1).setCell ⟨b, 2, none⟩ v2).setCell ⟨b, 3, none⟩ v3).setCell ⟨b, 4, none⟩ v4).setCell ⟨b, 5, none⟩ v5).heap[b]? = some (.cells #[v0, v1, v2, v3, v4, v5, x6, x7] T (0, 0)) := by rw [heap_setCell_same _ _ _ _ _ _ h4]; rfl
  have h6 : (((((((w.setCell ⟨b, 0, none⟩ v0).setCell ⟨b, 1, none⟩ v1).setCell ⟨b, 2, none⟩ v2).setCell ⟨b, 3, none⟩ v3).setCell ⟨b, 4, none⟩ v4).setCell ⟨b, 5, none⟩ v5).setCell ⟨b, 6, none⟩ v6).heap[b]? = some (.cells #[v0, v1, v2, v3, v4, v5, v6, x7] T (0, 0)) := by rw [heap_setCell_same _ _ _ _ _ _ h5]; rfl
  have h7 : ((((((((w.setCell ⟨b, 0, none⟩ v0).setCell ⟨b, 1, none⟩ v1).setCell ⟨b, 2, none⟩ v2).setCell ⟨b, 3, none⟩ v3).setCell ⟨b, 4, none⟩ v4).setCell ⟨b, 5, none⟩ v5).setCell ⟨b, 6, none⟩ v6).setCell ⟨b, 7, none⟩ v7).heap[b]? = some (.cells #[v0, v1, v2, v3, v4, v5, v6, v7] T (0, 0)) := by rw [heap_setCell_same _ _ _ _ _ _ h6]; rfl
  exact h7
theorem put8_below {S : Nat} {a w : World} {b : Nat} (h : Below S a w) (hb : S ≤ b) (v0 v1 v2 v3 v4 v5 v6 v7 : Value) : Below S a (put8 w b v0 v1 v2 v3 v4 v5 v6 v7) :=
  (((((((h.setCell (p := ⟨b, 0, none⟩) hb v0).setCell (p := ⟨b, 1, none⟩) hb v1).setCell (p := ⟨b, 2, none⟩) hb v2).setCell (p := ⟨b, 3, none⟩) hb v3).setCell (p := ⟨b, 4, none⟩) hb v4).setCell (p := ⟨b, 5, none⟩) hb v5).setCell (p := ⟨b, 6, none⟩) hb v6).setCell (p := ⟨b, 7, none⟩) hb v7
theorem put8_other {w : World} {b k : Nat} (hk : k ≠ b) (v0 v1 v2 v3 v4 v5 v6 v7 : Value) : (put8 w b v0 v1 v2 v3 v4 v5 v6 v7).heap[k]? = w.heap[k]? := by
  unfold put8
  rw [Below.heap_setCell _ _ _ _ hk, Below.heap_setCell _ _ _ _ hk, Below.heap_setCell _ _ _ _ hk, Below.heap_setCell _ _ _ _ hk, Below.heap_setCell _ _ _ _ hk, Below.heap_setCell _ _ _ _ hk, Below.heap_setCell _ _ _ _ hk, Below.heap_setCell _ _ _ _ hk]
structure Res8 (w : World) (b : Nat) (v0 v1 v2 v3 v4 v5 v6 v7 : Value) : Prop where
  c0 : w.cell? ⟨b, 0, none⟩ = some v0
  c1 : w.cell? ⟨b, 1, none⟩ = some v1
  c2 : w.cell? ⟨b, 2, none⟩ = some v2
  c3 : w.cell? ⟨b, 3, none⟩ = some v3
  c4 : w.cell? ⟨b, 4, none⟩ = some v4
  c5 : w.cell? ⟨b, 5, none⟩ = some v5
  c6 : w.cell? ⟨b, 6, none⟩ = some v6
  c7 : w.cell? ⟨b, 7, none⟩ = some v7
theorem res8 {w : World} {b : Nat} {T : TypeId} {x0 x1 x2 x3 x4 x5 x6 x7 : Value} (h : w.heap[b]? = some (.cells #[x0, x1, x2, x3, x4, x5, x6, x7] T (0, 0))) : Res8 w b x0 x1 x2 x3 x4 x5 x6 x7 :=
  ⟨cell_of_row _ _ _ _ _ _ h, cell_of_row _ _ _ _ _ _ h, cell_of_row _ _ _ _ _ _ h, cell_of_row _ _ _ _ _ _ h, cell_of_row _ _ _ _ _ _ h, cell_of_row _ _ _ _ _ _ h, cell_of_row _ _ _ _ _ _ h, cell_of_row _ _ _ _ _ _ h⟩
theorem made_list (z : Value) (m : Nat) : (madeCells #[z] m).toList = List.replicate m z := by
  refine List.ext_getElem (by simp [size_madeCells]) fun i h1 h2 => ?_
  simp [madeCells, Nat.mod_one]
theorem own_made (w : World) (z : Value) (m : Nat) (T : TypeId) {B : Nat} (hB : B ≤ w.heap.size) (hm : m ≤ 1000) : (w.alloc (.cells (madeCells #[z] m) T)).ownsRow B T 1 (.slice (some ⟨w.heap.size, 0, none⟩) m m) m (List.replicate m z) :=
  ⟨by simp, .inr ⟨_, m, _, rfl, hB, heap_alloc_new _ _, Nat.le_refl _, by unfold maxLen; omega, by simp [size_madeCells], by rw [made_list]; simp⟩⟩
/-- how a run begins -/
def d07 (m : Nat) : Wd := ⟨.slice none 0 0, [], List.replicate m 0, List.replicate m false, 0, 0⟩
theorem begin7 {w1 wx : World} {p : Pg7} {M : Nat} {fv : Value} {gu gs bw m : Nat} (hF : SlF w1 fv p.fs) (hm : p.futs = m) (hb : Below w1.heap.size w1 wx) (h1 : w1.heap.size ≤ bw)
    (hbox : wx.heap[bw]? = some (.cells #[fv, .int .i64 m, .int .i64 p.depth, .int .i64 p.fuel, .int .i64 M, .int .i64 0, .int .i64 0, .slice none 0 0, .slice (some ⟨gu, 0, none⟩) m m, .slice (some ⟨gs, 0, none⟩) m m] 64 (0, 0)))
    (hu : wx.ownsRow w1.heap.size 3 1 (.slice (some ⟨gu, 0, none⟩) m m) m (List.replicate m (.int .i64 0))) (hs : wx.ownsRow w1.heap.size 4 1 (.slice (some ⟨gs, 0, none⟩) m m) m (List.replicate m (.bool false))) :
    Wh ⟨w1, bw, p, M, fv, .slice (some ⟨gu, 0, none⟩) m m, .slice (some ⟨gs, 0, none⟩) m m⟩ wx (d07 m) := by
  refine ⟨hb, h1, ?_, World.ownsRow_nil _ _ _ _, ?_, ?_, hF⟩
  · rw [hbox]
    simp only [Wd.box, d07, hm]
    rfl
  · simp only [d07, List.length_replicate, List.map_replicate]
    exact hu
  · simp only [d07, List.length_replicate, List.map_replicate]
    exact hs
theorem begin_a {w1 : World} {p : Pg7} {M : Nat} {fv : Value} {m : Nat} (hF : SlF w1 fv p.fs) (hm : p.futs = m) (hm2 : m ≤ 16) :
    Wh ⟨w1, w1.heap.size + 1 + 1, p, M, fv, .slice (some ⟨w1.heap.size, 0, none⟩) m m, .slice (some ⟨w1.heap.size + 1, 0, none⟩) m m⟩ (((w1.alloc (.cells (madeCells #[.int .i64 0] m) 3)).alloc (.cells (madeCells #[.bool false] m) 4)).alloc (.cells #[fv, .int .i64 m, .int .i64 p.depth, .int .i64 p.fuel, .int .i64 M, .int .i64 0, .int .i64 0, .slice none 0 0, .slice (some ⟨w1.heap.size, 0, none⟩) m m, .slice (some ⟨w1.heap.size + 1, 0, none⟩) m m] 64)).drew (d07 m) ∧
    Below w1.heap.size w1 (((w1.alloc (.cells (madeCells #[.int .i64 0] m) 3)).alloc (.cells (madeCells #[.bool false] m) 4)).alloc (.cells #[fv, .int .i64 m, .int .i64 p.depth, .int .i64 p.fuel, .int .i64 M, .int .i64 0, .int .i64 0, .slice none 0 0, .slice (some ⟨w1.heap.size, 0, none⟩) m m, .slice (some ⟨w1.heap.size + 1, 0, none⟩) m m] 64)).drew := by
  have hb := (below_alloc (below_alloc (below_alloc (Below.refl w1.heap.size w1) (.cells (madeCells #[.int .i64 0] m) 3)) (.cells (madeCells #[.bool false] m) 4)) (.cells #[fv, .int .i64 m, .int .i64 p.depth, .int .i64 p.fuel, .int .i64 M, .int .i64 0, .int .i64 0, .slice none 0 0, .slice (some ⟨w1.heap.size, 0, none⟩) m m, .slice (some ⟨w1.heap.size + 1, 0, none⟩) m m] 64)).drew
  have z1 : (w1.alloc (.cells (madeCells #[.int .i64 0] m) 3)).heap.size = w1.heap.size + 1 := by simp
  have z2 : ((w1.alloc (.cells (madeCells #[.int .i64 0] m) 3)).alloc (.cells (madeCells #[.bool false] m) 4)).heap.size = w1.heap.size + 1 + 1 := by simp
  have hu := (((own_made w1 (.int .i64 0) m 3 (Nat.le_refl _) (by omega)).alloc (.cells (madeCells #[.bool false] m) 4)).alloc (.cells #[fv, .int .i64 m, .int .i64 p.depth, .int .i64 p.fuel, .int .i64 M, .int .i64 0, .int .i64 0, .slice none 0 0, .slice (some ⟨w1.heap.size, 0, none⟩) m m, .slice (some ⟨w1.heap.size + 1, 0, none⟩) m m] 64))
  have hs := (own_made (w1.alloc (.cells (madeCells #[.int .i64 0] m) 3)) (.bool false) m 4 (B := w1.heap.size) (by omega) (by omega)).alloc (.cells #[fv, .int .i64 m, .int .i64 p.depth, .int .i64 p.fuel, .int .i64 M, .int .i64 0, .int .i64 0, .slice none 0 0, .slice (some ⟨w1.heap.size, 0, none⟩) m m, .slice (some ⟨w1.heap.size + 1, 0, none⟩) m m] 64)
  have hx := heap_alloc_new ((w1.alloc (.cells (madeCells #[.int .i64 0] m) 3)).alloc (.cells (madeCells #[.bool false] m) 4)) (.cells #[fv, .int .i64 m, .int .i64 p.depth, .int .i64 p.fuel, .int .i64 M, .int .i64 0, .int .i64 0, .slice none 0 0, .slice (some ⟨w1.heap.size, 0, none⟩) m m, .slice (some ⟨w1.heap.size + 1, 0, none⟩) m m] 64)
  rw [z2] at hx
  rw [z1] at hs
  exact ⟨begin7 hF hm hb (by omega) hx hu hs, hb⟩
theorem begin_b {w1 : World} {p : Pg7} {M : Nat} {fv : Value} {m : Nat} (hF : SlF w1 fv p.fs) (hm : p.futs = m) (hm2 : m ≤ 16) :
    Wh ⟨w1, w1.heap.size + 1 + 1, p, M, fv, .slice (some ⟨w1.heap.size + 1, 0, none⟩) m m, .slice (some ⟨w1.heap.size, 0, none⟩) m m⟩ (((w1.alloc (.cells (madeCells #[.bool false] m) 4)).alloc (.cells (madeCells #[.int .i64 0] m) 3)).alloc (.cells #[fv, .int .i64 m, .int .i64 p.depth, .int .i64 p.fuel, .int .i64 M, .int .i64 0, .int .i64 0, .slice none 0 0, .slice (some ⟨w1.heap.size + 1, 0, none⟩) m m, .slice (some ⟨w1.heap.size, 0, none⟩) m m] 64)).drew (d07 m) ∧
    Below w1.heap.size w1 (((w1.alloc (.cells (madeCells #[.bool false] m) 4)).alloc (.cells (madeCells #[.int .i64 0] m) 3)).alloc (.cells #[fv, .int .i64 m, .int .i64 p.depth, .int .i64 p.fuel, .int .i64 M, .int .i64 0, .int .i64 0, .slice none 0 0, .slice (some ⟨w1.heap.size + 1, 0, none⟩) m m, .slice (some ⟨w1.heap.size, 0, none⟩) m m] 64)).drew := by
  have hb := (below_alloc (below_alloc (below_alloc (Below.refl w1.heap.size w1) (.cells (madeCells #[.bool false] m) 4)) (.cells (madeCells #[.int .i64 0] m) 3)) (.cells #[fv, .int .i64 m, .int .i64 p.depth, .int .i64 p.fuel, .int .i64 M, .int .i64 0, .int .i64 0, .slice none 0 0, .slice (some ⟨w1.heap.size + 1, 0, none⟩) m m, .slice (some ⟨w1.heap.size, 0, none⟩) m m] 64)).drew
  have z1 : (w1.alloc (.cells (madeCells #[.bool false] m) 4)).heap.size = w1.heap.size + 1 := by simp
  have z2 : ((w1.alloc (.cells (madeCells #[.bool false] m) 4)).alloc (.cells (madeCells #[.int .i64 0] m) 3)).heap.size = w1.heap.size + 1 + 1 := by simp
  have hs := (((own_made w1 (.bool false) m 4 (Nat.le_refl _) (by omega)).alloc (.cells (madeCells #[.int .i64 0] m) 3)).alloc (.cells #[fv, .int .i64 m, .int .i64 p.depth, .int .i64 p.fuel, .int .i64 M, .int .i64 0, .int .i64 0, .slice none 0 0, .slice (some ⟨w1.heap.size + 1, 0, none⟩) m m, .slice (some ⟨w1.heap.size, 0, none⟩) m m] 64))
  have hu := (own_made (w1.alloc (.cells (madeCells #[.bool false] m) 4)) (.int .i64 0) m 3 (B := w1.heap.size) (by omega) (by omega)).alloc (.cells #[fv, .int .i64 m, .int .i64 p.depth, .int .i64 p.fuel, .int .i64 M, .int .i64 0, .int .i64 0, .slice none 0 0, .slice (some ⟨w1.heap.size + 1, 0, none⟩) m m, .slice (some ⟨w1.heap.size, 0, none⟩) m m] 64)
  have hx := heap_alloc_new ((w1.alloc (.cells (madeCells #[.bool false] m) 4)).alloc (.cells (madeCells #[.int .i64 0] m) 3)) (.cells #[fv, .int .i64 m, .int .i64 p.depth, .int .i64 p.fuel, .int .i64 M, .int .i64 0, .int .i64 0, .slice none 0 0, .slice (some ⟨w1.heap.size + 1, 0, none⟩) m m, .slice (some ⟨w1.heap.size, 0, none⟩) m m] 64)
  rw [z2] at hx
  rw [z1] at hu
  exact ⟨begin7 hF hm hb (by omega) hx hu hs, hb⟩
theorem most_le (most : Int) : mostN most ≤ 20000 := by unfold mostN; omega
theorem most_eq (most : Int) : (if 20000 < (if most < 0 then 0 else most) then 20000 else (if most < 0 then 0 else most)) = ((mostN most : Nat) : Int) := by
  unfold mostN
  split <;> split <;> omega
theorem Run_bad (p : Pg7) (fv : Value) (arg most : Int) (w : World) (hT : Tab w) (hF : SlF w fv p.fs) (hn : p.fs.length ≤ 1000000) (hm : ∀ f ∈ p.fs, f.length ≤ 1000000) (hc : checkF p ≠ 0) :
    Calls Tryd.prog 10 #[.agg #[fv, .int .i64 p.futs, .int .i64 p.depth, .int .i64 p.fuel], .int .i64 arg, .int .i64 most] w fun e w' => RnPost p arg most w e w' := by
  obtain ⟨fa, fc, rfl, -⟩ := id hF
  have hB := BoxedP.made hF
  have hb := below_alloc (Below.refl w.heap.size w) (.cells #[.slice fa p.fs.length fc, .int .i64 p.futs, .int .i64 p.depth, .int .i64 p.fuel] 24)
  have hB2 := hB.kept (below_alloc (Below.refl _ _) (.cells #[.int .i64 0, .int .i64 0, .slice none 0 0, .slice none 0 0, .slice none 0 0, .int .i64 0, .int .i64 0, .bool false] 34))
  have hb2 := below_alloc hb (.cells #[.int .i64 0, .int .i64 0, .slice none 0 0, .slice none 0 0, .slice none 0 0, .int .i64 0, .int .i64 0, .bool false] 34)
  obtain ⟨c0, c1, c2, c3⟩ := hB2.cells
  have q := V5.Check_any p _ _ (hT.below hb2) hB2.fns hn hm
  have e0 : (checkF p != 0) = true := by simpa using hc
  have HC : Hid (checkF p ≠ 0) := hc
  clear hc
  obtain ⟨z, hz⟩ : ∃ z, checkF p = z := ⟨_, rfl⟩
  rw [hz] at q e0
  have HZ : Hid (checkF p = z) := hz
  clear hz
  go_enter Tryd.func10, Tryd.ntmps10
  go_wp2_with fail
  refine q.mono ?_
  rintro e w1 ⟨rfl, hb3⟩
  have hb4 := below_then hb2 hb3
  have hbox := (hb3.block (w.heap.size + 1) (by simp)).trans (heap_alloc2_new w (.cells #[.slice fa p.fs.length fc, .int .i64 p.futs, .int .i64 p.depth, .int .i64 p.fuel] 24) (.cells #[.int .i64 0, .int .i64 0, .slice none 0 0, .slice none 0 0, .slice none 0 0, .int .i64 0, .int .i64 0, .bool false] 34))
  obtain ⟨k0, k1, k2, k3, k4, k5, k6, k7⟩ := res8 hbox
  have kf := fun j => frozen_of_row _ _ j _ _ hbox
  clear q hB hB2 c0 c1 c2 c3
  go_wp2_with fail
  change bodyPost _ _ _ _ _ (put8 w1 (w.heap.size + 1) (.int .i64 0) (.int .i64 0) (.slice none 0 0) (.slice none 0 0) (.slice none 0 0) (.int .i64 0) (.int .i64 0) (.bool false))
  have hbox2 := put8_box hbox (.int .i64 0) (.int .i64 0) (.slice none 0 0) (.slice none 0 0) (.slice none 0 0) (.int .i64 0) (.int .i64 0) (.bool false)
  have hbel := put8_below hb4 (b := w.heap.size + 1) (by omega) (.int .i64 0) (.int .i64 0) (.slice none 0 0) (.slice none 0 0) (.slice none 0 0) (.int .i64 0) (.int .i64 0) (.bool false)
  generalize put8 w1 (w.heap.size + 1) (.int .i64 0) (.int .i64 0) (.slice none 0 0) (.slice none 0 0) (.slice none 0 0) (.int .i64 0) (.int .i64 0) (.bool false) = w2 at *
  obtain ⟨m0, m1, m2, m3, m4, m5, m6, m7⟩ := res8 hbox2
  refine bodyPost_ret (v := .tuple #[resZ false, .int .i64 z]) (by simp [results, Tryd.results10, go_sem, m0, m1, m2, m3, m4, m5, m6, m7]) rfl ⟨hbel, .inl ⟨HC.out, ?_⟩⟩
  rw [HZ.out]
set_option maxHeartbeats 2000000 in
set_option maxRecDepth 8000 in
theorem Run_ok (p : Pg7) (fv : Value) (arg most : Int) (w : World) (hT : Tab w) (hF : SlF w fv p.fs) (hn : p.fs.length ≤ 1000000) (hm : ∀ f ∈ p.fs, f.length ≤ 1000000) (hc : checkF p = 0) :
    Calls Tryd.prog 10 #[.agg #[fv, .int .i64 p.futs, .int .i64 p.depth, .int .i64 p.fuel], .int .i64 arg, .int .i64 most] w fun e w' => RnPost p arg most w e w' := by
  have hp := ok_of_check hc
  obtain ⟨fa, fc, rfl, -⟩ := id hF
  have hB := BoxedP.made hF
  have hb := below_alloc (Below.refl w.heap.size w) (.cells #[.slice fa p.fs.length fc, .int .i64 p.futs, .int .i64 p.depth, .int .i64 p.fuel] 24)
  have hB2 := hB.kept (below_alloc (Below.refl _ _) (.cells #[.int .i64 0, .int .i64 0, .slice none 0 0, .slice none 0 0, .slice none 0 0, .int .i64 0, .int .i64 0, .bool false] 34))
  have hb2 := below_alloc hb (.cells #[.int .i64 0, .int .i64 0, .slice none 0 0, .slice none 0 0, .slice none 0 0, .int .i64 0, .int .i64 0, .bool false] 34)
  obtain ⟨c0, c1, c2, c3⟩ := hB2.cells
  have q := V5.Check_any p _ _ (hT.below hb2) hB2.fns hn hm
  rw [hc] at q
  have HC : Hid (checkF p = 0) := hc
  obtain ⟨m, hfm⟩ : ∃ m : Nat, p.futs = m := ⟨p.futs.toNat, by have := hp.u0; omega⟩
  have hm16 : m ≤ 16 := by have := hp.u1; omega
  have hmk1 := fun w => run_make_row' (P := Tryd.prog) 31 3 (.int .i64 0) 8 Tryd.underlying31 infoInt7 rfl .i64 .i64 m (by omega) (by omega) w
  have hmk2 := fun w => run_make_row' (P := Tryd.prog) 32 4 (.bool false) 1 Tryd.underlying32 infoBool7 rfl .i64 .i64 m (by omega) (by omega) w
  clear hc
  have HFM : Hid (p.futs = m) := hfm
  clear hfm
  go_enter Tryd.func10, Tryd.ntmps10
  go_wp2_with fail
  refine q.mono ?_
  rintro e w1 ⟨rfl, hb3⟩
  have hb4 := below_then hb2 hb3
  have hbox := (hb3.block (w.heap.size + 1) (by simp)).trans (heap_alloc2_new w (.cells #[.slice fa p.fs.length fc, .int .i64 p.futs, .int .i64 p.depth, .int .i64 p.fuel] 24) (.cells #[.int .i64 0, .int .i64 0, .slice none 0 0, .slice none 0 0, .slice none 0 0, .int .i64 0, .int .i64 0, .bool false] 34))
  have hB3 := hB2.kept hb3
  obtain ⟨k0, k1, k2, k3⟩ := hB3.cells
  rw [HFM.out] at k1
  have hsz1 : w.heap.size + 2 ≤ w1.heap.size := by have := hb3.size; simp at this; omega
  have hlt0 : w.heap.size < w1.heap.size := by omega
  have hlt1 : w.heap.size + 1 < w1.heap.size := by omega
  clear q hB hB2 c0 c1 c2 c3
  have hmo := most_eq most
  have HFN : Hid (SlF w1 (.slice fa p.fs.length fc) p.fs) := hB3.fns
  obtain ⟨M, hMe⟩ : ∃ M, mostN most = M := ⟨_, rfl⟩
  have hM20 : M ≤ 20000 := by rw [← hMe]; exact most_le most
  rw [hMe] at hmo
  have HMO : Hid (mostN most = M) := hMe
  clear hMe
  go_upto_region 4 with fail
  go_cut [9] (fun v9 wx => ∃ bw gu gs, v9 = .pointer (some ⟨bw, 0, none⟩) ∧ Wh ⟨w1, bw, p, M, .slice fa p.fs.length fc, .slice (some ⟨gu, 0, none⟩) m m, .slice (some ⟨gs, 0, none⟩) m m⟩ wx (d07 m) ∧ Below w1.heap.size w1 wx)
  case first =>
    have hA := begin_a (M := M) HFN.out HFM.out hm16
    have hBb := begin_b (M := M) HFN.out HFM.out hm16
    have HA : Hid (∃ bw gu gs, (.pointer (some ⟨w1.heap.size + 1 + 1, 0, none⟩) : Value) = .pointer (some ⟨bw, 0, none⟩) ∧ Wh ⟨w1, bw, p, M, .slice fa p.fs.length fc, .slice (some ⟨gu, 0, none⟩) m m, .slice (some ⟨gs, 0, none⟩) m m⟩ _ (d07 m) ∧ Below w1.heap.size w1 _) := ⟨_, _, _, rfl, hA.1, hA.2⟩
    have HBb : Hid (∃ bw gu gs, (.pointer (some ⟨w1.heap.size + 1 + 1, 0, none⟩) : Value) = .pointer (some ⟨bw, 0, none⟩) ∧ Wh ⟨w1, bw, p, M, .slice fa p.fs.length fc, .slice (some ⟨gu, 0, none⟩) m m, .slice (some ⟨gs, 0, none⟩) m m⟩ _ (d07 m) ∧ Below w1.heap.size w1 _) := ⟨_, _, _, rfl, hBb.1, hBb.2⟩
    clear hA hBb
    go_region
    all_goals
      go_wp2_with fail
    all_goals
      go_meet
      first | exact HA.out | exact HBb.out
  case rest =>
    obtain ⟨bw, gu, gs, rfl, hwx, hbx⟩ := hcut
    have q2 := fun w => V1.wrap_any arg w
    rw [v_wrap] at q2
    have hrun := runs_all (E := ⟨w1, bw, p, M, .slice fa p.fs.length fc, .slice (some ⟨gu, 0, none⟩) m m, .slice (some ⟨gs, 0, none⟩) m m⟩) hp hM20 M hM20 wc (d07 m) (rs0 p) K6.root 0 (wrp arg) hwx (by have := root_st hp arg; rw [← root_wrp] at this; exact this) rfl ⟨by simp only [d07, rs0]; rw [HFM.out]; rfl, by simp only [d07, rs0]; rw [HFM.out]; rfl, rfl, rfl⟩ (by simp [d07]) (by simp [d07]) (wrp_wrp _) (fun x hx => by simp [rs0] at hx) (by show M - 0 ≤ M; omega) (by show 0 ≤ M; omega)
    rw [K6.key_root] at hrun
    have HRUN : Hid (Calls Tryd.prog 21 #[.pointer (some ⟨bw, 0, none⟩), .int .i64 1125899906842624, .int .i64 0, .int .i64 (wrp arg)] wc fun e w' => RunPost ⟨w1, bw, p, M, .slice fa p.fs.length fc, .slice (some ⟨gu, 0, none⟩) m m, .slice (some ⟨gs, 0, none⟩) m m⟩ M wc (d07 m) (rs0 p) 0 (wrp arg) 1125899906842624 e w') := hrun
    have HP : Hid (Ok7 p) := hp
    clear hrun hB3 hp hT hn hm
    go_wp2_with fail
    refine (q2 _).mono ?_
    rintro e w2 ⟨rfl, rfl⟩
    go_wp2_with fail
    refine HRUN.out.mono ?_
    rintro e w3 ⟨en, d3, rfl, hw3, hF3, hbd3, hwas⟩
    have hb31 : Below w1.heap.size w1 w3 := hw3.base
    have hw4 := hw3.alloc (.cells #[.int .i64 en.h, .int .i64 en.v] 29)
    go_wp2_with fail
    refine (over_any hw4).mono ?_
    rintro e w5 ⟨rfl, nn, rfl⟩
    unfold Was7 at hwas
    rw [show ts0 0 (wrp arg) 1125899906842624 p.fuel.toNat = root7 p arg from root_wrp p arg] at hwas
    simp only at hwas
    have hw5 := hw4.drewN nn
    have hend : ((w3.alloc (.cells #[.int .i64 en.h, .int .i64 en.v] 29)).drewN nn).heap[w3.heap.size]? = some (.cells #[.int .i64 en.h, .int .i64 en.v] 29 (0, 0)) := heap_alloc_new _ _
    simp only
    generalize (w3.alloc (.cells #[.int .i64 en.h, .int .i64 en.v] 29)).drewN nn = w5 at *
    generalize w3.heap.size = b3 at *
    have hb5 : Below w1.heap.size w1 w5 := hw5.base
    have hbw : Below w.heap.size w w5 := hb4.trans (hb5.mono hb4.size)
    have hbox5 := (hb5.block (w.heap.size + 1) hlt1).trans hbox
    obtain ⟨k0, k1, k2, k3, k4, k5, k6, k7⟩ := res8 hbox5
    have kf := fun j => frozen_of_row _ _ j _ _ hbox5
    rcases hwas with ⟨o1, o2, o3, Z, o4, o5⟩ | ⟨o1, o2, o3, o4⟩
    · have hst3 : d3.st = (ev7 p M (rs0 p) (root7 p arg)).1.steps := by rw [o3.st, (told_steps _ _ _ _ _).1]
      have hle : d3.st ≤ M := by rw [hst3]; exact ev_le M _ _ (by show M - 0 ≤ M; omega) (by show 0 ≤ M; omega)
      have hdec : decide (M < d3.st) = false := by simp; omega
      rw [hdec]
      obtain ⟨t1, t2, t3⟩ := told_ran o1 ((0 : Nat) : Int) (wrp arg) 1125899906842624 (ev7 p M (rs0 p) (root7 p arg)).2.e
      have hC3 : d3.C = ran0 p M arg := by
        rw [o4]
        have h5 := o5
        rw [t1] at h5
        simp only [rs0, List.nil_append, wrp_wrp] at h5
        show [] ++ Z = _
        rw [List.nil_append, ← h5]
        rfl
      have hfk3 : d3.fk = (ev7 p M (rs0 p) (root7 p arg)).1.forks := by rw [o3.fk, t2]
      have hfu3 : d3.fu = (ev7 p M (rs0 p) (root7 p arg)).1.futs ∧ d3.ws = (ev7 p M (rs0 p) (root7 p arg)).1.was := by
        rw [o3.fu, o3.ws]
        unfold told
        rw [if_neg (by simp [o1])]
        exact ⟨rfl, rfl⟩
      obtain ⟨ra, rc, hrv⟩ : ∃ ra rc, d3.rv = .slice ra d3.C.length rc := by
        rcases hw5.ran.2 with ⟨h1, h2⟩ | ⟨g, cap, cur, h1, _⟩
        · exact ⟨none, 0, by rw [h1, h2]⟩
        · exact ⟨_, cap, h1⟩
      have j5 := hw5.cellsAt 5
      have j6 := hw5.cellsAt 6
      have j7 := hw5.cellsAt 7
      have j8 := hw5.cellsAt 8
      have j9 := hw5.cellsAt 9
      simp [Wd.box] at j5 j6 j7 j8 j9
      rw [hrv] at j7
      have e0 : w5.cell? ⟨b3, 0, none⟩ = some (.int .i64 en.h) := by rw [cell_of_row _ _ _ _ _ _ hend]; rfl
      have e1 : w5.cell? ⟨b3, 1, none⟩ = some (.int .i64 en.v) := by rw [cell_of_row _ _ _ _ _ _ hend]; rfl
      have HSL : Hid (∀ w', (∀ k, k ≠ w.heap.size + 1 → w'.heap[k]? = w5.heap[k]?) → SlR w' d3.rv (ran0 p M arg) ∧ SlN w' (.slice (some ⟨gu, 0, none⟩) m m) (ev7 p M (rs0 p) (root7 p arg)).1.futs ∧ SlB w' (.slice (some ⟨gs, 0, none⟩) m m) (ev7 p M (rs0 p) (root7 p arg)).1.was) := fun w' h => by
        have hSR := own_slR (own_same7 (w' := w') hw5.ran fun g hg => h g (by have := (hw5.ran.lt g hg).1; simp only at this; omega))
        have hSN := own_slN7 (own_same7 (w' := w') hw5.fut fun g hg => h g (by have := (hw5.fut.lt g hg).1; simp only at this; omega))
        have hSB := own_slB (own_same7 (w' := w') hw5.was fun g hg => h g (by have := (hw5.was.lt g hg).1; simp only at this; omega))
        rw [hC3] at hSR
        rw [hfu3.1] at hSN
        rw [hfu3.2] at hSB
        exact ⟨hSR, hSN, hSB⟩
      have HALL : Hid (∀ w', Below w.heap.size w w' → SlR w' d3.rv (ran0 p M arg) → SlN w' (.slice (some ⟨gu, 0, none⟩) m m) (ev7 p M (rs0 p) (root7 p arg)).1.futs → SlB w' (.slice (some ⟨gs, 0, none⟩) m m) (ev7 p M (rs0 p) (root7 p arg)).1.was → RnPost p arg most w (.returned (.tuple #[resV en d3.rv (.slice (some ⟨gu, 0, none⟩) m m) (.slice (some ⟨gs, 0, none⟩) m m) d3.st d3.fk false, .int .i64 0])) w') := fun w' h1 h2 h3 h4 => by
        refine ⟨h1, .inr (.inr ⟨HC.out, by rw [HMO.out]; exact o1, d3.rv, _, _, ?_, by rw [HMO.out]; exact h2, by rw [HMO.out]; exact h3, by rw [HMO.out]; exact h4⟩)⟩
        rw [HMO.out, o2, hst3, hfk3]
      rw [hrv] at HALL HSL
      clear hrv hfu3 hC3 hfk3 hst3 hle hdec t1 t2 t3 o1 o2 o3 o4 o5 hmo
      go_wp2_with fail
      go_region
      all_goals
        go_wp2_with fail
        change bodyPost _ _ _ _ _ (put8 w5 (w.heap.size + 1) (.int .i64 en.h) (.int .i64 en.v) (.slice ra d3.C.length rc) (.slice (some ⟨gu, 0, none⟩) m m) (.slice (some ⟨gs, 0, none⟩) m m) (.int .i64 d3.st) (.int .i64 d3.fk) (.bool false)).drew
        have hbox2 := put8_box hbox5 (.int .i64 en.h) (.int .i64 en.v) (.slice ra d3.C.length rc) (.slice (some ⟨gu, 0, none⟩) m m) (.slice (some ⟨gs, 0, none⟩) m m) (.int .i64 d3.st) (.int .i64 d3.fk) (.bool false)
        have hbel := (put8_below hbw (b := w.heap.size + 1) (by omega) (.int .i64 en.h) (.int .i64 en.v) (.slice ra d3.C.length rc) (.slice (some ⟨gu, 0, none⟩) m m) (.slice (some ⟨gs, 0, none⟩) m m) (.int .i64 d3.st) (.int .i64 d3.fk) (.bool false)).drew
        have hoth : ∀ k, k ≠ w.heap.size + 1 → (put8 w5 (w.heap.size + 1) (.int .i64 en.h) (.int .i64 en.v) (.slice ra d3.C.length rc) (.slice (some ⟨gu, 0, none⟩) m m) (.slice (some ⟨gs, 0, none⟩) m m) (.int .i64 d3.st) (.int .i64 d3.fk) (.bool false)).heap[k]? = w5.heap[k]? := fun k hk => put8_other hk _ _ _ _ _ _ _ _
        generalize (put8 w5 (w.heap.size + 1) (.int .i64 en.h) (.int .i64 en.v) (.slice ra d3.C.length rc) (.slice (some ⟨gu, 0, none⟩) m m) (.slice (some ⟨gs, 0, none⟩) m m) (.int .i64 d3.st) (.int .i64 d3.fk) (.bool false)) = w6 at *
        obtain ⟨s1, s2, s3⟩ := HSL.out w6.drew hoth
        have hPost := HALL.out _ hbel s1 s2 s3
        obtain ⟨m0, m1, m2, m3, m4, m5, m6, m7⟩ := res8 hbox2
        exact bodyPost_ret (v := .tuple #[resV en (.slice ra d3.C.length rc) (.slice (some ⟨gu, 0, none⟩) m m) (.slice (some ⟨gs, 0, none⟩) m m) d3.st d3.fk false, .int .i64 0]) (by simp [results, Tryd.results10, go_sem, m0, m1, m2, m3, m4, m5, m6, m7]) rfl hPost
    · have hdec : decide (M < d3.st) = true := by simpa using o2
      rw [hdec]
      have HOV : Hid ((ev0 p (mostN most) arg).1.over = true) := by show _ = _; rw [HMO.out]; exact o1
      clear hmo hdec o1 o2 o3 o4
      go_wp2_with fail
      change bodyPost _ _ _ _ _ (put8 w5 (w.heap.size + 1) (.int .i64 0) (.int .i64 0) (.slice none 0 0) (.slice none 0 0) (.slice none 0 0) (.int .i64 0) (.int .i64 0) (.bool true))
      have hbox2 := put8_box hbox5 (.int .i64 0) (.int .i64 0) (.slice none 0 0) (.slice none 0 0) (.slice none 0 0) (.int .i64 0) (.int .i64 0) (.bool true)
      have hbel := put8_below hbw (b := w.heap.size + 1) (by omega) (.int .i64 0) (.int .i64 0) (.slice none 0 0) (.slice none 0 0) (.slice none 0 0) (.int .i64 0) (.int .i64 0) (.bool true)
      generalize put8 w5 (w.heap.size + 1) (.int .i64 0) (.int .i64 0) (.slice none 0 0) (.slice none 0 0) (.slice none 0 0) (.int .i64 0) (.int .i64 0) (.bool true) = w6 at *
      obtain ⟨m0, m1, m2, m3, m4, m5, m6, m7⟩ := res8 hbox2
      exact bodyPost_ret (v := .tuple #[resZ true, .int .i64 0]) (by simp [results, Tryd.results10, go_sem, m0, m1, m2, m3, m4, m5, m6, m7]) rfl ⟨hbel, .inr (.inl ⟨HC.out, HOV.out, rfl⟩)⟩
theorem Run_any (p : Pg7) (fv : Value) (arg most : Int) (w : World) (hT : Tab w) (hF : SlF w fv p.fs) (hn : p.fs.length ≤ 1000000) (hm : ∀ f ∈ p.fs, f.length ≤ 1000000) :
    Calls Tryd.prog 10 #[.agg #[fv, .int .i64 p.futs, .int .i64 p.depth, .int .i64 p.fuel], .int .i64 arg, .int .i64 most] w fun e w' => RnPost p arg most w e w' := by
  by_cases hc : checkF p = 0
  · exact Run_ok p fv arg most w hT hF hn hm hc
  · exact Run_bad p fv arg most w hT hF hn hm hc
end Go.Proofs.YtamhlcdbmhhcpaaDoor
namespace Go.Proofs.YtamhlcdbmhhcpaaDoor
open Go.RowKit
open C2 (In Pr SlF SlI InsAt Tab BoxedP still_of_below below_then below_alloc Still)
open K6 (Ky)
open V5 (checkF SlN)

def pE : Pg7 := ⟨[[⟨1, 0, 5, 0⟩, ⟨15, 0, 0, 0⟩]], 0, 0, 9⟩
theorem pE_code : checkF pE = 0 := by decide +kernel
theorem pE_run : (ev0 pE 100 1).1.over = false ∧ (ev0 pE 100 1).2.e.h = 1 ∧ (ev0 pE 100 1).2.e.v = 5 ∧ (ev0 pE 100 1).1.steps = 2 ∧ (ran0 pE 100 1).length = 1 := by decide +kernel
/-- what Run says of a program that may run, and that is not over -/
theorem RnPost.good {p : Pg7} {arg most : Int} {M : Nat} {w w' : World} {e : Ending} (h : RnPost p arg most w e w') (hM : mostN most = M) (hc : checkF p = 0) (ho : (ev0 p M arg).1.over = false) :
    ∃ ra rc ua uc sa sc, e = .returned (.tuple #[.agg #[.int .i64 (ev0 p M arg).2.e.h, .int .i64 (ev0 p M arg).2.e.v, .slice ra (ran0 p M arg).length rc, .slice ua (ev0 p M arg).1.futs.length uc, .slice sa (ev0 p M arg).1.was.length sc, .int .i64 (ev0 p M arg).1.steps, .int .i64 (ev0 p M arg).1.forks, .bool false], .int .i64 0]) ∧ Below w.heap.size w w' ∧
      SlR w' (.slice ra (ran0 p M arg).length rc) (ran0 p M arg) ∧ SlN w' (.slice ua (ev0 p M arg).1.futs.length uc) (ev0 p M arg).1.futs ∧ SlB w' (.slice sa (ev0 p M arg).1.was.length sc) (ev0 p M arg).1.was := by
  subst hM
  obtain ⟨hb, h | h | h⟩ := h
  · exact absurd hc h.1
  · rw [ho] at h
    exact absurd h.2.1 (by decide)
  · obtain ⟨-, -, rv, uv, sv, he, h1, h2, h3⟩ := h
    obtain ⟨ra, rc, hr, -⟩ := id h1
    obtain ⟨ua, uc, hu, -⟩ := id h2
    obtain ⟨sa, sc, hs, -⟩ := id h3
    subst hr; subst hu; subst hs
    exact ⟨ra, rc, ua, uc, sa, sc, he, hb, h1, h2, h3⟩
theorem pE_lies (w : World) : SlF ((w.alloc (.cells #[.int .i64 1, .int .i64 0, .int .i64 5, .int .i64 0, .int .i64 15, .int .i64 0, .int .i64 0, .int .i64 0] 60)).alloc (.cells #[.slice (some ⟨w.heap.size, 0, none⟩) 2 2] 58)) (.slice (some ⟨w.heap.size + 1, 0, none⟩) 1 1) pE.fs := by
  have h0 := heap_alloc2_old w (.cells #[.int .i64 1, .int .i64 0, .int .i64 5, .int .i64 0, .int .i64 15, .int .i64 0, .int .i64 0, .int .i64 0] 60) (.cells #[.slice (some ⟨w.heap.size, 0, none⟩) 2 2] 58)
  have h1 := heap_alloc2_new w (.cells #[.int .i64 1, .int .i64 0, .int .i64 5, .int .i64 0, .int .i64 15, .int .i64 0, .int .i64 0, .int .i64 0] 60) (.cells #[.slice (some ⟨w.heap.size, 0, none⟩) 2 2] 58)
  refine ⟨_, _, rfl, fun k hk => ?_⟩
  obtain rfl : k = 0 := by simp [pE] at hk; exact hk
  refine ⟨_, _, .slice (some ⟨w.heap.size, 0, none⟩) 2 2, rfl, by rw [cell_of_row _ _ _ _ _ _ h1]; rfl, ?_⟩
  refine ⟨_, _, rfl, fun j hj => ?_⟩
  have hj2 : j < 2 := hj
  rcases (by omega : j = 0 ∨ j = 1) with rfl | rfl
  · refine ⟨_, _, rfl, ?_⟩
    constructor <;> rw [cell_of_row _ _ _ _ _ _ h0] <;> rfl
  · refine ⟨_, _, rfl, ?_⟩
    constructor <;> rw [cell_of_row _ _ _ _ _ _ h0] <;> rfl
theorem awake_any (w : World) (hT : Tab w) : Calls Tryd.prog 8 #[] w fun e w' => e = .returned (.bool true) ∧ Below w.heap.size w w' := by
  have hb1 := below_alloc (below_alloc (Below.refl w.heap.size w) (.cells #[.int .i64 1, .int .i64 0, .int .i64 5, .int .i64 0, .int .i64 15, .int .i64 0, .int .i64 0, .int .i64 0] 60)) (.cells #[.slice (some ⟨w.heap.size, 0, none⟩) 2 2] 58)
  have h1 := Run_any pE _ 1 100 _ (hT.below hb1) (pE_lies w) (by simp [pE]) (by simp [pE])
  obtain ⟨r1, r2, r3, r4, r5⟩ := pE_run
  have H1 : Hid (Calls Tryd.prog 10 #[.agg #[.slice (some ⟨w.heap.size + 1, 0, none⟩) 1 1, .int .i64 0, .int .i64 0, .int .i64 9], .int .i64 1, .int .i64 100] ((w.alloc (.cells #[.int .i64 1, .int .i64 0, .int .i64 5, .int .i64 0, .int .i64 15, .int .i64 0, .int .i64 0, .int .i64 0] 60)).alloc (.cells #[.slice (some ⟨w.heap.size, 0, none⟩) 2 2] 58)) fun e w' => ∃ ra rc ua un uc sa sn sc, ∃ fk : Int, e = .returned (.tuple #[.agg #[.int .i64 1, .int .i64 5, .slice ra 1 rc, .slice ua un uc, .slice sa sn sc, .int .i64 2, .int .i64 fk, .bool false], .int .i64 0]) ∧ Below w.heap.size w w') := by
    refine h1.mono ?_
    intro e w' hq
    obtain ⟨ra, rc, ua, uc, sa, sc, he, hb, -, -, -⟩ := hq.good (M := 100) (by decide) pE_code r1
    rw [r2, r3, r4, r5] at he
    exact ⟨ra, rc, ua, _, uc, sa, _, sc, _, he, below_then hb1 hb⟩
  clear h1 r1 r2 r3 r4 r5
  go_enter Tryd.func8, Tryd.ntmps8
  go_wp2_with fail
  refine H1.out.mono ?_
  rintro e w1 ⟨ra, rc, ua, un, uc, sa, sn, sc, fk, rfl, hb2⟩
  clear H1
  go_wp2_with fail
  go_ret
  exact ⟨rfl, below_alloc hb2 _⟩
end Go.Proofs.YtamhlcdbmhhcpaaDoor
namespace Go.Proofs.YtamhlcdbmhhcpaaDoor
open Go.RowKit
open C2 (In Pr SlF SlI InsAt Tab BoxedP still_of_below below_then below_alloc Still)
open K6 (Ky)
open V5 (checkF SlN)

def allocs (w : World) : List Obj → World
  | [] => w
  | o :: os => allocs (w.alloc o) os
theorem allocs_below : ∀ (os : List Obj) (a w : World), Below a.heap.size a w → Below a.heap.size a (allocs w os)
  | [], _, _, h => h
  | o :: os, a, w, h => allocs_below os a (w.alloc o) (below_alloc h o)
theorem allocs_at : ∀ (os : List Obj) (w : World) (i : Nat) (o : Obj), os[i]? = some o → (allocs w os).heap[w.heap.size + i]? = some o
  | [], _, _, _, h => by simp at h
  | a :: os, w, 0, o, h => by
    simp at h
    subst h
    have hb := allocs_below os (w.alloc a) (w.alloc a) (Below.refl _ _)
    rw [Nat.add_zero]
    show (allocs (w.alloc a) os).heap[w.heap.size]? = some a
    rw [hb.block _ (by simp)]
    exact heap_alloc_new _ _
  | a :: os, w, i + 1, o, h => by
    have h2 := allocs_at os (w.alloc a) i o (by simpa using h)
    rw [show (w.alloc a).heap.size + i = w.heap.size + (i + 1) by simp; omega] at h2
    exact h2
def inC (x : In) : List Value := [.int .i64 x.o, .int .i64 x.a, .int .i64 x.b, .int .i64 x.c]
theorem slI_blk {w : World} {g cap : Nat} {cs : Array Value} {T : TypeId} {fz : Nat × Nat} {xs : List In} (h : w.heap[g]? = some (.cells cs T fz)) (hc : cs.toList = (xs.map inC).flatten) : SlI w (.slice (some ⟨g, 0, none⟩) xs.length cap) xs := by
  refine ⟨_, _, rfl, fun k hk => ⟨g, 0, rfl, ?_⟩⟩
  have e : xs = xs.take k ++ (xs[k] :: xs.drop (k + 1)) := by rw [← List.drop_eq_getElem_cons hk, List.take_append_drop]
  have hl : ∀ l : List In, ((l.map inC).flatten).length = l.length * 4 := fun l => by
    induction l with
    | nil => rfl
    | cons a l ih => simp only [List.map_cons, List.flatten_cons, List.length_append, ih, List.length_cons]; simp [inC]; omega
  have hcell : ∀ j, j < 4 → w.cell? ⟨g, k * 4 + j, none⟩ = (inC xs[k])[j]? := fun j hj => by
    rw [cell_of_row _ _ _ _ _ _ h, ← Array.getElem?_toList, hc]
    conv => lhs; rw [e]
    rw [List.map_append, List.flatten_append, List.map_cons, List.flatten_cons, List.getElem?_append_right (by rw [hl, List.length_take]; omega), hl, List.length_take, show k * 4 + j - min k xs.length * 4 = j by omega, List.getElem?_append_left (by simp [inC]; omega)]
  rw [Nat.zero_add]
  exact ⟨hcell 0 (by omega), hcell 1 (by omega), hcell 2 (by omega), hcell 3 (by omega)⟩
/-- two functions -/
theorem slF_two {w : World} {g g1 g2 c1 c2 cap : Nat} {T T1 T2 : TypeId} {cs1 cs2 : Array Value} {xs ys : List In} (h : w.heap[g]? = some (.cells #[.slice (some ⟨g1, 0, none⟩) xs.length c1, .slice (some ⟨g2, 0, none⟩) ys.length c2] T (0, 0))) (h1 : w.heap[g1]? = some (.cells cs1 T1 (0, 0))) (h2 : w.heap[g2]? = some (.cells cs2 T2 (0, 0))) (k1 : cs1.toList = (xs.map inC).flatten) (k2 : cs2.toList = (ys.map inC).flatten) : SlF w (.slice (some ⟨g, 0, none⟩) 2 cap) [xs, ys] := by
  refine ⟨_, _, rfl, fun k hk => ?_⟩
  have hk2 : k < 2 := hk
  rcases (by omega : k = 0 ∨ k = 1) with rfl | rfl
  · exact ⟨g, 0, _, rfl, by rw [cell_of_row _ _ _ _ _ _ h]; rfl, slI_blk h1 k1⟩
  · exact ⟨g, 0, _, rfl, by rw [cell_of_row _ _ _ _ _ _ h]; rfl, slI_blk h2 k2⟩
end Go.Proofs.YtamhlcdbmhhcpaaDoor
namespace Go.Proofs.YtamhlcdbmhhcpaaDoor
open Go.RowKit
open C2 (In Pr SlF SlI InsAt Tab BoxedP still_of_below below_then below_alloc Still)
open K6 (Ky)
open V5 (checkF SlN)

def cin (xs : List In) : List Value := (xs.map inC).flatten
theorem cin_app (xs ys : List In) : cin (xs ++ ys) = cin xs ++ cin ys := by simp [cin]
theorem infoIns7 : (Tryd.prog.info? 60).map (fun i => (i.zero, i.size, i.bytes)) = some (some (.agg #[.int .i64 0, .int .i64 0, .int .i64 0, .int .i64 0]), 4, 32) := by kernel_rfl
theorem cin_one (xs : List In) : ∀ u ∈ cin xs, u.oneCell' = true := by
  intro u hu
  simp only [cin, List.mem_flatten, List.mem_map] at hu
  obtain ⟨l, ⟨x, -, rfl⟩, hl⟩ := hu
  simp [inC] at hl
  rcases hl with rfl | rfl | rfl | rfl <;> rfl
theorem own_slI7 {w : World} {base : Nat} {v : Value} {xs : List In} (h : w.ownsRow base 60 4 v xs.length (cin xs)) : SlI w v xs := by
  rcases h.2 with ⟨rfl, h0⟩ | ⟨g, cap, cur, rfl, hb, hg, hn, hc, hs, ht⟩
  · obtain rfl : xs = [] := List.eq_nil_of_length_eq_zero h0
    exact ⟨none, 0, rfl, fun k hk => by simp at hk⟩
  · refine ⟨_, _, rfl, fun k hk => ⟨g, 0, rfl, ?_⟩⟩
    have e : xs = xs.take k ++ (xs[k] :: xs.drop (k + 1)) := by rw [← List.drop_eq_getElem_cons hk, List.take_append_drop]
    have hl : ∀ l : List In, (cin l).length = l.length * 4 := fun l => by
      induction l with
      | nil => rfl
      | cons a l ih => simp only [cin, List.map_cons, List.flatten_cons, List.length_append, List.length_cons] at ih ⊢; rw [ih]; simp [inC]; omega
    have hcell : ∀ j, j < 4 → w.cell? ⟨g, k * 4 + j, none⟩ = (inC xs[k])[j]? := fun j hj => by
      rw [h.cellAt (k * 4 + j) (by omega)]
      conv => lhs; rw [e]
      rw [cin_app, List.getElem?_append_right (by rw [hl, List.length_take]; omega), hl, List.length_take, show k * 4 + j - min k xs.length * 4 = j by omega]
      show ((xs[k] :: xs.drop (k + 1)).map inC).flatten[j]? = _
      rw [List.map_cons, List.flatten_cons, List.getElem?_append_left (by simp [inC]; omega)]
    rw [Nat.zero_add]
    exact ⟨hcell 0 (by omega), hcell 1 (by omega), hcell 2 (by omega), hcell 3 (by omega)⟩
def fkL (w : Nat) (i : Nat) : List In := (List.range i).map fun (j : Nat) => ⟨9, (j : Int), if j = w then 2 else 1, 0⟩
def jnL (j : Nat) : List In := ((List.range j).map fun (i : Nat) => ([⟨10, 1, (i : Int), 0⟩, ⟨2, 2, 2, 1⟩] : List In)).flatten
theorem fkL_succ (w i : Nat) : fkL w (i + 1) = fkL w i ++ [⟨9, (i : Int), if i = w then 2 else 1, 0⟩] := by simp [fkL, List.range_succ]
theorem jnL_succ (i : Nat) : jnL (i + 1) = jnL i ++ [⟨10, 1, (i : Int), 0⟩, ⟨2, 2, 2, 1⟩] := by simp [jnL, List.range_succ]
theorem fkL_len (w i : Nat) : (fkL w i).length = i := by simp [fkL]
theorem jnL_len : ∀ i, (jnL i).length = 2 * i
  | 0 => rfl
  | i + 1 => by rw [jnL_succ, List.length_append, jnL_len i]; simp; omega
theorem joins_code : ∀ k, k < 4 → 1 ≤ k → ∀ w, w < k → ∀ j, j < k + 1 → checkF (joinsP k w j) = 0 := by decide +kernel
theorem joins_run (k w j : Nat) (h4 : k < 4) (h1 : 1 ≤ k) (hw : w < k) (hj : j < k + 1) (fv : Value) (W : World) (hT : Tab W) (hF : SlF W fv (joinsP k w j).fs) : Calls Tryd.prog 10 #[.agg #[fv, .int .i64 0, .int .i64 1, .int .i64 30], .int .i64 5, .int .i64 200] W fun e w' =>
    ∃ ra rc ua un uc sa sn sc, ∃ h v st : Int, e = .returned (.tuple #[.agg #[.int .i64 h, .int .i64 v, .slice ra (k + 1) rc, .slice ua un uc, .slice sa sn sc, .int .i64 st, .int .i64 k, .bool false], .int .i64 0]) ∧ Below W.heap.size W w' ∧ (w < j → h = 2 ∧ v = 0) ∧ (¬ w < j → h = 1 ∧ v = 5 * j) := by
  have hB := joins_all k h4 h1 w hw j hj
  unfold joinsB at hB
  simp only [Bool.and_eq_true, Bool.not_eq_true', decide_eq_true_eq] at hB
  obtain ⟨⟨⟨o1, o2⟩, o3⟩, o4⟩ := hB
  have hl : (joinsP k w j).fs.length ≤ 1000000 ∧ ∀ f ∈ (joinsP k w j).fs, f.length ≤ 1000000 := by
    have hok := ok_of_check (joins_code k h4 h1 w hw j hj)
    exact ⟨by have := hok.n1; omega, fun f hf => by have := (hok.fn f hf).2.1; omega⟩
  refine (Run_any (joinsP k w j) fv 5 200 W hT hF hl.1 hl.2).mono ?_
  intro e w' hq
  obtain ⟨ra, rc, ua, uc, sa, sc, he, hb, -, -, -⟩ := hq.good (M := 200) (by decide) (joins_code k h4 h1 w hw j hj) o1
  have hran : (ran0 (joinsP k w j) 200 5).length = k + 1 := by
    unfold ran0
    rw [putR_length]
    exact congrArg (· + 1) o2
  rw [hran, show (ev0 (joinsP k w j) 200 5).1.forks = k from o3] at he
  refine ⟨ra, rc, ua, _, uc, sa, _, sc, _, _, _, he, hb, fun h => ?_, fun h => ?_⟩
  · rw [if_pos h] at o4
    simpa using o4
  · rw [if_neg h] at o4
    simpa using o4
theorem cin_new (w : World) (cs : Array Value) (T : TypeId) (xs : List In) (h : cs.toList = cin xs) : ∀ j u, (cin xs)[j]? = some u → (w.alloc (.cells cs T)).cell? ((⟨w.heap.size, 0, none⟩ : Addr).add j) = some u := by
  intro j u hj
  have e : (⟨w.heap.size, 0, none⟩ : Addr).add j = ⟨w.heap.size, j, none⟩ := by simp [Addr.add]; intro h; exact h.symm
  rw [e, cell_of_row _ _ _ _ _ _ (heap_alloc_new _ _), ← Array.getElem?_toList, h, hj]
theorem joins_lies {w0 wL : World} {k w j g cap : Nat} (ho : wL.ownsRow w0.heap.size 60 4 (.slice (some ⟨g, 0, none⟩) (k + 2 * j + 1) cap) (k + 2 * j + 1) (cin (fkL w k ++ jnL j ++ [⟨15, 2, 0, 0⟩]))) :
    SlF (allocs wL [.cells #[.int .i64 15, .int .i64 0, .int .i64 0, .int .i64 0] 60, .cells #[.int .i64 5, .int .i64 0, .int .i64 0, .int .i64 7, .int .i64 15, .int .i64 0, .int .i64 0, .int .i64 0] 60, .cells #[.slice (some ⟨g, 0, none⟩) (k + 2 * j + 1) cap, .slice (some ⟨wL.heap.size, 0, none⟩) 1 1, .slice (some ⟨wL.heap.size + 1, 0, none⟩) 2 2] 58, .cells #[.slice (some ⟨wL.heap.size + 2, 0, none⟩) 3 3, .int .i64 0, .int .i64 1, .int .i64 30] 24]) (.slice (some ⟨wL.heap.size + 2, 0, none⟩) 3 3) (joinsP k w j).fs := by
  have hlen : (fkL w k ++ jnL j ++ [(⟨15, 2, 0, 0⟩ : In)]).length = k + 2 * j + 1 := by simp [fkL_len, jnL_len]; omega
  have hI : SlI wL (.slice (some ⟨g, 0, none⟩) (k + 2 * j + 1) cap) (fkL w k ++ jnL j ++ [⟨15, 2, 0, 0⟩]) := own_slI7 (base := w0.heap.size) (by rw [hlen]; exact ho)
  have hbel := allocs_below [.cells #[.int .i64 15, .int .i64 0, .int .i64 0, .int .i64 0] 60, .cells #[.int .i64 5, .int .i64 0, .int .i64 0, .int .i64 7, .int .i64 15, .int .i64 0, .int .i64 0, .int .i64 0] 60, .cells #[.slice (some ⟨g, 0, none⟩) (k + 2 * j + 1) cap, .slice (some ⟨wL.heap.size, 0, none⟩) 1 1, .slice (some ⟨wL.heap.size + 1, 0, none⟩) 2 2] 58, .cells #[.slice (some ⟨wL.heap.size + 2, 0, none⟩) 3 3, .int .i64 0, .int .i64 1, .int .i64 30] 24] wL wL (Below.refl _ _)
  have a0 := allocs_at [.cells #[.int .i64 15, .int .i64 0, .int .i64 0, .int .i64 0] 60, .cells #[.int .i64 5, .int .i64 0, .int .i64 0, .int .i64 7, .int .i64 15, .int .i64 0, .int .i64 0, .int .i64 0] 60, .cells #[.slice (some ⟨g, 0, none⟩) (k + 2 * j + 1) cap, .slice (some ⟨wL.heap.size, 0, none⟩) 1 1, .slice (some ⟨wL.heap.size + 1, 0, none⟩) 2 2] 58, .cells #[.slice (some ⟨wL.heap.size + 2, 0, none⟩) 3 3, .int .i64 0, .int .i64 1, .int .i64 30] 24] wL
  have h0 := a0 0 _ rfl
  have h1 := a0 1 _ rfl
  have h2 := a0 2 _ rfl
  have hI2 := hI.still (still_of_below hbel)
  generalize allocs wL _ = wN at *
  refine ⟨_, _, rfl, fun i hi => ?_⟩
  have hi2 : i < 3 := hi
  rcases (by omega : i = 0 ∨ i = 1 ∨ i = 2) with rfl | rfl | rfl
  · exact ⟨_, 0, _, rfl, by rw [cell_of_row _ _ _ _ _ _ h2]; rfl, hI2⟩
  · exact ⟨_, 0, _, rfl, by rw [cell_of_row _ _ _ _ _ _ h2]; rfl, slI_blk h0 rfl⟩
  · exact ⟨_, 0, _, rfl, by rw [cell_of_row _ _ _ _ _ _ h2]; rfl, slI_blk h1 rfl⟩
end Go.Proofs.YtamhlcdbmhhcpaaDoor
namespace Go.Proofs.YtamhlcdbmhhcpaaDoor
open Go.RowKit
open C2 (In Pr SlF SlI InsAt Tab BoxedP still_of_below below_then below_alloc Still)
open K6 (Ky)
open V5 (checkF SlN)

def hdT (m : Int) : List In := [⟨1, 1, m, 0⟩, ⟨4, 2, 0, 1⟩]
def fkT (j : Int) (i : Nat) : List In := (List.range i).map fun (x : Nat) => ⟨9, (x : Int), j, 2⟩
def jnT (i : Nat) : List In := ((List.range i).map fun (x : Nat) => ([⟨10, 3, (x : Int), 0⟩, ⟨2, 0, 0, 3⟩] : List In)).flatten
theorem fkT_succ (j : Int) (i : Nat) : fkT j (i + 1) = fkT j i ++ [⟨9, (i : Int), j, 2⟩] := by simp [fkT, List.range_succ]
theorem jnT_succ (i : Nat) : jnT (i + 1) = jnT i ++ [⟨10, 3, (i : Int), 0⟩, ⟨2, 0, 0, 3⟩] := by simp [jnT, List.range_succ]
theorem treeF_eq (w : Nat) (m : Int) (j : Nat) : treeF w m j = hdT m ++ fkT j w ++ jnT w ++ [⟨15, 0, 0, 0⟩] := rfl
theorem fkT_len (j : Int) (i : Nat) : (fkT j i).length = i := by simp [fkT]
theorem jnT_len : ∀ i, (jnT i).length = 2 * i
  | 0 => rfl
  | i + 1 => by rw [jnT_succ, List.length_append, jnT_len i]; simp; omega
theorem treeF_len (w : Nat) (m : Int) (j : Nat) : (treeF w m j).length = 3 + 3 * w := by
  rw [treeF_eq]
  simp [hdT, fkT_len, jnT_len]
  omega
/-- a fork's function turned -/
def turnI (j : Int) (x : In) : In := if x.o = 9 then ⟨x.o, x.a, j, x.c⟩ else x
theorem turn_tree {w : Nat} (h1 : 1 ≤ w) (h3 : w ≤ 3) (m : Int) (j : Nat) : (treeF w m 1).map (turnI j) = treeF w m j := by
  rcases wide_cases h1 h3 with rfl | rfl | rfl <;> rfl
/-- the first so many turned -/
def turnL (j : Int) (F : List In) (i : Nat) : List In := (F.take i).map (turnI j) ++ F.drop i
theorem turnL_zero (j : Int) (F : List In) : turnL j F 0 = F := by simp [turnL]
theorem turnL_all (j : Int) (F : List In) : turnL j F F.length = F.map (turnI j) := by simp [turnL]
theorem turnL_len (j : Int) (F : List In) (i : Nat) : (turnL j F i).length = F.length := by
  simp only [turnL, List.length_append, List.length_map, List.length_take, List.length_drop]
  omega
theorem turnL_at (j : Int) (F : List In) {i : Nat} (h : i < F.length) : turnL j F i = (F.take i).map (turnI j) ++ F[i] :: F.drop (i + 1) := by
  rw [turnL, List.drop_eq_getElem_cons h]
theorem turnL_succ (j : Int) (F : List In) {i : Nat} (h : i < F.length) : turnL j F (i + 1) = (F.take i).map (turnI j) ++ turnI j F[i] :: F.drop (i + 1) := by
  rw [turnL, List.take_succ_eq_append_getElem h, List.map_append, List.append_assoc]
  rfl
/-- a row that was laid whole is one's own -/
theorem own_blk7 {w : World} {base g n s : Nat} {T : TypeId} {cs : Array Value} {xs : List Value} (h : w.heap[g]? = some (.cells cs T (0, 0))) (hb : base ≤ g) (hx : cs.toList = xs) (hn : xs.length = n * s) (h1 : n ≤ 1000) : w.ownsRow base T s (.slice (some ⟨g, 0, none⟩) n n) n xs := by
  have hcs : cs.size = n * s := by rw [← Array.length_toList, hx, hn]
  exact ⟨hn, .inr ⟨g, n, cs, rfl, hb, h, Nat.le_refl _, by unfold maxLen; omega, hcs, by rw [hx, ← hn, List.take_length]⟩⟩
theorem cin_len (l : List In) : (cin l).length = l.length * 4 := by
  induction l with
  | nil => rfl
  | cons a l ih => simp only [cin, List.map_cons, List.flatten_cons, List.length_append, List.length_cons] at ih ⊢; rw [ih]; simp [inC]; omega
theorem cin_mid (A : List In) (x : In) (Y : List In) : cin (A ++ x :: Y) = cin A ++ (inC x ++ cin Y) := by simp [cin]
/-- an instruction's second operand turned -/
theorem cin_setB (A : List In) (x : In) (Y : List In) (b : Int) : (cin (A ++ x :: Y)).set (A.length * 4 + 2) (.int .i64 b) = cin (A ++ { x with b := b } :: Y) := by
  rw [cin_mid, cin_mid, List.set_append_right _ _ (by rw [cin_len]; omega), cin_len, show A.length * 4 + 2 - A.length * 4 = 2 by omega]
  rfl
/-- rows of instructions stay -/
def KeepI (w w' : World) : Prop := ∀ (g : Nat) (cs : Array Value) (fz : Nat × Nat), w.heap[g]? = some (.cells cs 60 fz) → w'.heap[g]? = w.heap[g]?
theorem KeepI.trans {a b c : World} (h : KeepI a b) (k : KeepI b c) : KeepI a c := fun g cs fz e => by
  have e1 := h g cs fz e
  rw [k g cs fz (by rw [e1]; exact e), e1]
theorem KeepI.below {a b : World} (h : Below a.heap.size a b) : KeepI a b := fun g _ _ e => h.block g (lt_of_block e)
theorem KeepI.grown {a b : World} {B T s n : Nat} {v : Value} {xs : List Value} (ho : a.ownsRow B T s v n xs) (hne : T ≠ 60) (hg : a.grownBy b v.ownBlock) : KeepI a b := fun g _ _ e => hg.block g (lt_of_block e) fun e2 => own_typ ho e hne e2.symm
theorem KeepI.set {a : World} {b : Nat} {cs : Array Value} {T : TypeId} {fz : Nat × Nat} (hb : a.heap[b]? = some (.cells cs T fz)) (hne : T ≠ 60) (f : Nat) (v : Value) : KeepI a (a.setCell ⟨b, f, none⟩ v) := fun g _ _ e => Below.heap_setCell _ _ _ _ (by
  rintro rfl
  rw [hb] at e
  simp at e
  exact hne e.2.1)
theorem own_keep {w w' : World} {B n : Nat} {v : Value} {xs : List Value} (h : w.ownsRow B 60 4 v n xs) (hk : KeepI w w') : w'.ownsRow B 60 4 v n xs := by
  refine own_same7 h fun g hg => ?_
  rcases h.2 with ⟨rfl, _⟩ | ⟨g1, c1, cur1, rfl, _, hg1, _⟩
  · simp [Value.ownBlock] at hg
  · simp [Value.ownBlock] at hg
    subst hg
    exact hk _ _ _ hg1
/-- functions in rows of one's own -/
structure FO (B : Nat) (w : World) (vals : List Value) (fs : List (List In)) : Prop where
  len : vals.length = fs.length
  own : ∀ i (h1 : i < vals.length) (h2 : i < fs.length), w.ownsRow B 60 4 vals[i] fs[i].length (cin fs[i])
theorem FO.keep {B : Nat} {w w' : World} {vals : List Value} {fs : List (List In)} (h : FO B w vals fs) (hk : KeepI w w') : FO B w' vals fs := ⟨h.len, fun i h1 h2 => own_keep (h.own i h1 h2) hk⟩
theorem FO.snoc {B : Nat} {w : World} {vals : List Value} {fs : List (List In)} (h : FO B w vals fs) {v : Value} {f : List In} (hf : w.ownsRow B 60 4 v f.length (cin f)) : FO B w (vals ++ [v]) (fs ++ [f]) := by
  refine ⟨by simp [h.len], fun i h1 h2 => ?_⟩
  by_cases hi : i < vals.length
  · have h3 : i < fs.length := by rw [← h.len]; exact hi
    have e1 : (vals ++ [v])[i] = vals[i] := List.getElem_append_left hi
    have e2 : (fs ++ [f])[i] = fs[i] := List.getElem_append_left h3
    rw [e1, e2]
    exact h.own i hi h3
  · have hlen := h.len
    obtain rfl : i = vals.length := by simp at h1; omega
    have e1 : (vals ++ [v])[vals.length] = v := by simp
    have e2 : (fs ++ [f])[vals.length]'h2 = f := by simp [hlen]
    rw [e1, e2]
    exact hf
theorem FO.slF {B : Nat} {w : World} {vals : List Value} {fs : List (List In)} (h : FO B w vals fs) {fg fc : Nat} (hr : w.ownsRow B 58 1 (.slice (some ⟨fg, 0, none⟩) fs.length fc) fs.length vals) : SlF w (.slice (some ⟨fg, 0, none⟩) fs.length fc) fs := by
  refine ⟨_, _, rfl, fun k hk => ?_⟩
  have hk2 : k < vals.length := by rw [h.len]; exact hk
  refine ⟨fg, 0, vals[k], rfl, ?_, own_slI7 (h.own k hk2 hk)⟩
  rw [Nat.zero_add, hr.cellAt k (by omega)]
  simp [hk2]
/-- the functions of a tree, one by one -/
def gF (w d : Nat) (m : Int) (j : Nat) : List In := if j = d ∧ j ≠ 0 then [⟨15, 0, 0, 0⟩] else treeF w m (j + 1)
def fsT (w d : Nat) (m : Int) (n : Nat) : List (List In) := (List.range n).map (gF w d m)
theorem fsT_succ (w d : Nat) (m : Int) (n : Nat) : fsT w d m (n + 1) = fsT w d m n ++ [gF w d m n] := by simp [fsT, List.range_succ]
theorem fsT_tree {w d : Nat} (hd : 1 ≤ d) (m : Int) : fsT w d m (d + 1) = (treeP w d m).fs := by
  rw [fsT_succ]
  have e1 : gF w d m d = [⟨15, 0, 0, 0⟩] := by unfold gF; rw [if_pos ⟨rfl, by omega⟩]
  have e2 : fsT w d m d = (List.range d).map fun j => treeF w m (j + 1) := by
    unfold fsT
    refine List.map_congr_left fun j hj => ?_
    have := List.mem_range.1 hj
    unfold gF
    rw [if_neg (by omega)]
  rw [e1, e2]
  rfl
theorem fsT_one {w : Nat} (m : Int) : fsT w 0 m 1 = [treeF w m 1] := rfl
theorem turn_cell (j : Int) (F : List In) {i : Nat} (h : i < F.length) {k : Nat} (hk : k < 4) : (cin (turnL j F i))[i * 4 + k]? = (inC F[i])[k]? := by
  have hA : ((F.take i).map (turnI j)).length = i := by rw [List.length_map, List.length_take]; omega
  rw [turnL_at j F h, cin_mid, List.getElem?_append_right (by rw [cin_len, hA]; omega), cin_len, hA, show i * 4 + k - i * 4 = k by omega, List.getElem?_append_left (by simp [inC]; omega)]
theorem turn_set (j : Int) (F : List In) {i : Nat} (h : i < F.length) (h9 : F[i].o = 9) : (cin (turnL j F i)).set (i * 4 + 2) (.int .i64 j) = cin (turnL j F (i + 1)) := by
  have hA : ((F.take i).map (turnI j)).length = i := by rw [List.length_map, List.length_take]; omega
  have e := cin_setB ((F.take i).map (turnI j)) F[i] (F.drop (i + 1)) j
  rw [hA] at e
  rw [turnL_at j F h, e, turnL_succ j F h]
  have e2 : turnI j F[i] = { F[i] with b := j } := by unfold turnI; rw [if_pos h9]
  rw [e2]
theorem turn_no (j : Int) (F : List In) {i : Nat} (h : i < F.length) (h9 : F[i].o ≠ 9) : turnL j F (i + 1) = turnL j F i := by
  rw [turnL_at j F h, turnL_succ j F h]
  have e2 : turnI j F[i] = F[i] := by unfold turnI; rw [if_neg h9]
  rw [e2]
theorem own_mono7 {w : World} {B B' e s n : Nat} {v : Value} {xs : List Value} (h : w.ownsRow B e s v n xs) (hb : B' ≤ B) : w.ownsRow B' e s v n xs := by
  refine ⟨h.1, ?_⟩
  rcases h.2 with h0 | ⟨g, cap, cur, h1, h2, h3⟩
  · exact .inl h0
  · exact .inr ⟨g, cap, cur, h1, Nat.le_trans hb h2, h3⟩
/-- one function more -/
theorem tree_more {w wv w7 : World} {fg0 fg fc fg' fc' dd D : Nat} {vals : List Value} {fs : List (List In)} {v : Value} {f : List In} {F : List Value} {g7 cap7 N : Nat} (hbw : w.heap.size ≤ fg0)
    (hbx : wv.heap[fg0 + 1]? = some (.cells #[.slice (some ⟨fg, 0, none⟩) dd fc, .int .i64 0, .int .i64 D, .int .i64 100] 24 (0, 0))) (hFr : wv.ownsRow w.heap.size 58 1 (.slice (some ⟨fg, 0, none⟩) dd fc) dd vals) (hFo : FO w.heap.size wv vals fs) (hv : wv.ownsRow w.heap.size 60 4 v f.length (cin f)) (hf : wv.ownsRow w.heap.size 60 4 (.slice (some ⟨g7, 0, none⟩) N cap7) N F) (hB : Below w.heap.size w wv)
    (hR : wv.heap[w.heap.size]? = some (.cells #[.slice none 0 0, .int .i64 0, .int .i64 0, .int .i64 0] 24 (0, 0)))
    (hg : wv.grownBy w7 (Value.slice (some ⟨fg, 0, none⟩) dd fc).ownBlock) (ho : w7.ownsRow w.heap.size 58 1 (.slice (some ⟨fg', 0, none⟩) (dd + 1) fc') (dd + 1) (vals ++ [v])) :
    w7.cell? ⟨fg0 + 1, 0, none⟩ = some (.slice (some ⟨fg, 0, none⟩) dd fc) ∧ w7.frozen? ⟨fg0 + 1, 0, none⟩ = false ∧
    (w7.setCell ⟨fg0 + 1, 0, none⟩ (.slice (some ⟨fg', 0, none⟩) (dd + 1) fc')).heap[fg0 + 1]? = some (.cells #[.slice (some ⟨fg', 0, none⟩) (dd + 1) fc', .int .i64 0, .int .i64 D, .int .i64 100] 24 (0, 0)) ∧
    (w7.setCell ⟨fg0 + 1, 0, none⟩ (.slice (some ⟨fg', 0, none⟩) (dd + 1) fc')).ownsRow w.heap.size 58 1 (.slice (some ⟨fg', 0, none⟩) (dd + 1) fc') (dd + 1) (vals ++ [v]) ∧
    FO w.heap.size (w7.setCell ⟨fg0 + 1, 0, none⟩ (.slice (some ⟨fg', 0, none⟩) (dd + 1) fc')) (vals ++ [v]) (fs ++ [f]) ∧
    (w7.setCell ⟨fg0 + 1, 0, none⟩ (.slice (some ⟨fg', 0, none⟩) (dd + 1) fc')).ownsRow w.heap.size 60 4 (.slice (some ⟨g7, 0, none⟩) N cap7) N F ∧
    Below w.heap.size w (w7.setCell ⟨fg0 + 1, 0, none⟩ (.slice (some ⟨fg', 0, none⟩) (dd + 1) fc')) ∧
    (w7.setCell ⟨fg0 + 1, 0, none⟩ (.slice (some ⟨fg', 0, none⟩) (dd + 1) fc')).heap[w.heap.size]? = some (.cells #[.slice none 0 0, .int .i64 0, .int .i64 0, .int .i64 0] 24 (0, 0)) := by
  have hb7 := (hg.block (fg0 + 1) (lt_of_block hbx) (fun e => own_typ hFr hbx (by decide) e.symm)).trans hbx
  have hK : KeepI wv (w7.setCell ⟨fg0 + 1, 0, none⟩ (.slice (some ⟨fg', 0, none⟩) (dd + 1) fc')) := (KeepI.grown hFr (by decide) hg).trans (KeepI.set hb7 (by decide) _ _)
  have hR7 := (hg.block w.heap.size (lt_of_block hR) (fun e => own_typ hFr hR (by decide) e.symm)).trans hR
  refine ⟨cell_of_row _ _ _ _ _ _ hb7, frozen_of_row _ _ _ _ _ hb7, ?_, own_same7 ho fun g hgg => Below.heap_setCell _ _ _ _ (by rintro rfl; exact own_typ ho hb7 (by decide) hgg), (hFo.snoc hv).keep hK, own_keep hf hK, ?_, (Below.heap_setCell _ _ _ _ (by simp only; omega)).trans hR7⟩
  · rw [heap_setCell_same _ _ _ _ _ _ hb7]; rfl
  · exact ((hB.grown hg hB.size fun k hk => (hFr.lt k hk).1).setCell (p := ⟨fg0 + 1, 0, none⟩) (by simp only; omega) _)
theorem infoSl7 : (Tryd.prog.info? 58).map (fun i => (i.zero, i.size, i.bytes)) = some (some (.slice none 0 0), 1, 24) := by kernel_rfl
def putP (w : World) (b : Nat) (v0 v1 v2 v3 : Value) : World := (((w.setCell ⟨b, 0, none⟩ v0).setCell ⟨b, 1, none⟩ v1).setCell ⟨b, 2, none⟩ v2).setCell ⟨b, 3, none⟩ v3
theorem putP_other {w : World} {b k : Nat} (hk : k ≠ b) (v0 v1 v2 v3 : Value) : (putP w b v0 v1 v2 v3).heap[k]? = w.heap[k]? := by
  unfold putP
  rw [Below.heap_setCell _ _ _ _ hk, Below.heap_setCell _ _ _ _ hk, Below.heap_setCell _ _ _ _ hk, Below.heap_setCell _ _ _ _ hk]
theorem putP_box {w : World} {b : Nat} {T : TypeId} {x0 x1 x2 x3 : Value} (h : w.heap[b]? = some (.cells #[x0, x1, x2, x3] T (0, 0))) (v0 v1 v2 v3 : Value) : (putP w b v0 v1 v2 v3).heap[b]? = some (.cells #[v0, v1, v2, v3] T (0, 0)) := by
  unfold putP
  have h0 : (w.setCell ⟨b, 0, none⟩ v0).heap[b]? = some (.cells #[v0, x1, x2, x3] T (0, 0)) := by rw [heap_setCell_same _ _ _ _ _ _ h]; rfl
  have h1 : ((w.setCell ⟨b, 0, none⟩ v0).setCell ⟨b, 1, none⟩ v1).heap[b]? = some (.cells #[v0, v1, x2, x3] T (0, 0)) := by rw [heap_setCell_same _ _ _ _ _ _ h0]; rfl
  have h2 : (((w.setCell ⟨b, 0, none⟩ v0).setCell ⟨b, 1, none⟩ v1).setCell ⟨b, 2, none⟩ v2).heap[b]? = some (.cells #[v0, v1, v2, x3] T (0, 0)) := by rw [heap_setCell_same _ _ _ _ _ _ h1]; rfl
  rw [heap_setCell_same _ _ _ _ _ _ h2]; rfl
theorem putP_below {S : Nat} {a w : World} {b : Nat} (h : Below S a w) (hb : S ≤ b) (v0 v1 v2 v3 : Value) : Below S a (putP w b v0 v1 v2 v3) := (((h.setCell (p := ⟨b, 0, none⟩) hb v0).setCell (p := ⟨b, 1, none⟩) hb v1).setCell (p := ⟨b, 2, none⟩) hb v2).setCell (p := ⟨b, 3, none⟩) hb v3
end Go.Proofs.YtamhlcdbmhhcpaaDoor
namespace Go.Proofs.YtamhlcdbmhhcpaaDoor
open Go.RowKit
open C2 (In Pr SlF SlI InsAt Tab BoxedP still_of_below below_then below_alloc Still)
open K6 (Ky)
open V5 (checkF SlN)

theorem grown7 {w a b : World} (h : Below w.heap.size w a) {v : Value} {e : TypeId} {s n : Nat} {xs : List Value} (ho : a.ownsRow w.heap.size e s v n xs) (hg : a.grownBy b v.ownBlock) : Below w.heap.size w b := h.grown hg h.size fun k hk => (ho.lt k hk).1
end Go.Proofs.YtamhlcdbmhhcpaaDoor
namespace Go.Proofs.YtamhlcdbmhhcpaaDoor
open Go.RowKit
open C2 (In Pr SlF SlI InsAt Tab BoxedP still_of_below below_then below_alloc Still)
open K6 (Ky)
open V5 (checkF SlN)

set_option maxHeartbeats 4000000 in
set_option maxRecDepth 8000 in
theorem Tree_any (W D : Nat) (m : Int) (hW1 : 1 ≤ W) (hW3 : W ≤ 3) (hD : D ≤ 3) (w : World) : Calls Tryd.prog 18 #[.int .i64 W, .int .i64 D, .int .i64 m] w fun e w' => ∃ fv, e = .returned (.agg #[fv, .int .i64 0, .int .i64 D, .int .i64 100]) ∧ SlF w' fv (fsT W D m (D + 1)) ∧ Below w.heap.size w w' := by
  obtain ⟨i0, hi, hz0, hz1, hz2⟩ := info_parts infoIns7
  obtain ⟨s0, si, sz0, sz1, sz2⟩ := info_parts infoSl7
  have hO0 : ((w.alloc (.cells #[.slice none 0 0, .int .i64 0, .int .i64 0, .int .i64 0] 24)).alloc (.cells #[.int .i64 1, .int .i64 1, .int .i64 m, .int .i64 0, .int .i64 4, .int .i64 2, .int .i64 0, .int .i64 1] 60)).ownsRow w.heap.size 60 4 (.slice (some ⟨w.heap.size + 1, 0, none⟩) 2 2) 2 (cin (hdT m)) := own_blk7 (heap_alloc2_new _ _ _) (by omega) rfl rfl (by omega)
  have hB0 := below_alloc (below_alloc (Below.refl w.heap.size w) (.cells #[.slice none 0 0, .int .i64 0, .int .i64 0, .int .i64 0] 24)) (.cells #[.int .i64 1, .int .i64 1, .int .i64 m, .int .i64 0, .int .i64 4, .int .i64 2, .int .i64 0, .int .i64 1] 60)
  have hR0 := heap_alloc2_old w (.cells #[.slice none 0 0, .int .i64 0, .int .i64 0, .int .i64 0] 24) (.cells #[.int .i64 1, .int .i64 1, .int .i64 m, .int .i64 0, .int .i64 4, .int .i64 2, .int .i64 0, .int .i64 1] 60)
  go_enter Tryd.func18, Tryd.ntmps18
  go_wp2_with fail
  go_loopw [7, 8] (fun fv iv wx => ∃ i : Nat, i ≤ W ∧ iv = .int .i64 i ∧ wx.ownsRow w.heap.size 60 4 fv (2 + i) (cin (hdT m ++ fkT 1 i)) ∧ Below w.heap.size w wx ∧ wx.heap[w.heap.size]? = some (.cells #[.slice none 0 0, .int .i64 0, .int .i64 0, .int .i64 0] 24 (0, 0))) (fun _ iv _ => W - (intOf iv).toNat)
  case atStart => exact ⟨0, by omega, rfl, by simpa [fkT] using hO0, hB0, hR0⟩
  case round =>
    obtain ⟨i, hile, rfl, hO, hB, hR⟩ := hrel
    by_cases hlt : i < W
    · have hlti : (i : Int) < (W : Int) := by omega
      have HS : Hid (cin (hdT m ++ fkT 1 (i + 1)) = cin (hdT m ++ fkT 1 i) ++ cin [⟨9, (i : Int), 1, 2⟩]) := by show _ = _; rw [fkT_succ, ← List.append_assoc, cin_app]
      go_wp2_with (at_builtin; refine wpList_append_own _ rfl _ _ 58 rfl w.heap.size 60 i0 _ 4 32 Tryd.underlying58 hi hz0 hz1 hz2 rfl (by decide) _ _ _ rfl (hO.alloc _) ⟨wr.heap.size, 0, none⟩ 1 1 (cin [⟨9, (i : Int), 1, 2⟩]) rfl rfl ?c1 ?c2 ?c3 ?c4 ?c5 ?_)
      case c1 => exact cin_new _ _ _ _ rfl
      case c2 => exact cin_one _
      case c3 => unfold maxLen; omega
      case c4 => omega
      case c5 => have := hB.size; simp; omega
      intro v' w3 hown' hgrow _
      have hB3 := grown7 (below_alloc hB _) (hO.alloc _) hgrow
      have hRa : ∀ o, (wr.alloc o).heap[w.heap.size]? = some (.cells #[.slice none 0 0, .int .i64 0, .int .i64 0, .int .i64 0] 24 (0, 0)) := fun o => (Below.heap_alloc _ _ _ (lt_of_block hR)).trans hR
      have hR3 := (hgrow.block w.heap.size (lt_of_block (hRa _)) (fun e => own_typ hO hR (by decide) e.symm)).trans (hRa _)
      clear hgrow hO hRa hR hB
      go_wp2_with fail
      go_roundw
      case rel => exact ⟨i + 1, by omega, by go_num, by rw [HS.out]; exact hown', hB3, hR3⟩
      case measure => simp [intOf]; omega
    · obtain rfl : i = W := by omega
      clear hlt hile hO0 hB0 hR0
      go_wp2_with fail
      go_loopw [7, 9] (fun fv iv wx => ∃ j : Nat, j ≤ i ∧ iv = .int .i64 j ∧ wx.ownsRow w.heap.size 60 4 fv (2 + i + 2 * j) (cin (hdT m ++ fkT 1 i ++ jnT j)) ∧ Below w.heap.size w wx ∧ wx.heap[w.heap.size]? = some (.cells #[.slice none 0 0, .int .i64 0, .int .i64 0, .int .i64 0] 24 (0, 0))) (fun _ iv _ => i - (intOf iv).toNat)
      case atStart => exact ⟨0, by omega, rfl, by simpa [jnT] using hO, hB, hR⟩
      case round =>
        clear hO hB hR
        obtain ⟨j, hjle, rfl, hO2, hB2, hR⟩ := hrel
        by_cases hlt : j < i
        · have hlti : (j : Int) < (i : Int) := by omega
          have HS : Hid (cin (hdT m ++ fkT 1 i ++ jnT (j + 1)) = cin (hdT m ++ fkT 1 i ++ jnT j) ++ cin [⟨10, 3, (j : Int), 0⟩, ⟨2, 0, 0, 3⟩]) := by show _ = _; rw [jnT_succ, ← List.append_assoc, cin_app]
          go_wp2_with (at_builtin; refine wpList_append_own _ rfl _ _ 58 rfl w.heap.size 60 i0 _ 4 32 Tryd.underlying58 hi hz0 hz1 hz2 rfl (by decide) _ _ _ rfl (hO2.alloc _) ⟨wr.heap.size, 0, none⟩ 2 2 (cin [⟨10, 3, (j : Int), 0⟩, ⟨2, 0, 0, 3⟩]) rfl rfl ?c1 ?c2 ?c3 ?c4 ?c5 ?_)
          case c1 => exact cin_new _ _ _ _ rfl
          case c2 => exact cin_one _
          case c3 => unfold maxLen; omega
          case c4 => omega
          case c5 => have := hB2.size; simp; omega
          intro v' w3 hown' hgrow _
          have hB3 := grown7 (below_alloc hB2 _) (hO2.alloc _) hgrow
          have hRa : ∀ o, (wr.alloc o).heap[w.heap.size]? = some (.cells #[.slice none 0 0, .int .i64 0, .int .i64 0, .int .i64 0] 24 (0, 0)) := fun o => (Below.heap_alloc _ _ _ (lt_of_block hR)).trans hR
          have hR3 := (hgrow.block w.heap.size (lt_of_block (hRa _)) (fun e => own_typ hO2 hR (by decide) e.symm)).trans (hRa _)
          rw [show 2 + i + 2 * j + 2 = 2 + i + 2 * (j + 1) by omega] at hown'
          clear hgrow hO2 hRa hR hB2
          go_wp2_with fail
          go_roundw
          case rel => exact ⟨j + 1, by omega, by go_num, by rw [HS.out]; exact hown', hB3, hR3⟩
          case measure => simp [intOf]; omega
        · obtain rfl : j = i := by omega
          clear hlt hjle
          go_wp2_with (at_builtin; refine wpList_append_own _ rfl _ _ 58 rfl w.heap.size 60 i0 _ 4 32 Tryd.underlying58 hi hz0 hz1 hz2 rfl (by decide) _ _ _ rfl (hO2.alloc _) ⟨wr.heap.size, 0, none⟩ 1 1 (cin [⟨15, 0, 0, 0⟩]) rfl rfl ?c1 ?c2 ?c3 ?c4 ?c5 ?_)
          case c1 => exact cin_new _ _ _ _ rfl
          case c2 => exact cin_one _
          case c3 => unfold maxLen; omega
          case c4 => omega
          case c5 => have := hB2.size; simp; omega
          intro v' w3 hown' hgrow _
          have hB3 := grown7 (below_alloc hB2 _) (hO2.alloc _) hgrow
          have hRa : ∀ o, (wr.alloc o).heap[w.heap.size]? = some (.cells #[.slice none 0 0, .int .i64 0, .int .i64 0, .int .i64 0] 24 (0, 0)) := fun o => (Below.heap_alloc _ _ _ (lt_of_block hR)).trans hR
          have hR3 := (hgrow.block w.heap.size (lt_of_block (hRa _)) (fun e => own_typ hO2 hR (by decide) e.symm)).trans (hRa _)
          clear hgrow hO2 hB2 hRa hR
          obtain ⟨g7, cap7, rfl, -, -⟩ := hown'.form (by omega)
          have e9 : cin (hdT m ++ (fkT 1 j ++ jnT j)) ++ cin [(⟨15, 0, 0, 0⟩ : In)] = cin (treeF j m 1) := by rw [← cin_app, treeF_eq]; simp [List.append_assoc]
          rw [e9] at hown'
          clear e9
          obtain ⟨N, hN⟩ : ∃ N, 2 + j + 2 * j + 1 = N := ⟨_, rfl⟩
          rw [hN] at hown' ⊢
          have HN : Hid (N = 3 + 3 * j ∧ (treeF j m 1).length = N) := ⟨by omega, by rw [treeF_len]; omega⟩
          have hN12 : N ≤ 12 := by omega
          clear hN
          have hbox4 := heap_alloc2_new w3 (.cells #[.slice (some ⟨g7, 0, none⟩) N cap7] 58) (.cells #[.slice (some ⟨w3.heap.size, 0, none⟩) 1 1, .int .i64 0, .int .i64 D, .int .i64 100] 24)
          have hfr4 := heap_alloc2_old w3 (.cells #[.slice (some ⟨g7, 0, none⟩) N cap7] 58) (.cells #[.slice (some ⟨w3.heap.size, 0, none⟩) 1 1, .int .i64 0, .int .i64 D, .int .i64 100] 24)
          have hb34 := below_alloc (below_alloc (Below.refl w3.heap.size w3) (.cells #[.slice (some ⟨g7, 0, none⟩) N cap7] 58)) (.cells #[.slice (some ⟨w3.heap.size, 0, none⟩) 1 1, .int .i64 0, .int .i64 D, .int .i64 100] 24)
          have hFR := own_blk7 (base := w.heap.size) (n := 1) (s := 1) hfr4 hB3.size rfl rfl (by omega)
          have hfo := own_keep hown' (KeepI.below hb34)
          have hR4 := (hb34.block w.heap.size (lt_of_block hR3)).trans hR3
          have hB4 := below_then hB3 hb34
          have hFO : FO w.heap.size ((w3.alloc (.cells #[.slice (some ⟨g7, 0, none⟩) N cap7] 58)).alloc (.cells #[.slice (some ⟨w3.heap.size, 0, none⟩) 1 1, .int .i64 0, .int .i64 D, .int .i64 100] 24)) [.slice (some ⟨g7, 0, none⟩) N cap7] (fsT j D m 1) := by
            have e1 : fsT j D m 1 = [treeF j m 1] := by simp [fsT, gF]
            rw [e1]
            refine ⟨rfl, fun i h1 h2 => ?_⟩
            obtain rfl : i = 0 := by simp at h1; exact h1
            show World.ownsRow _ _ _ _ _ (treeF j m 1).length _
            rw [HN.out.2]
            exact hfo
          have hbw : w.heap.size ≤ w3.heap.size := hB3.size
          clear hfr4 hb34 hown' hR3 hB3
          go_wp2_with fail
          generalize (w3.alloc (.cells #[.slice (some ⟨g7, 0, none⟩) N cap7] 58)).alloc (.cells #[.slice (some ⟨w3.heap.size, 0, none⟩) 1 1, .int .i64 0, .int .i64 D, .int .i64 100] 24) = w4 at *
          generalize hfg0 : w3.heap.size = fg0 at *
          go_loopw [11] (fun dv wx => ∃ (dd : Nat) (vals : List Value) (fg fc : Nat), 1 ≤ dd ∧ dd ≤ D + 1 ∧ dv = .int .i64 dd ∧ wx.heap[fg0 + 1]? = some (.cells #[.slice (some ⟨fg, 0, none⟩) dd fc, .int .i64 0, .int .i64 D, .int .i64 100] 24 (0, 0)) ∧ wx.ownsRow w.heap.size 58 1 (.slice (some ⟨fg, 0, none⟩) dd fc) dd vals ∧ FO w.heap.size wx vals (fsT j D m dd) ∧ wx.ownsRow w.heap.size 60 4 (.slice (some ⟨g7, 0, none⟩) N cap7) N (cin (treeF j m 1)) ∧ Below w.heap.size w wx ∧ wx.heap[w.heap.size]? = some (.cells #[.slice none 0 0, .int .i64 0, .int .i64 0, .int .i64 0] 24 (0, 0))) (fun dv _ => D + 1 - (intOf dv).toNat)
          case atStart => exact ⟨1, _, fg0, 1, by omega, by omega, rfl, hbox4, hFR, hFO, hfo, hB4, hR4⟩
          case round =>
            obtain ⟨dd, vals, fg, fc, h1d, hdD, rfl, hbx, hFr, hFo, hfo', hB5, hR5⟩ := hrel
            by_cases hle : dd ≤ D
            · have hled : (dd : Int) ≤ (D : Int) := by omega
              generalize hwo : wr = wo at *
              clear hwo hbox4 hFR hFO hfo hB4 hR4
              have hfc : ∀ k u, (cin (treeF j m 1))[k]? = some u → wo.cell? ((⟨g7, 0, none⟩ : Addr).add k) = some u := fun k u hu => by
                have e : (⟨g7, 0, none⟩ : Addr).add k = ⟨g7, k, none⟩ := by simp [Addr.add]; intro h; exact h.symm
                have hk : k < N * 4 := by
                  have := (List.getElem?_eq_some_iff.1 hu).1
                  rw [cin_len, HN.out.2] at this
                  exact this
                rw [e, hfo'.cellAt k hk, hu]
              go_wp2_with (at_builtin; refine wpList_append_own _ rfl _ _ 58 rfl wo.heap.size 60 i0 _ 4 32 Tryd.underlying58 hi hz0 hz1 hz2 rfl (by decide) (.slice none 0 0) 0 [] rfl (World.ownsRow_nil _ _ _ _) ⟨g7, 0, none⟩ N cap7 (cin (treeF j m 1)) rfl ?c0 ?c1 ?c2 ?c3 ?c4 ?c5 ?_)
              case c0 => rw [cin_len, HN.out.2]
              case c1 => exact hfc
              case c2 => exact cin_one _
              case c3 => unfold maxLen; omega
              case c4 => omega
              case c5 => exact Nat.le_refl _
              intro gv w5 hownG hgrowG _
              have hBG : Below wo.heap.size wo w5 := (Below.refl _ _).grown hgrowG (Nat.le_refl _) (fun k hk => by simp [Value.ownBlock] at hk)
              obtain ⟨gg, gc, rfl, hgl, -⟩ := hownG.form (by have := HN.out.1; omega)
              clear hgrowG hfc
              have hdd1 : ((dd : Int) + 1) = ((dd + 1 : Nat) : Int) := by omega
              go_wp2_with fail
              go_loopw [13] (fun iv wx => ∃ i : Nat, i ≤ N ∧ iv = .int .i64 i ∧ wx.ownsRow wo.heap.size 60 4 (.slice (some ⟨gg, 0, none⟩) N gc) N (cin (turnL ((dd : Int) + 1) (treeF j m 1) i)) ∧ Below wo.heap.size wo wx) (fun iv _ => N - (intOf iv).toNat)
              case atStart => exact ⟨0, by omega, rfl, by rw [turnL_zero]; exact hownG, hBG⟩
              case round =>
                obtain ⟨i, hiN, rfl, hOg, hBg⟩ := hrel
                by_cases hlt : i < N
                · have hlti : (i : Int) < (N : Int) := by omega
                  have hiF : i < (treeF j m 1).length := by rw [HN.out.2]; exact hlt
                  have c0 : wr.cell? ⟨gg, i * 4, none⟩ = some (.int .i64 (treeF j m 1)[i].o) := by
                    have := hOg.cellAt (i * 4 + 0) (by omega)
                    rw [turn_cell _ _ hiF (by omega)] at this
                    exact this
                  have c2 : wr.cell? ⟨gg, i * 4 + 2, none⟩ = some (.int .i64 (treeF j m 1)[i].b) := by
                    have := hOg.cellAt (i * 4 + 2) (by omega)
                    rw [turn_cell _ _ hiF (by omega)] at this
                    exact this
                  have fz : wr.frozen? ⟨gg, i * 4 + 2, none⟩ = false := by
                    rcases hOg.2 with ⟨h0, _⟩ | ⟨g', cap', cur, h0, _, h2, _⟩
                    · cases h0
                    · cases h0
                      exact frozen_of_row _ _ _ _ _ h2
                  have HIF : Hid (i < (treeF j m 1).length) := hiF
                  by_cases h9 : (treeF j m 1)[i].o = 9
                  · have H9 : Hid ((treeF j m 1)[i].o = 9) := h9
                    have c09 : wr.cell? ⟨gg, i * 4, none⟩ = some (.int .i64 9) := c0.trans (congrArg (fun z => some (Value.int .i64 z)) h9)
                    clear c0
                    have hset := own_setK hOg (i * 4 + 2) (.int .i64 ((dd : Int) + 1))
                    have hS : Hid ((cin (turnL ((dd : Int) + 1) (treeF j m 1) i)).set (i * 4 + 2) (.int .i64 ((dd : Int) + 1)) = cin (turnL ((dd : Int) + 1) (treeF j m 1) (i + 1))) := turn_set _ _ hiF h9
                    have hBs := hBg.setCell (p := ⟨gg, i * 4 + 2, none⟩) hgl (.int .i64 ((dd : Int) + 1))
                    clear hOg hdd1
                    go_wp2_with fail
                    go_roundw
                    case rel => exact ⟨i + 1, by omega, by go_num, by rw [← hS.out]; exact hset, hBs⟩
                    case measure => simp [intOf]; omega
                  · have h9b : ((treeF j m 1)[i].o == 9) = false := by simpa using h9
                    have hS : Hid (turnL ((dd : Int) + 1) (treeF j m 1) (i + 1) = turnL ((dd : Int) + 1) (treeF j m 1) i) := turn_no _ _ hiF h9
                    generalize (treeF j m 1)[i].o = oo at *
                    clear h9 hiF hdd1 c2
                    go_wp2_with fail
                    go_roundw
                    case rel => exact ⟨i + 1, by omega, by go_num, by rw [hS.out]; exact hOg, hBg⟩
                    case measure => simp [intOf]; omega
                · obtain rfl : i = N := by omega
                  have hnl : ¬ (i : Int) < (i : Int) := by omega
                  have hLast : cin (turnL ((dd : Int) + 1) (treeF j m 1) i) = cin (treeF j m (dd + 1)) := by
                    have e1 := turnL_all ((dd : Int) + 1) (treeF j m 1)
                    rw [HN.out.2] at e1
                    rw [e1, hdd1, turn_tree hW1 hW3 m (dd + 1)]
                  rw [hLast] at hOg
                  clear hLast hlt hiN hdd1 hownG hBG
                  have hbxr := (hBg.block _ (lt_of_block hbx)).trans hbx
                  have hFrr := own_same7 (w' := wr) hFr (fun g hg => hBg.block g (hFr.lt g hg).2)
                  have hFor := hFo.keep (KeepI.below hBg)
                  have hfor := own_keep hfo' (KeepI.below hBg)
                  have hRr := (hBg.block _ (lt_of_block hR5)).trans hR5
                  have hBr := hB5.trans (hBg.mono hB5.size)
                  have hOr := own_mono7 hOg hB5.size
                  have x0 : wr.cell? ⟨fg0 + 1, 0, none⟩ = some (.slice (some ⟨fg, 0, none⟩) dd fc) := cell_of_row _ _ _ _ _ _ hbxr
                  have xl : fg0 + 1 < wr.heap.size := lt_of_block hbxr
                  clear hbx hFr hFo hfo' hB5 hR5 hOg hBg
                  by_cases hdd : dd = D
                  · have heb : ((dd : Int) == (D : Int)) = true := by simp [hdd]
                    have HG : Hid (fsT j D m (dd + 1) = fsT j D m dd ++ [[⟨15, 0, 0, 0⟩]]) := by show _ = _; rw [fsT_succ]; unfold gF; rw [if_pos ⟨hdd, by omega⟩]
                    clear hdd
                    go_wp2_with (at_builtin; refine wpList_append_own _ rfl _ _ 22 rfl w.heap.size 58 s0 _ 1 24 Tryd.underlying22 si sz0 sz1 sz2 rfl (by decide) _ _ _ rfl ((hFrr.alloc _).alloc _) ⟨wr.heap.size + 1, 0, none⟩ 1 1 [.slice (some ⟨wr.heap.size, 0, none⟩) 1 1] rfl rfl ?c1 ?c2 ?c3 ?c4 ?c5 ?_)
                    case c2 => rfl
                    case c3 => unfold maxLen; omega
                    case c4 => omega
                    case c5 => have := hBr.size; simp; omega
                    intro v' w7 hown7 hgrow7 _
                    obtain ⟨fg', fc', rfl, -, -⟩ := hown7.form (by omega)
                    have hbA := below_alloc (below_alloc (Below.refl wr.heap.size wr) (.cells #[.int .i64 15, .int .i64 0, .int .i64 0, .int .i64 0] 60)) (.cells #[.slice (some ⟨wr.heap.size, 0, none⟩) 1 1] 58)
                    have hvA := own_blk7 (base := w.heap.size) (n := 1) (s := 4) (xs := cin [⟨15, 0, 0, 0⟩]) (heap_alloc2_old wr (.cells #[.int .i64 15, .int .i64 0, .int .i64 0, .int .i64 0] 60) (.cells #[.slice (some ⟨wr.heap.size, 0, none⟩) 1 1] 58)) hBr.size rfl rfl (by omega)
                    have hM := tree_more (f := [⟨15, 0, 0, 0⟩]) hbw ((hbA.block _ (lt_of_block hbxr)).trans hbxr) ((hFrr.alloc _).alloc _) (hFor.keep (KeepI.below hbA)) hvA (own_keep hfor (KeepI.below hbA)) (below_then hBr hbA) ((hbA.block _ (lt_of_block hRr)).trans hRr) hgrow7 hown7
                    obtain ⟨m0, m1, m2, m3, m4, m5, m6, m7⟩ := hM
                    clear hgrow7 hown7 hbA hvA hbxr hFrr hFor hfor hRr hBr hOr x0 xl
                    go_wp2_with fail
                    go_roundw
                    case rel => exact ⟨dd + 1, _, fg', fc', by omega, by omega, by go_num, m2, m3, by rw [HG.out]; exact m4, m5, m6, m7⟩
                    case measure => simp [intOf]; omega
                  · have heb : ((dd : Int) == (D : Int)) = false := by simp; omega
                    have HG : Hid (fsT j D m (dd + 1) = fsT j D m dd ++ [treeF j m (dd + 1)]) := by show _ = _; rw [fsT_succ]; unfold gF; rw [if_neg (by omega)]
                    clear hdd
                    go_wp2_with (at_builtin; refine wpList_append_own _ rfl _ _ 22 rfl w.heap.size 58 s0 _ 1 24 Tryd.underlying22 si sz0 sz1 sz2 rfl (by decide) _ _ _ rfl (hFrr.alloc _) ⟨wr.heap.size, 0, none⟩ 1 1 [.slice (some ⟨gg, 0, none⟩) i gc] rfl rfl ?e1 ?e2 ?e3 ?e4 ?e5 ?_)
                    case e2 => rfl
                    case e3 => unfold maxLen; omega
                    case e4 => omega
                    case e5 => have := hBr.size; simp; omega
                    intro v' w7 hown7 hgrow7 _
                    obtain ⟨fg', fc', rfl, -, -⟩ := hown7.form (by omega)
                    have hbA := below_alloc (Below.refl wr.heap.size wr) (.cells #[.slice (some ⟨gg, 0, none⟩) i gc] 58)
                    have hvA : (wr.alloc (.cells #[.slice (some ⟨gg, 0, none⟩) i gc] 58)).ownsRow w.heap.size 60 4 (.slice (some ⟨gg, 0, none⟩) i gc) (treeF j m (dd + 1)).length (cin (treeF j m (dd + 1))) := by
                      have hh := own_keep hOr (KeepI.below hbA)
                      rw [show (treeF j m (dd + 1)).length = i by rw [treeF_len]; have := HN.out.1; omega]
                      exact hh
                    have hM := tree_more (f := treeF j m (dd + 1)) hbw ((hbA.block _ (lt_of_block hbxr)).trans hbxr) (hFrr.alloc _) (hFor.keep (KeepI.below hbA)) hvA (own_keep hfor (KeepI.below hbA)) (below_then hBr hbA) ((hbA.block _ (lt_of_block hRr)).trans hRr) hgrow7 hown7
                    obtain ⟨m0, m1, m2, m3, m4, m5, m6, m7⟩ := hM
                    clear hgrow7 hown7 hbA hvA hbxr hFrr hFor hfor hRr hBr hOr x0 xl
                    go_wp2_with fail
                    go_roundw
                    case rel => exact ⟨dd + 1, _, fg', fc', by omega, by omega, by go_num, m2, m3, by rw [HG.out]; exact m4, m5, m6, m7⟩
                    case measure => simp [intOf]; omega
            · obtain rfl : dd = D + 1 := by omega
              have hnl : ¬ ((D + 1 : Nat) : Int) ≤ (D : Int) := by omega
              clear hle h1d hdD
              obtain ⟨x0, x1, x2, x3⟩ : wr.cell? ⟨fg0 + 1, 0, none⟩ = some (.slice (some ⟨fg, 0, none⟩) (D + 1) fc) ∧ wr.cell? ⟨fg0 + 1, 1, none⟩ = some (.int .i64 0) ∧ wr.cell? ⟨fg0 + 1, 2, none⟩ = some (.int .i64 D) ∧ wr.cell? ⟨fg0 + 1, 3, none⟩ = some (.int .i64 100) := ⟨cell_of_row _ _ _ _ _ _ hbx, cell_of_row _ _ _ _ _ _ hbx, cell_of_row _ _ _ _ _ _ hbx, cell_of_row _ _ _ _ _ _ hbx⟩
              obtain ⟨y0, y1, y2, y3⟩ : wr.cell? ⟨w.heap.size, 0, none⟩ = some (.slice none 0 0) ∧ wr.cell? ⟨w.heap.size, 1, none⟩ = some (.int .i64 0) ∧ wr.cell? ⟨w.heap.size, 2, none⟩ = some (.int .i64 0) ∧ wr.cell? ⟨w.heap.size, 3, none⟩ = some (.int .i64 0) := ⟨cell_of_row _ _ _ _ _ _ hR5, cell_of_row _ _ _ _ _ _ hR5, cell_of_row _ _ _ _ _ _ hR5, cell_of_row _ _ _ _ _ _ hR5⟩
              have yf := fun k => frozen_of_row _ _ k _ _ hR5
              go_wp2_with fail
              change bodyPost _ _ _ _ _ (putP wr w.heap.size (.slice (some ⟨fg, 0, none⟩) (D + 1) fc) (.int .i64 0) (.int .i64 D) (.int .i64 100))
              have hbx9 := putP_box hR5 (.slice (some ⟨fg, 0, none⟩) (D + 1) fc) (.int .i64 0) (.int .i64 D) (.int .i64 100)
              have hbl9 := putP_below hB5 (Nat.le_refl _) (.slice (some ⟨fg, 0, none⟩) (D + 1) fc) (.int .i64 0) (.int .i64 D) (.int .i64 100)
              have hot9 : ∀ k, k ≠ w.heap.size → (putP wr w.heap.size (.slice (some ⟨fg, 0, none⟩) (D + 1) fc) (.int .i64 0) (.int .i64 D) (.int .i64 100)).heap[k]? = wr.heap[k]? := fun k hk => putP_other hk _ _ _ _
              generalize putP wr w.heap.size (.slice (some ⟨fg, 0, none⟩) (D + 1) fc) (.int .i64 0) (.int .i64 D) (.int .i64 100) = w9 at *
              have hSF := (hFo.keep (w' := w9) (fun g cs fz e => hot9 g (by rintro rfl; rw [hR5] at e; simp at e))).slF (fg := fg) (fc := fc) (by rw [show (fsT j D m (D + 1)).length = D + 1 by simp [fsT]]; exact own_same7 hFr fun g hg => hot9 g (by rintro rfl; exact own_typ hFr hR5 (by decide) hg))
              rw [show (fsT j D m (D + 1)).length = D + 1 by simp [fsT]] at hSF
              obtain ⟨z0, z1, z2, z3⟩ : w9.cell? ⟨w.heap.size, 0, none⟩ = some (.slice (some ⟨fg, 0, none⟩) (D + 1) fc) ∧ w9.cell? ⟨w.heap.size, 1, none⟩ = some (.int .i64 0) ∧ w9.cell? ⟨w.heap.size, 2, none⟩ = some (.int .i64 D) ∧ w9.cell? ⟨w.heap.size, 3, none⟩ = some (.int .i64 100) := ⟨cell_of_row _ _ _ _ _ _ hbx9, cell_of_row _ _ _ _ _ _ hbx9, cell_of_row _ _ _ _ _ _ hbx9, cell_of_row _ _ _ _ _ _ hbx9⟩
              exact bodyPost_ret (v := .agg #[.slice (some ⟨fg, 0, none⟩) (D + 1) fc, .int .i64 0, .int .i64 D, .int .i64 100]) (by simp [results, Tryd.results18, go_sem, z0, z1, z2, z3]) rfl ⟨_, rfl, hSF, hbl9⟩
end Go.Proofs.YtamhlcdbmhhcpaaDoor
namespace Go.Proofs.YtamhlcdbmhhcpaaDoor
open Go.RowKit
open C2 (In Pr SlF SlI InsAt Tab BoxedP still_of_below below_then below_alloc Still)
open K6 (Ky)
open V5 (checkF SlN)

theorem tree_code {w d : Nat} {m : Int} (h1 : 1 ≤ w) (h3 : w ≤ 3) (d1 : 1 ≤ d) (d3 : d ≤ 3) (m0 : 0 ≤ m) (m2 : m ≤ 2) : checkF (treeP w d m) = 0 := by
  rcases wide_cases h1 h3 with rfl | rfl | rfl <;> rcases wide_cases d1 d3 with rfl | rfl | rfl <;> rcases (by omega : m = 0 ∨ m = 1 ∨ m = 2) with rfl | rfl | rfl <;> decide +kernel
def treeZ (w : Nat) (m : Int) : Pg7 := ⟨[treeF w m 1], 0, 0, 100⟩
theorem tree_bare {w : Nat} {m : Int} (h1 : 1 ≤ w) (h3 : w ≤ 3) (m0 : 0 ≤ m) (m2 : m ≤ 2) : checkF (treeZ w m) = 5 := by
  rcases wide_cases h1 h3 with rfl | rfl | rfl <;> rcases (by omega : m = 0 ∨ m = 1 ∨ m = 2) with rfl | rfl | rfl <;> decide +kernel
theorem takes_bd {w d : Nat} (h1 : 1 ≤ w) (h3 : w ≤ 3) (d3 : d ≤ 3) : takes w d ≤ 5000 := by
  rcases wide_cases h1 h3 with rfl | rfl | rfl <;> rcases (by omega : d = 0 ∨ d = 1 ∨ d = 2 ∨ d = 3) with rfl | rfl | rfl | rfl <;> decide
theorem tree_ev {w d : Nat} {m a : Int} (h1 : 1 ≤ w) (h3 : w ≤ 3) (d3 : d ≤ 3) (m0 : 0 ≤ m) (m2 : m ≤ 2) (a0 : 0 ≤ a) (a9 : a ≤ 99) :
    (ev0 (treeP w d m) 5000 a).1.over = false ∧ (ev0 (treeP w d m) 5000 a).2.e = ⟨1, gives w m d a⟩ ∧ (ev0 (treeP w d m) 5000 a).1.forks = many w d ∧ (ran0 (treeP w d m) 5000 a).length = many w d + 1 := by
  have hb : (99 : Int) * 7 ^ d ≤ 1000000 := by rcases (by omega : d = 0 ∨ d = 1 ∨ d = 2 ∨ d = 3) with rfl | rfl | rfl | rfl <;> decide
  have hl := tree_lvl (M := 5000) h1 h3 d3 m0 m2 d 0 a 99 (by omega) a0 a9 hb
  obtain ⟨r', t', e, he, hf⟩ := hl (rs0 (treeP w d m)) K6.root K6.root_ok rfl rfl (by have := takes_bd h1 h3 d3; show 0 + takes w d ≤ 5000; omega)
  have e2 : ev0 (treeP w d m) 5000 a = (r', t') := e
  have ho : (ev0 (treeP w d m) 5000 a).1.over = false := by rw [e2]; exact hf.over
  have hk := run_ok (p := treeP w d m) (by show (d : Int) ≤ 5; omega) 5000 a ho
  have hfk : (ev0 (treeP w d m) 5000 a).1.forks = many w d := by rw [e2]; have := hf.forks; show r'.forks = _; rw [this]; show 0 + _ = _; omega
  refine ⟨ho, by rw [e2]; exact he, hfk, ?_⟩
  have := hk.len
  show (putR _ _).length = _
  rw [this]
  show (ev0 (treeP w d m) 5000 a).1.forks + 1 = _
  rw [hfk]
/-- Run of a tree -/
theorem tree_run {w d : Nat} {m a : Int} (h1 : 1 ≤ w) (h3 : w ≤ 3) (d1 : 1 ≤ d) (d3 : d ≤ 3) (m0 : 0 ≤ m) (m2 : m ≤ 2) (a0 : 0 ≤ a) (a9 : a ≤ 99) (fv : Value) (W : World) (hT : Tab W) (hF : SlF W fv (fsT w d m (d + 1))) :
    Calls Tryd.prog 10 #[.agg #[fv, .int .i64 0, .int .i64 d, .int .i64 100], .int .i64 a, .int .i64 5000] W fun e w' => ∃ ra rc ua un uc sa sn sc, ∃ st : Int, e = .returned (.tuple #[.agg #[.int .i64 1, .int .i64 (gives w m d a), .slice ra (many w d + 1) rc, .slice ua un uc, .slice sa sn sc, .int .i64 st, .int .i64 (many w d), .bool false], .int .i64 0]) ∧ Below W.heap.size W w' := by
  obtain ⟨o1, o2, o3, o4⟩ := tree_ev (d := d) h1 h3 d3 m0 m2 a0 a9
  rw [fsT_tree d1] at hF
  have hlen : (treeP w d m).fs.length ≤ 1000000 := by simp [treeP]; omega
  have hmem : ∀ f ∈ (treeP w d m).fs, f.length ≤ 1000000 := by
    intro f hf
    simp only [treeP, List.mem_append, List.mem_map, List.mem_singleton] at hf
    rcases hf with ⟨j, -, rfl⟩ | rfl
    · rw [treeF_len]; omega
    · simp
  refine (Run_any (treeP w d m) fv a 5000 W hT hF hlen hmem).mono ?_
  intro e w' hq
  obtain ⟨ra, rc, ua, uc, sa, sc, he, hb, -, -, -⟩ := hq.good (M := 5000) (by decide) (tree_code h1 h3 d1 d3 m0 m2) o1
  rw [o2, o3, o4] at he
  exact ⟨ra, rc, ua, _, uc, sa, _, sc, _, he, hb⟩
theorem bare_run {w : Nat} {m a : Int} (h1 : 1 ≤ w) (h3 : w ≤ 3) (m0 : 0 ≤ m) (m2 : m ≤ 2) (fv : Value) (W : World) (hT : Tab W) (hF : SlF W fv (fsT w 0 m 1)) :
    Calls Tryd.prog 10 #[.agg #[fv, .int .i64 0, .int .i64 0, .int .i64 100], .int .i64 a, .int .i64 5000] W fun e w' => e = .returned (.tuple #[.agg #[.int .i64 0, .int .i64 0, .slice none 0 0, .slice none 0 0, .slice none 0 0, .int .i64 0, .int .i64 0, .bool false], .int .i64 5]) ∧ Below W.heap.size W w' := by
  rw [fsT_one] at hF
  have hc := tree_bare h1 h3 m0 m2
  refine (Run_any (treeZ w m) fv a 5000 W hT hF (by simp [treeZ]) (by intro f hf; simp [treeZ] at hf; subst hf; rw [treeF_len]; omega)).mono ?_
  rintro e w' ⟨hb, h | h | h⟩
  · obtain ⟨-, h⟩ := h
    rw [hc] at h
    exact ⟨h, hb⟩
  · rw [hc] at h; exact absurd h.1 (by decide)
  · rw [hc] at h; exact absurd h.1 (by decide)
/-- the law's own sum -/
def xF (m a : Int) : Nat → Int
  | 0 => a
  | i + 1 => xF m a i * m
def nF (w : Int) : Nat → Int
  | 0 => 1
  | i + 1 => nF w i * w
def wtF (w m a : Int) : Nat → Int
  | 0 => a
  | i + 1 => wtF w m a i + nF w (i + 1) * xF m a (i + 1)
def tkF (w : Int) : Nat → Int
  | 0 => 1
  | i + 1 => tkF w i + nF w (i + 1)
theorem sum_bd {k i : Nat} {m a : Int} (h3 : k < 3) (i3 : i ≤ 3) (m0 : 0 ≤ m) (m2 : m ≤ 2) (a0 : 0 ≤ a) (a9 : a ≤ 99) : 0 ≤ xF m a i ∧ xF m a i ≤ 1000 ∧ 1 ≤ nF (1 + (k : Int)) i ∧ nF (1 + (k : Int)) i ≤ 100 ∧ 0 ≤ nF (1 + (k : Int)) i * xF m a i ∧ nF (1 + (k : Int)) i * xF m a i ≤ 100000 ∧ 0 ≤ wtF (1 + (k : Int)) m a i ∧ wtF (1 + (k : Int)) m a i ≤ 1000000 ∧ 1 ≤ tkF (1 + (k : Int)) i ∧ tkF (1 + (k : Int)) i ≤ 1000 := by
  rcases (by omega : k = 0 ∨ k = 1 ∨ k = 2) with rfl | rfl | rfl <;> rcases (by omega : i = 0 ∨ i = 1 ∨ i = 2 ∨ i = 3) with rfl | rfl | rfl | rfl <;> rcases (by omega : m = 0 ∨ m = 1 ∨ m = 2) with rfl | rfl | rfl <;> simp [xF, nF, wtF, tkF] <;> omega
theorem sum_ok {k d : Nat} {m a : Int} (h3 : k < 3) (i3 : d ≤ 3) (m0 : 0 ≤ m) (m2 : m ≤ 2) : gives (k + 1) m d a = wtF (1 + (k : Int)) m a d ∧ ((many (k + 1) d : Nat) : Int) + 1 = tkF (1 + (k : Int)) d := by
  rcases (by omega : k = 0 ∨ k = 1 ∨ k = 2) with rfl | rfl | rfl <;> rcases (by omega : d = 0 ∨ d = 1 ∨ d = 2 ∨ d = 3) with rfl | rfl | rfl | rfl <;> rcases (by omega : m = 0 ∨ m = 1 ∨ m = 2) with rfl | rfl | rfl <;> simp [xF, nF, wtF, tkF, gives, many] <;> omega
end Go.Proofs.YtamhlcdbmhhcpaaDoor
namespace Go.Proofs.YtamhlcdbmhhcpaaDoor
open Go.RowKit
open C2 (In Pr SlF SlI InsAt Tab BoxedP still_of_below below_then below_alloc Still)
open K6 (Ky)
open V5 (checkF SlN)

set_option maxHeartbeats 2000000 in
set_option maxRecDepth 8000 in
theorem trees_walk (wi de mu ar : Int) (w : World) (hT : Tab w) : Calls Tryd.prog 5 #[.int .i64 wi, .int .i64 de, .int .i64 mu, .int .i64 ar] w fun e w' => e = .returned (.bool true) ∧ Below w.heap.size w w' := by
  obtain ⟨k, hk⟩ : ∃ k : Nat, wi % 3 = k := ⟨(wi % 3).toNat, by omega⟩
  obtain ⟨D, hD⟩ : ∃ k : Nat, de % 4 = k := ⟨(de % 4).toNat, by omega⟩
  have hk3 : k < 3 := by omega
  have hD3 : D ≤ 3 := by omega
  have m0 : 0 ≤ mu % 3 := by omega
  have m2 : mu % 3 ≤ 2 := by omega
  have a0 : 0 ≤ ar % 100 := by omega
  have a9 : ar % 100 ≤ 99 := by omega
  have q1 := fun w => V1.place_any wi 3 w (by decide) (by decide)
  have q2 := fun w => V1.place_any de 4 w (by decide) (by decide)
  have q3 := fun w => V1.place_any mu 3 w (by decide) (by decide)
  have q4 := fun w => V1.place_any ar 100 w (by decide) (by decide)
  rw [hk] at q1
  rw [hD] at q2
  generalize mu % 3 = m at *
  generalize ar % 100 = a at *
  clear hk hD
  have HT : Hid (Calls Tryd.prog 18 #[.int .i64 (1 + (k : Int)), .int .i64 D, .int .i64 m] w fun e w' => ∃ fv, e = .returned (.agg #[fv, .int .i64 0, .int .i64 D, .int .i64 100]) ∧ SlF w' fv (fsT (k + 1) D m (D + 1)) ∧ Below w.heap.size w w') := by
    have := Tree_any (k + 1) D m (by omega) (by omega) hD3 w
    rw [show ((k + 1 : Nat) : Int) = 1 + (k : Int) by omega] at this
    exact this
  go_enter Tryd.func5, Tryd.ntmps5
  go_wp2_with fail
  refine (q1 _).mono ?_
  rintro e w' ⟨rfl, rfl⟩
  go_wp2_with fail
  refine (q2 _).mono ?_
  rintro e w' ⟨rfl, rfl⟩
  go_wp2_with fail
  refine (q3 _).mono ?_
  rintro e w' ⟨rfl, rfl⟩
  go_wp2_with fail
  refine (q4 _).mono ?_
  rintro e w' ⟨rfl, rfl⟩
  have hki : (k : Int) < 3 := by omega
  go_wp2_with fail
  refine HT.out.mono ?_
  rintro e w1 ⟨fv, rfl, hSF, hb1⟩
  clear HT q1 q2 q3 q4
  have hT1 := hT.below hb1
  by_cases hD0 : D = 0
  · subst hD0
    have HR : Hid (Calls Tryd.prog 10 #[.agg #[fv, .int .i64 0, .int .i64 0, .int .i64 100], .int .i64 a, .int .i64 5000] w1 fun e w' => e = .returned (.tuple #[.agg #[.int .i64 0, .int .i64 0, .slice none 0 0, .slice none 0 0, .slice none 0 0, .int .i64 0, .int .i64 0, .bool false], .int .i64 5]) ∧ Below w1.heap.size w1 w') := bare_run (by omega) (by omega) m0 m2 fv w1 hT1 hSF
    clear hSF
    go_wp2_with fail
    refine HR.out.mono ?_
    rintro e w2 ⟨rfl, hb2⟩
    replace hb2 := below_alloc (below_then hb1 hb2) (.cells #[.int .i64 0, .int .i64 0, .slice none 0 0, .slice none 0 0, .slice none 0 0, .int .i64 0, .int .i64 0, .bool false] 34)
    have hT2 := hT.below hb2
    clear HR hb1 hT1
    go_wp2_with fail
    generalize w2.alloc (.cells #[.int .i64 0, .int .i64 0, .slice none 0 0, .slice none 0 0, .slice none 0 0, .int .i64 0, .int .i64 0, .bool false] 34) = w3 at *
    go_loopw [15, 16, 17, 18, 19] (fun v1 v2 v3 v4 iv wx => iv = .int .i64 0 ∧ wx = w3) (fun _ _ _ _ _ _ => 0)
    case atStart => exact ⟨rfl, rfl⟩
    case round =>
      obtain ⟨rfl, rfl⟩ := hrel
      go_wp2_with fail
      refine (awake_any _ hT2).mono ?_
      rintro e w4 ⟨rfl, hb4⟩
      go_wp2_with fail
      go_ret
      exact ⟨rfl, below_then hb2 hb4⟩
  · have hDi : ((D : Int) == 0) = false := by simp; omega
    obtain ⟨s1, s2⟩ := sum_ok (k := k) (d := D) (a := a) hk3 hD3 m0 m2
    have HR : Hid (Calls Tryd.prog 10 #[.agg #[fv, .int .i64 0, .int .i64 D, .int .i64 100], .int .i64 a, .int .i64 5000] w1 fun e w' => ∃ ra rc ua un uc sa sn sc, ∃ st : Int, e = .returned (.tuple #[.agg #[.int .i64 1, .int .i64 (wtF (1 + (k : Int)) m a D), .slice ra (many (k + 1) D + 1) rc, .slice ua un uc, .slice sa sn sc, .int .i64 st, .int .i64 (many (k + 1) D), .bool false], .int .i64 0]) ∧ Below w1.heap.size w1 w') := by
      have := tree_run (w := k + 1) (d := D) (by omega) (by omega) (by omega) hD3 m0 m2 a0 a9 fv w1 hT1 hSF
      rw [s1] at this
      exact this
    have HK : Hid (((many (k + 1) D : Nat) : Int) + 1 = tkF (1 + (k : Int)) D) := s2
    clear hSF hD0 s1 s2
    generalize many (k + 1) D = M at *
    go_wp2_with fail
    refine HR.out.mono ?_
    rintro e w2 ⟨ra, rc, ua, un, uc, sa, sn, sc, st, rfl, hb2⟩
    have hb3 := below_alloc (below_then hb1 hb2) (.cells #[.int .i64 1, .int .i64 (wtF (1 + (k : Int)) m a D), .slice ra (M + 1) rc, .slice ua un uc, .slice sa sn sc, .int .i64 st, .int .i64 M, .bool false] 34)
    have hbx := heap_alloc_new w2 (.cells #[.int .i64 1, .int .i64 (wtF (1 + (k : Int)) m a D), .slice ra (M + 1) rc, .slice ua un uc, .slice sa sn sc, .int .i64 st, .int .i64 M, .bool false] 34)
    have hT2 := hT.below hb3
    clear HR hb1 hT1
    go_wp2_with fail
    generalize w2.alloc (.cells #[.int .i64 1, .int .i64 (wtF (1 + (k : Int)) m a D), .slice ra (M + 1) rc, .slice ua un uc, .slice sa sn sc, .int .i64 st, .int .i64 M, .bool false] 34) = w3 at *
    generalize w2.heap.size = b3 at *
    go_loopw [15, 16, 17, 18, 19] (fun v1 v2 v3 v4 iv wx => ∃ i : Nat, i ≤ D ∧ iv = .int .i64 i ∧ v1 = .int .i64 (wtF (1 + (k : Int)) m a i) ∧ v2 = .int .i64 (tkF (1 + (k : Int)) i) ∧ v3 = .int .i64 (xF m a i) ∧ v4 = .int .i64 (nF (1 + (k : Int)) i) ∧ wx = w3) (fun _ _ _ _ iv _ => D - (intOf iv).toNat)
    case atStart => exact ⟨0, by omega, rfl, rfl, rfl, rfl, rfl, rfl⟩
    case round =>
      obtain ⟨i, hiD, rfl, rfl, rfl, rfl, rfl, rfl⟩ := hrel
      by_cases hlt : i < D
      · obtain ⟨p1, p2, p3, p4, p5, p6, p7, p8, p9, p10⟩ := sum_bd (k := k) (i := i) (m := m) (a := a) hk3 (by omega) m0 m2 a0 a9
        obtain ⟨r1, r2, r3, r4, r5, r6, r7, r8, r9, r10⟩ := sum_bd (k := k) (i := i + 1) (m := m) (a := a) hk3 (by omega) m0 m2 a0 a9
        have HX : Hid (xF m a (i + 1) = xF m a i * m ∧ nF (1 + (k : Int)) (i + 1) = nF (1 + (k : Int)) i * (1 + (k : Int)) ∧ wtF (1 + (k : Int)) m a (i + 1) = wtF (1 + (k : Int)) m a i + nF (1 + (k : Int)) (i + 1) * xF m a (i + 1) ∧ tkF (1 + (k : Int)) (i + 1) = tkF (1 + (k : Int)) i + nF (1 + (k : Int)) (i + 1)) := ⟨rfl, rfl, rfl, rfl⟩
        have hlti : (i : Int) < (D : Int) := by omega
        rw [show xF m a (i + 1) = xF m a i * m from rfl] at r1 r2 r5 r6
        rw [show nF (1 + (k : Int)) (i + 1) = nF (1 + (k : Int)) i * (1 + (k : Int)) from rfl] at r3 r4 r5 r6
        clear p5 p6 r7 r8 r9 r10
        generalize xF m a i = xv at *
        generalize nF (1 + (k : Int)) i = nv at *
        generalize wtF (1 + (k : Int)) m a i = wv at *
        generalize tkF (1 + (k : Int)) i = tv at *
        go_wp2_with fail
        go_roundw
        case rel => exact ⟨i + 1, by omega, by go_num, by rw [HX.out.2.2.1, HX.out.1, HX.out.2.1], by rw [HX.out.2.2.2, HX.out.2.1], by rw [HX.out.1], by rw [HX.out.2.1], by first | exact True.intro | rfl⟩
        case measure => simp [intOf]; omega
      · obtain rfl : i = D := by omega
        have hcs := fun f => cell_of_row _ _ f _ _ _ hbx
        have c0 := hcs 0
        have c1 := hcs 1
        have c2 := hcs 2
        have c6 := hcs 6
        have c7 := hcs 7
        simp at c0 c1 c2 c6 c7
        clear hcs hbx
        obtain ⟨p1, p2, p3, p4, p5, p6, p7, p8, p9, p10⟩ := sum_bd (k := k) (i := i) (m := m) (a := a) hk3 hD3 m0 m2 a0 a9
        have hk9 := HK.out
        clear HK p1 p2 p3 p4 p5 p6 hlt hiD
        generalize wtF (1 + (k : Int)) m a i = wv at *
        generalize tkF (1 + (k : Int)) i = tv at *
        subst hk9
        have e1 : ((M : Int) + 1 - 1) = (M : Int) := by omega
        go_wp2_with fail
        refine (awake_any _ hT2).mono ?_
        rintro e w4 ⟨rfl, hb4⟩
        go_wp2_with fail
        go_ret
        exact ⟨rfl, below_then hb3 hb4⟩
end Go.Proofs.YtamhlcdbmhhcpaaDoor
