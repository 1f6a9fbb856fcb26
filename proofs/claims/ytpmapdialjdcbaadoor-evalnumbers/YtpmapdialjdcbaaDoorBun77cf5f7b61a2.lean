/-
  Helpers: C2ByNum.
-/
import Derived.Test.YtpmapdialjdcbaaDoorBun35e905bdedf4
import Derived.Test.YtpmapdialjdcbaaDoorBun4d4d4aad1956
import Derived.Test.YtpmapdialjdcbaaDoorBun1656f430e3f7
import Derived.Deep.AppendLies
namespace Go.Proofs.YtpmapdialjdcbaaDoor.C2
open Go.RowKit

def insC (x : In) : List Value := [.int .i64 x.o, .int .i64 x.a, .int .i64 x.b, .int .i64 x.c]
def cellsI (xs : List In) : List Value := (xs.map insC).flatten
theorem cellsI_length (xs : List In) : (cellsI xs).length = xs.length * 4 := by
  induction xs with
  | nil => rfl
  | cons x xs ih =>
    simp only [cellsI, List.map_cons, List.flatten_cons, List.length_append, List.length_cons] at ih ⊢
    rw [ih]
    simp [insC]
    omega
theorem cellsI_snoc (xs : List In) (x : In) : cellsI (xs ++ [x]) = cellsI xs ++ insC x := by simp [cellsI]
theorem cellsI_at {xs : List In} {k : Nat} (h : k < xs.length) (j : Nat) (hj : j < 4) : (cellsI xs)[k * 4 + j]? = (insC xs[k])[j]? := by
  have e : xs = xs.take k ++ (xs[k] :: xs.drop (k + 1)) := by rw [← List.drop_eq_getElem_cons h, List.take_append_drop]
  have e2 : cellsI xs = cellsI (xs.take k) ++ (insC xs[k] ++ cellsI (xs.drop (k + 1))) := by
    refine (congrArg cellsI e).trans ?_
    rw [cellsI, List.map_append, List.flatten_append, List.map_cons, List.flatten_cons]
    rfl
  have hl : (cellsI (xs.take k)).length = k * 4 := by rw [cellsI_length, List.length_take]; congr 1; omega
  rw [e2, List.getElem?_append_right (by omega), hl, List.getElem?_append_left (by simp [insC]; omega)]
  congr 1
  omega
/-- a row of one's own as a slice of instructions -/
theorem own_slI {w : World} {base : Nat} {v : Value} {xs : List In} (h : w.ownsRow base 54 4 v xs.length (cellsI xs)) : SlI w v xs := by
  rcases h.2 with ⟨rfl, h0⟩ | ⟨g, cap, cur, rfl, hb, hg, hn, hc, hs, ht⟩
  · obtain rfl : xs = [] := List.eq_nil_of_length_eq_zero h0
    exact ⟨none, 0, rfl, fun k hk => by simp at hk⟩
  · refine ⟨some ⟨g, 0, none⟩, cap, rfl, fun k hk => ⟨g, 0, rfl, ?_⟩⟩
    have hc := fun j (hj : j < 4) => h.cellAt (k * 4 + j) (by omega)
    constructor
    · simpa [insC] using (hc 0 (by omega)).trans (cellsI_at hk 0 (by omega))
    · simpa [insC] using (hc 1 (by omega)).trans (cellsI_at hk 1 (by omega))
    · simpa [insC] using (hc 2 (by omega)).trans (cellsI_at hk 2 (by omega))
    · simpa [insC] using (hc 3 (by omega)).trans (cellsI_at hk 3 (by omega))
theorem owns_same {w w' : World} {base : Nat} {e : TypeId} {size : Nat} {v : Value} {n : Nat} {xs : List Value} (h : w.ownsRow base e size v n xs) (hb : ∀ g, v.ownBlock = some g → w'.heap[g]? = w.heap[g]?) : w'.ownsRow base e size v n xs := by
  refine ⟨h.1, ?_⟩
  rcases h.2 with hn | ⟨g, cap, cur, rfl, h1, h2, h3⟩
  · exact .inl hn
  · exact .inr ⟨g, cap, cur, rfl, h1, (hb g rfl).trans h2, h3⟩
theorem grown_own {ws w w' : World} {L : Option Nat} {row : Option Nat} (h : ws.grownBy w L) (hg : w.grownBy w' row) (hr : ∀ k, row = some k → ws.heap.size ≤ k) : ws.grownBy w' L :=
  ⟨hg.os.trans h.os, hg.tape.trans h.tape, hg.output.trans h.output, Nat.le_trans h.size hg.size, fun k hk hne => (hg.block k (Nat.lt_of_lt_of_le hk h.size) (fun e => by have := hr k e.symm; omega)).trans (h.block k hk hne)⟩
theorem infoFns : (Tryd.prog.info? 55).map (fun i => (i.zero, i.size, i.bytes)) = some (some (.slice none 0 0), 1, 24) := by kernel_rfl
theorem insC_one (x : In) : ∀ u ∈ insC x, u.oneCell' = true := by
  intro u hu
  simp [insC] at hu
  rcases hu with rfl | rfl | rfl | rfl <;> rfl
theorem insC_new (w : World) (x : In) (t : TypeId) : ∀ j u, (insC x)[j]? = some u → (w.alloc (.cells #[.int .i64 x.o, .int .i64 x.a, .int .i64 x.b, .int .i64 x.c] t)).cell? ((⟨w.heap.size, 0, none⟩ : Addr).add j) = some u := by
  intro j u hu
  have e : (⟨w.heap.size, 0, none⟩ : Addr).add j = ⟨w.heap.size, j, none⟩ := by unfold Addr.add; split <;> simp_all
  rw [e, cell_of_row _ _ j _ _ _ (heap_alloc_new _ _), ← hu]
  simp [insC]
/-- a function by numbers -/
def okFn (funcs futs : Int) (f : List In) : Prop := 2 ≤ f.length ∧ f.length ≤ 11 ∧ (∀ x ∈ f, okIns funcs futs f.length x) ∧ ∃ a, 0 ≤ a ∧ a ≤ 3 ∧ f.getLast? = some ⟨15, a, 0, 0⟩
/-- a program by numbers -/
structure OkPr (p : Pr) : Prop where
  some : 1 ≤ p.fs.length
  few : p.fs.length ≤ 4
  fns : ∀ f ∈ p.fs, okFn p.fs.length p.futs f
  futs : 0 ≤ p.futs ∧ p.futs ≤ 3
  depth : 0 ≤ p.depth ∧ p.depth ≤ 3
  fuel : 5 ≤ p.fuel ∧ p.fuel ≤ 44
theorem last0 (o : Int) (h1 : 1 ≤ o) (h2 : o ≤ 15) (h : ¬ o = 1) : firstOf (lastOf o 0) = 0 ∧ firstOf (lastOf o 1) = 0 ∧ firstOf (lastOf o 2) = 0 := by
  obtain ⟨a, b, c⟩ := lasts_other o h1 h2 h
  exact ⟨first_small a, first_small b, first_small c⟩
theorem shape_mk {o a b c : Int} (h1 : 1 ≤ o) (h2 : o ≤ 15) (ha : firstOf (lastOf o 0) ≤ a ∧ a ≤ lastOf o 0) (hb : firstOf (lastOf o 1) ≤ b ∧ b ≤ lastOf o 1) (hc : firstOf (lastOf o 2) ≤ c ∧ c ≤ lastOf o 2) : shapeB o a b c = true := by
  simp only [shapeB, Bool.and_eq_true, inB_iff]
  exact ⟨⟨⟨⟨h1, h2⟩, ha⟩, hb⟩, hc⟩
theorem last_op : ∀ n : Fin 5, lastOf (2 + (n.val : Int)) 0 = 7 ∧ lastOf (2 + (n.val : Int)) 1 = 7 ∧ lastOf (2 + (n.val : Int)) 2 = 7 := by decide +kernel
theorem ok_shape {funcs futs n : Int} {x : In} (h : okIns funcs futs n x) (hf : funcs ≤ 12) (hu : futs ≤ 16) (hn : n ≤ 40) : shapeI x = true := by
  obtain ⟨o, a, b, c⟩ := x
  simp only [okIns] at h
  show shapeB o a b c = true
  rcases h with h | h | h | h | h | h | h | h | h | h | h
  · obtain ⟨rfl, h⟩ := h
    have e : lastOf 1 0 = 7 ∧ lastOf 1 1 = 2147483647 ∧ lastOf 1 2 = 0 ∧ firstOf 7 = 0 ∧ firstOf 2147483647 = -2147483648 ∧ firstOf 0 = 0 := by decide +kernel
    exact shape_mk (by omega) (by omega) (by rw [e.1, e.2.2.2.1]; omega) (by rw [e.2.1, e.2.2.2.2.1]; omega) (by rw [e.2.2.1, e.2.2.2.2.2]; omega)
  · have e := last_op ⟨(o - 2).toNat, by omega⟩
    have e2 : 2 + (((o - 2).toNat : Nat) : Int) = o := by omega
    simp only [e2] at e
    obtain ⟨g0, g1, g2⟩ := last0 o (by omega) (by omega) (by omega)
    exact shape_mk (by omega) (by omega) (by rw [g0, e.1]; omega) (by rw [g1, e.2.1]; omega) (by rw [g2, e.2.2]; omega)
  · obtain ⟨rfl, h⟩ := h
    obtain ⟨g0, g1, g2⟩ := last0 7 (by omega) (by omega) (by omega)
    have e : lastOf 7 0 = 39 ∧ lastOf 7 1 = 0 ∧ lastOf 7 2 = 0 := by decide +kernel
    exact shape_mk (by omega) (by omega) (by rw [g0, e.1]; omega) (by rw [g1, e.2.1]; omega) (by rw [g2, e.2.2]; omega)
  · obtain ⟨rfl, h⟩ := h
    obtain ⟨g0, g1, g2⟩ := last0 8 (by omega) (by omega) (by omega)
    have e : lastOf 8 0 = 7 ∧ lastOf 8 1 = 39 ∧ lastOf 8 2 = 0 := by decide +kernel
    exact shape_mk (by omega) (by omega) (by rw [g0, e.1]; omega) (by rw [g1, e.2.1]; omega) (by rw [g2, e.2.2]; omega)
  · obtain ⟨rfl, h⟩ := h
    obtain ⟨g0, g1, g2⟩ := last0 9 (by omega) (by omega) (by omega)
    have e : lastOf 9 0 = 3 ∧ lastOf 9 1 = 11 ∧ lastOf 9 2 = 7 := by decide +kernel
    exact shape_mk (by omega) (by omega) (by rw [g0, e.1]; omega) (by rw [g1, e.2.1]; omega) (by rw [g2, e.2.2]; omega)
  · obtain ⟨rfl, h⟩ := h
    obtain ⟨g0, g1, g2⟩ := last0 10 (by omega) (by omega) (by omega)
    have e : lastOf 10 0 = 7 ∧ lastOf 10 1 = 3 ∧ lastOf 10 2 = 0 := by decide +kernel
    exact shape_mk (by omega) (by omega) (by rw [g0, e.1]; omega) (by rw [g1, e.2.1]; omega) (by rw [g2, e.2.2]; omega)
  · obtain ⟨rfl, h⟩ := h
    obtain ⟨g0, g1, g2⟩ := last0 11 (by omega) (by omega) (by omega)
    have e : lastOf 11 0 = 15 ∧ lastOf 11 1 = 7 ∧ lastOf 11 2 = 0 := by decide +kernel
    exact shape_mk (by omega) (by omega) (by rw [g0, e.1]; omega) (by rw [g1, e.2.1]; omega) (by rw [g2, e.2.2]; omega)
  · obtain ⟨rfl, h⟩ := h
    obtain ⟨g0, g1, g2⟩ := last0 12 (by omega) (by omega) (by omega)
    have e : lastOf 12 0 = 7 ∧ lastOf 12 1 = 15 ∧ lastOf 12 2 = 0 := by decide +kernel
    exact shape_mk (by omega) (by omega) (by rw [g0, e.1]; omega) (by rw [g1, e.2.1]; omega) (by rw [g2, e.2.2]; omega)
  · obtain ⟨rfl, h⟩ := h
    obtain ⟨g0, g1, g2⟩ := last0 13 (by omega) (by omega) (by omega)
    have e : lastOf 13 0 = 3 ∧ lastOf 13 1 = 0 ∧ lastOf 13 2 = 0 := by decide +kernel
    exact shape_mk (by omega) (by omega) (by rw [g0, e.1]; omega) (by rw [g1, e.2.1]; omega) (by rw [g2, e.2.2]; omega)
  · obtain ⟨rfl, h⟩ := h
    obtain ⟨g0, g1, g2⟩ := last0 14 (by omega) (by omega) (by omega)
    have e : lastOf 14 0 = 0 ∧ lastOf 14 1 = 0 ∧ lastOf 14 2 = 0 := by decide +kernel
    exact shape_mk (by omega) (by omega) (by rw [g0, e.1]; omega) (by rw [g1, e.2.1]; omega) (by rw [g2, e.2.2]; omega)
  · obtain ⟨rfl, h⟩ := h
    obtain ⟨g0, g1, g2⟩ := last0 15 (by omega) (by omega) (by omega)
    have e : lastOf 15 0 = 7 ∧ lastOf 15 1 = 0 ∧ lastOf 15 2 = 0 := by decide +kernel
    exact shape_mk (by omega) (by omega) (by rw [g0, e.1]; omega) (by rw [g1, e.2.1]; omega) (by rw [g2, e.2.2]; omega)
theorem OkPr.good {p : Pr} (h : OkPr p) : Good p := by
  have hf := h.few
  refine ⟨by omega, fun f hf => by have := (h.fns f hf).2.1; omega, fun f hf => ?_, by have := h.futs; omega, by have := h.depth; omega, by have := h.fuel; omega⟩
  rw [List.all_eq_true]
  intro x hx
  have hk := h.fns f hf
  exact ok_shape (hk.2.2.1 x hx) (by omega) (by have := h.futs; omega) (by have := hk.2.1; omega)
end Go.Proofs.YtpmapdialjdcbaaDoor.C2
