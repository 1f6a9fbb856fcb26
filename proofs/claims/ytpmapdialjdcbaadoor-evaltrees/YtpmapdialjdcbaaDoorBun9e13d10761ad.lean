/-
  Helpers: C2Same.
-/
import Derived.Test.YtpmapdialjdcbaaDoorBun35e905bdedf4
import Derived.BigRegion
import Derived.Deep.RegionHeld3
namespace Go.Proofs.YtpmapdialjdcbaaDoor.C2
open Go.RowKit

theorem below_two (w : World) (x y : Obj) : Below w.heap.size w ((w.alloc x).alloc y) := ((Below.refl _ _).alloc (Nat.le_refl _) _).alloc (by simp) _
theorem ext_fs {fs gs : List (List In)} (hl : fs.length = gs.length) (h : ∀ i (h1 : i < fs.length) (h2 : i < gs.length), fs[i] = gs[i]) : fs = gs := List.ext_getElem hl h
theorem In.ext' {x y : In} (h1 : x.o = y.o) (h2 : x.a = y.a) (h3 : x.b = y.b) (h4 : x.c = y.c) : x = y := by
  cases x
  cases y
  simp_all
def boxPr (fv : Value) (p : Pr) : Obj := .cells #[fv, .int .i64 p.futs, .int .i64 p.depth, .int .i64 p.fuel] 24 (0, 0)
theorem first_diff (x y : In) : ((x.o == y.o) = false ∧ (x.o != y.o) = true ∧ ¬ x = y) ∨ ((x.o == y.o) = true ∧ (x.o != y.o) = false ∧ (x.a == y.a) = false ∧ (x.a != y.a) = true ∧ ¬ x = y) ∨ ((x.o == y.o) = true ∧ (x.o != y.o) = false ∧ (x.a == y.a) = true ∧ (x.a != y.a) = false ∧ (x.b == y.b) = false ∧ (x.b != y.b) = true ∧ ¬ x = y) ∨ ((x.o == y.o) = true ∧ (x.o != y.o) = false ∧ (x.a == y.a) = true ∧ (x.a != y.a) = false ∧ (x.b == y.b) = true ∧ (x.b != y.b) = false ∧ (x.c == y.c) = false ∧ (x.c != y.c) = true ∧ ¬ x = y) ∨ ((x.o == y.o) = true ∧ (x.o != y.o) = false ∧ (x.a == y.a) = true ∧ (x.a != y.a) = false ∧ (x.b == y.b) = true ∧ (x.b != y.b) = false ∧ (x.c == y.c) = true ∧ (x.c != y.c) = false ∧ x = y) := by
  by_cases h0 : x.o = y.o
  · by_cases h1 : x.a = y.a
    · by_cases h2 : x.b = y.b
      · by_cases h3 : x.c = y.c
        · exact .inr (.inr (.inr (.inr (by simp [h0, h1, h2, h3]; exact In.ext' h0 h1 h2 h3))))
        · exact .inr (.inr (.inr (.inl (by simp [h0, h1, h2, h3]; intro e; exact h3 (by rw [e])))))
      · exact .inr (.inr (.inl (by simp [h0, h1, h2]; intro e; exact h2 (by rw [e]))))
    · exact .inr (.inl (by simp [h0, h1]; intro e; exact h1 (by rw [e])))
  · exact .inl (by simp [h0]; intro e; exact h0 (by rw [e]))
/-- behind the walk -/
def SamePost (P Q : Pr) (w : World) (e : Ending) (w' : World) : Prop := (∃ r : Bool, e = .returned (.bool r) ∧ (r = true ↔ P = Q)) ∧ Below w.heap.size w w'
theorem same_false {P Q : Pr} {w w' : World} (h : ¬ P = Q) (hb : Below w.heap.size w w') : SamePost P Q w (.returned (.bool false)) w' := ⟨⟨false, rfl, by simp [h]⟩, hb⟩
end Go.Proofs.YtpmapdialjdcbaaDoor.C2
