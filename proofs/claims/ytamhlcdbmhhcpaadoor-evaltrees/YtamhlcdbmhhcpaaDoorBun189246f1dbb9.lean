/-
  Helpers: C2Boxes.
-/
import Derived.Test.YtamhlcdbmhhcpaaDoorBun867db7b512f5
import Derived.Test.YtamhlcdbmhhcpaaDoorBun9b2839c9b1d2
namespace Go.Proofs.YtamhlcdbmhhcpaaDoor.C2
open Go.RowKit

/-- a program in a box -/
structure BoxedP (w : World) (B : Nat) (fa : Option Addr) (fc : Nat) (p : Pr) : Prop where
  box : w.heap[B]? = some (.cells #[.slice fa p.fs.length fc, .int .i64 p.futs, .int .i64 p.depth, .int .i64 p.fuel] 24 (0, 0))
  fns : SlF w (.slice fa p.fs.length fc) p.fs
theorem BoxedP.kept {w w' : World} {B : Nat} {fa : Option Addr} {fc : Nat} {p : Pr} (h : BoxedP w B fa fc p) (hb : Below w.heap.size w w') : BoxedP w' B fa fc p :=
  ⟨(hb.block _ (lt_of_block h.box)).trans h.box, h.fns.kept hb⟩
theorem BoxedP.made {w : World} {fa : Option Addr} {fc : Nat} {p : Pr} (h : SlF w (.slice fa p.fs.length fc) p.fs) : BoxedP (w.alloc (.cells #[.slice fa p.fs.length fc, .int .i64 p.futs, .int .i64 p.depth, .int .i64 p.fuel] 24)) w.heap.size fa fc p :=
  ⟨heap_alloc_new _ _, h.kept ((Below.refl _ _).alloc (Nat.le_refl _) _)⟩
theorem BoxedP.cells {w : World} {B : Nat} {fa : Option Addr} {fc : Nat} {p : Pr} (h : BoxedP w B fa fc p) : w.cell? ⟨B, 0, none⟩ = some (.slice fa p.fs.length fc) ∧ w.cell? ⟨B, 1, none⟩ = some (.int .i64 p.futs) ∧ w.cell? ⟨B, 2, none⟩ = some (.int .i64 p.depth) ∧ w.cell? ⟨B, 3, none⟩ = some (.int .i64 p.fuel) :=
  ⟨by simp [cell_of_row _ _ _ _ _ _ h.box], by simp [cell_of_row _ _ _ _ _ _ h.box], by simp [cell_of_row _ _ _ _ _ _ h.box], by simp [cell_of_row _ _ _ _ _ _ h.box]⟩
theorem below_alloc {w w1 : World} (h : Below w.heap.size w w1) (o : Obj) : Below w.heap.size w (w1.alloc o) := h.alloc h.size _
theorem below_then {w w1 w2 : World} (h : Below w.heap.size w w1) (h2 : Below w1.heap.size w1 w2) : Below w.heap.size w w2 := h.trans (h2.mono h.size)
theorem Good.few' {p : Pr} (h : Good p) : p.fs.length ≤ 1000000 := by have := h.few; omega
theorem Good.small' {p : Pr} (h : Good p) : ∀ f ∈ p.fs, f.length ≤ 1000000 := fun f hf => by have := h.small f hf; omega
/-- Put of a program that may be put -/
theorem Put_own (p : Pr) (hp : Good p) (fv : Value) (w : World) (hT : Tab w) (hF : SlF w fv p.fs) :
    Calls Tryd.prog 30 #[.agg #[fv, .int .i64 p.futs, .int .i64 p.depth, .int .i64 p.fuel]] w fun e w' => e = .returned (.tuple #[.string (strB (putB p)), .int .i64 0]) ∧ Below w.heap.size w w' := by
  have h := Put_any p fv w hT hF hp.few' hp.small'
  rw [hp.code, hp.text] at h
  exact h
end Go.Proofs.YtamhlcdbmhhcpaaDoor.C2
