/-
  Programs in boxes; what SameProg answers; what Get answers of bytes that are a program's.
-/
import Derived.Test.YtdpagipbaddnfaaDoorC2Same
import Derived.Test.YtdpagipbaddnfaaDoorC2Back
namespace Go.Proofs.YtdpagipbaddnfaaDoor.C2
open Go.RowKit

/-- a program in a box -/
structure BoxedP (w : World) (B : Nat) (fa : Option Addr) (fc : Nat) (p : Pr) : Prop where
  box : w.heap[B]? = some (.cells #[.slice fa p.fs.length fc, .int .i64 p.futs, .int .i64 p.depth, .int .i64 p.fuel] 24 (0, 0))
  fns : SlF w (.slice fa p.fs.length fc) p.fs
theorem BoxedP.kept {w w' : World} {B : Nat} {fa : Option Addr} {fc : Nat} {p : Pr} (h : BoxedP w B fa fc p) (hb : Below w.heap.size w w') : BoxedP w' B fa fc p :=
  ⟨(hb.block _ (lt_of_block h.box)).trans h.box, h.fns.kept hb⟩
theorem BoxedP.made {w : World} {fa : Option Addr} {fc : Nat} {p : Pr} (h : SlF w (.slice fa p.fs.length fc) p.fs) : BoxedP (w.alloc (.cells #[.slice fa p.fs.length fc, .int .i64 p.futs, .int .i64 p.depth, .int .i64 p.fuel] 24)) w.heap.size fa fc p :=
  ⟨heap_alloc_new _ _, h.kept ((Below.refl _ _).alloc (Nat.le_refl _) _)⟩
theorem BoxedP.cells {w : World} {B : Nat} {fa : Option Addr} {fc : Nat} {p : Pr} (h : BoxedP w B fa fc p) : w.cell? ⟨B, 0, none⟩ = some (.slice fa p.fs.length fc) ∧ w.cell? ⟨B, 1, none⟩ = some (.int .i64 p.futs) ∧ w.cell? ⟨B, 2, none⟩ = some (.int .i64 p.depth) ∧ w.cell? ⟨B, 3, none⟩ = some (.int .i64 p.fuel) :=
  ⟨by simp [cell_of_row _ _ _ _ _ _ h.box], by simp [cell_of_row _ _ _ _ _ _ h.box], by simp [cell_of_row _ _ _ _ _ _ h.box], by simp [cell_of_row _ _ _ _ _ _ h.box]⟩
theorem below_alloc {w w1 : World} (h : Below w.heap.size w w1) (o : Obj) : Below w.heap.size w (w1.alloc o) := h.alloc h.size _
theorem below_then {w w1 w2 : World} (h : Below w.heap.size w w1) (h2 : Below w1.heap.size w1 w2) : Below w.heap.size w w2 := h.trans (h2.mono h.size)
theorem sameProg_any (P Q : Pr) (fv gv : Value) (w : World) (hF : SlF w fv P.fs) (hG : SlF w gv Q.fs) (hn : P.fs.length ≤ 1000000) (hm : ∀ f ∈ P.fs, f.length ≤ 1000000) (hn2 : Q.fs.length ≤ 1000000) (hm2 : ∀ f ∈ Q.fs, f.length ≤ 1000000) :
    Calls Tryd.prog 12 #[.agg #[fv, .int .i64 P.futs, .int .i64 P.depth, .int .i64 P.fuel], .agg #[gv, .int .i64 Q.futs, .int .i64 Q.depth, .int .i64 Q.fuel]] w fun e w' => SamePost P Q w e w' := by
  have hb0 := below_two w (.cells #[fv, .int .i64 P.futs, .int .i64 P.depth, .int .i64 P.fuel] 24) (.cells #[gv, .int .i64 Q.futs, .int .i64 Q.depth, .int .i64 Q.fuel] 24)
  have hF1 := hF.still (still_of_below hb0)
  have hG1 := hG.still (still_of_below hb0)
  obtain ⟨fa, fc, rfl, -⟩ := hF
  obtain ⟨ga, gc, rfl, -⟩ := hG
  go_enter Tryd.func12, Tryd.ntmps12
  go_wp2_with fail
  refine (same_any P Q _ _ _ hF1 hG1 hn hm hn2 hm2).mono ?_
  rintro e w1 ⟨⟨r, rfl, hr⟩, hb1⟩
  have HR : Hid (r = true ↔ P = Q) := hr
  clear hr
  go_wp2_with fail
  go_ret
  exact ⟨⟨r, rfl, HR.out⟩, below_then hb0 hb1⟩
theorem Good.few' {p : Pr} (h : Good p) : p.fs.length ≤ 1000000 := by have := h.few; omega
theorem Good.small' {p : Pr} (h : Good p) : ∀ f ∈ p.fs, f.length ≤ 1000000 := fun f hf => by have := h.small f hf; omega
/-- Put of a program that may be put -/
theorem Put_own (p : Pr) (hp : Good p) (fv : Value) (w : World) (hT : Tab w) (hF : SlF w fv p.fs) :
    Calls Tryd.prog 23 #[.agg #[fv, .int .i64 p.futs, .int .i64 p.depth, .int .i64 p.fuel]] w fun e w' => e = .returned (.tuple #[.string (strB (putB p)), .int .i64 0]) ∧ Below w.heap.size w w' := by
  have h := Put_any p fv w hT hF hp.few' hp.small'
  rw [hp.code, hp.text] at h
  exact h
end Go.Proofs.YtdpagipbaddnfaaDoor.C2