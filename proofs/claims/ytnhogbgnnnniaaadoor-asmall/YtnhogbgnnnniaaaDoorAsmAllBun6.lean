/-
  Helpers: C2Data.
-/
import Derived.Test.YtnhogbgnnnniaaaDoorAsmAllBun2
import Derived.Test.YtnhogbgnnnniaaaDoorAsmAllBun3
namespace Go.Proofs.YtnhogbgnnnniaaaDoor.C2
open Go.RowKit

/-- an instruction -/
structure In where
  o : Int
  a : Int
  b : Int
  c : Int
/-- a program -/
structure Pr where
  fs : List (List In)
  futs : Int
  depth : Int
  fuel : Int
def insV (i : In) : Value := .agg #[.int .i64 i.o, .int .i64 i.a, .int .i64 i.b, .int .i64 i.c]
/-- an instruction's four cells -/
structure InsAt (w : World) (g f : Nat) (i : In) : Prop where
  c0 : w.cell? ⟨g, f, none⟩ = some (.int .i64 i.o)
  c1 : w.cell? ⟨g, f + 1, none⟩ = some (.int .i64 i.a)
  c2 : w.cell? ⟨g, f + 2, none⟩ = some (.int .i64 i.b)
  c3 : w.cell? ⟨g, f + 3, none⟩ = some (.int .i64 i.c)
/-- a slice of instructions -/
def SlI (w : World) (v : Value) (xs : List In) : Prop :=
  ∃ ad cap, v = .slice ad xs.length cap ∧ ∀ k (h : k < xs.length), ∃ g f, ad = some ⟨g, f, none⟩ ∧ InsAt w g (f + k * 4) xs[k]
/-- a slice of functions -/
def SlF (w : World) (v : Value) (fs : List (List In)) : Prop :=
  ∃ ad cap, v = .slice ad fs.length cap ∧ ∀ k (h : k < fs.length), ∃ g f u, ad = some ⟨g, f, none⟩ ∧ w.cell? ⟨g, f + k, none⟩ = some u ∧ SlI w u fs[k]
/-- whatever cell there is stays as it is -/
def Still (w w' : World) : Prop := ∀ a v, w.cell? a = some v → w'.cell? a = some v
theorem still_of_below {w w' : World} (h : Below w.heap.size w w') : Still w w' := fun a v hv => by rw [h.cell (block_lt_of_cell hv)]; exact hv
theorem InsAt.still {w w' : World} {g f : Nat} {i : In} (h : InsAt w g f i) (hs : Still w w') : InsAt w' g f i := ⟨hs _ _ h.c0, hs _ _ h.c1, hs _ _ h.c2, hs _ _ h.c3⟩
theorem SlI.still {w w' : World} {v : Value} {xs : List In} (h : SlI w v xs) (hs : Still w w') : SlI w' v xs := by
  obtain ⟨ad, cap, hv, hx⟩ := h
  refine ⟨ad, cap, hv, fun k hk => ?_⟩
  obtain ⟨g, f, h1, h2⟩ := hx k hk
  exact ⟨g, f, h1, h2.still hs⟩
theorem SlF.still {w w' : World} {v : Value} {fs : List (List In)} (h : SlF w v fs) (hs : Still w w') : SlF w' v fs := by
  obtain ⟨ad, cap, hv, hx⟩ := h
  refine ⟨ad, cap, hv, fun k hk => ?_⟩
  obtain ⟨g, f, u, h1, h2, h3⟩ := hx k hk
  exact ⟨g, f, u, h1, hs _ _ h2, h3.still hs⟩
theorem still_alloc (w : World) (o : Obj) : Still w (w.alloc o) := still_of_below ((Below.refl _ _).alloc (Nat.le_refl _) _)
def proV (fv : Value) (futs depth fuel : Int) : Value := .agg #[fv, .int .i64 futs, .int .i64 depth, .int .i64 fuel]

def bigB (fs : List (List In)) : Bool := decide (12 < fs.length) || fs.any fun f => decide (40 < f.length)
def shapeI (i : In) : Bool := shapeB i.o i.a i.b i.c
def soundB (p : Pr) : Bool := (p.fs.all fun f => f.all shapeI) && (inB p.futs 0 16 && inB p.depth 0 5 && inB p.fuel 1 500)
theorem big_at {fs : List (List In)} {k : Nat} (h : k < fs.length) (h2 : 40 < fs[k].length) : bigB fs = true := by
  have : (fs.any fun f => decide (40 < f.length)) = true := List.any_eq_true.2 ⟨fs[k], List.getElem_mem h, by simpa using h2⟩
  simp [bigB, this]
theorem big_not {fs : List (List In)} (h1 : ¬ 12 < fs.length) (h2 : ∀ k (h : k < fs.length), ¬ 40 < fs[k].length) : bigB fs = false := by
  have : (fs.any fun f => decide (40 < f.length)) = false := by
    rw [List.any_eq_false]
    intro f hf
    obtain ⟨k, hk, rfl⟩ := List.getElem_of_mem hf
    simpa using h2 k hk
  simp [bigB, this]
  omega
end Go.Proofs.YtnhogbgnnnniaaaDoor.C2
