/-
  An instruction as an argument.
-/
import Derived.Test.YtjaiicjnabpapaaDoorArgs2
namespace Go.Proofs.YtjaiicjnabpapaaDoor
open Go.ChangeShapes Go.WideShapes Go.ChangeAt Go.RowKit Go.Deep Go.Joins

theorem ins_arg {H : Type} {enc : TypeId × Value → H} {W : World} {r : Reach} {b0 : Nat} {v : Value} {d : DataW H} {ps : List MemPlace} (hv : Value.okWide Tryd.prog W r b0 26 v) (h : DataW.Trod enc Tryd.prog W 0 (fun _ => true) true 26 v d ps) :
    ∃ x : In, v = .agg #[.int .i64 x.o, .int .i64 x.a, .int .i64 x.b, .int .i64 x.c] := by
  obtain ⟨v0, v1, v2, v3, y0, y1, y2, y3, n, rfl, -, -, h0, h1, h2, h3⟩ := open_agg4 Tryd.underlying26 (by kernel_rfl) cellsIns' hv h
  obtain ⟨z0, rfl⟩ := int_in h0
  obtain ⟨z1, rfl⟩ := int_in h1
  obtain ⟨z2, rfl⟩ := int_in h2
  obtain ⟨z3, rfl⟩ := int_in h3
  exact ⟨⟨z0, z1, z2, z3⟩, rfl⟩
end Go.Proofs.YtjaiicjnabpapaaDoor
