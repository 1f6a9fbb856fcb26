/-
  Helpers: A9ArB, A9ArD.
-/
import Derived.Test.YtfljoedjnigfjaaBun890b0a3a8cf4
import Derived.Lib.SliceRun
namespace Go.Proofs.Ytfljoedjnigfjaa.A9
open Go.RowKit
open Go.MapKept
open H8 (okP packV packF opA opB opC isH sizeF szT HTab)

section
variable {P : Program} {ops : Array Oper} {rest : List Oper} {o : Oper} {a : Act} {Q : Exit → Act → World → Prop}
/-- clear(x) -/
theorem list_clear (w : World) (hg : o.guard = none) (x : Operand) (T : TypeId) (hop : o.op = Op.call { callee := Callee.builtin Builtin.clear, args := #[x], argTypes := #[T] }) (v : Value) (hx : a.eval x = v) (w' : World) (hrun : (Builtin.clear_ #[T] o.type #[v]).run P w = .ok (.tuple #[]) w')
    (hq : wpList P ops Q rest (a.put o.dst (.tuple #[])) w') : wpList P ops Q (o :: rest) a w := by
  refine wpList_plain hg fun K' hK' => ?_
  unfold Oper.wp
  simp [execOp, hop, resolve, invoke, builtin, hx, hrun, Result.andThen]
  exact hK' _ _ hq
end
section
variable {B : Ab} {w : World} {s : Ar}
def clr (f : Nat → Int) (a : Nat) (n : Nat) : Nat → Int := fun p => if a ≤ p ∧ p < a + n then 0 else f p
theorem clr_next (f : Nat → Int) (a n : Nat) : clr (upN f a 0) (a + 1) n = clr f a (n + 1) := by
  funext p
  unfold clr upN
  by_cases h : p = a
  · rw [if_neg (by omega), if_pos h, if_pos (by omega)]
  · by_cases h2 : a + 1 ≤ p ∧ p < a + 1 + n
    · rw [if_pos h2, if_pos (by omega)]
    · rw [if_neg h2, if_neg h, if_neg (by omega)]
theorem ArMem.clear : ∀ (n a : Nat) (w : World) (s : Ar), ArMem B w s → ArMem B (w.setCells B.m a (List.replicate n (.int .i64 0))) { s with mem := clr s.mem a n } ∧ FrA B w (w.setCells B.m a (List.replicate n (.int .i64 0)))
  | 0, a, w, s, h => by
    have e : clr s.mem a 0 = s.mem := by
      funext p
      unfold clr
      rw [if_neg (by omega)]
    rw [e]
    exact ⟨h, FrA.refl _ _⟩
  | n + 1, a, w, s, h => by
    have h2 := ArMem.clear n (a + 1) _ _ (h.setMem a 0)
    simp only [clr_next] at h2
    exact ⟨h2.1, ((FrA.refl B w).setCell (.inr (.inr (.inl rfl))) _ _).trans h2.2⟩
theorem slot_put (B : Ab) (s : Ar) (k x : Int) (hx : x ≠ 0) : upF (slotF B s) k (some (.agg #[.int .i64 x, .slice (some ⟨B.m, bN k, none⟩) (zN k) (zN k)])) = slotF B { s with st := upI s.st k x } := by
  funext j
  unfold upF slotF slotV
  by_cases e : j = k
  · subst e
    simp only [upI_same, if_true]
    rw [if_neg hx]
  · simp only [upI_other _ _ e, if_neg e]
theorem gen_put {f : Int → Option Value} {g : Int → Int} (he : ∀ k, (f k).getD (.int .i64 0) = .int .i64 (g k)) (k x : Int) : ∀ j, (upF f k (some (.int .i64 x)) j).getD (.int .i64 0) = .int .i64 (upI g k x j) := by
  intro j
  unfold upF upI
  split
  · rfl
  · exact he j
/-- what Born leaves, over letters -/
def bornL (s : Ar) (k : Int) (b z : Nat) : Ar :=
  { s with st := upI s.st k 1, gen := upI s.gen b (opB k), was := fun p => if b ≤ p ∧ p < b + z then true else s.was p, tak := fun p => if b ≤ p ∧ p < b + z then true else s.tak p,
           mem := if s.fresh = true then clr s.mem b z else s.mem, cC := wrap64 (s.cC + newC s.was b z), cL := wrap64 (s.cL + z) }
theorem born_eq (s : Ar) (k : Int) : bornS s k = bornL s k (bN k) (zN k) := by
  unfold bornS bornL
  congr 1
  cases hf : s.fresh
  · simp
  · simp only [true_and, if_true]
    rfl
theorem born_keep {s S0 : Ar} {k : Int} {b z : Nat} (hf : s.fresh = false) (h0 : S0 = s) : bornL s k b z = { carveS { S0 with st := upI S0.st k 1, gen := upI s.gen b (opB k) } b z with cL := wrap64 (S0.cL + z) } := by
  subst h0
  unfold bornL carveS
  rw [hf]
  rfl
theorem born_clear {s S0 : Ar} {k : Int} {b z : Nat} (hf : s.fresh = true) (h0 : S0 = { s with mem := clr s.mem b z }) : bornL s k b z = { carveS { S0 with st := upI S0.st k 1, gen := upI s.gen b (opB k) } b z with cL := wrap64 (S0.cL + z) } := by
  subst h0
  unfold bornL carveS
  rw [if_pos hf]
end
end Go.Proofs.Ytfljoedjnigfjaa.A9
namespace Go.Proofs.Ytfljoedjnigfjaa.A9
open Go.RowKit
open H8 (okP packV packF opA opB opC isH sizeF szT HTab)
section
variable {B : Ab} {w : World} {s : Ar}
end
end Go.Proofs.Ytfljoedjnigfjaa.A9
