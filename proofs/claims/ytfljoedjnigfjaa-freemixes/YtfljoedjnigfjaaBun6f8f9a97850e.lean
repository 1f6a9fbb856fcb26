/-
  Helpers: A9ArR, A9ArQ.
-/
import Derived.Test.YtfljoedjnigfjaaBun976a25ce4bc3
import Derived.Deep.RegionLaw
namespace Go.Proofs.Ytfljoedjnigfjaa.A9
open Go.RowKit
open Go.MapKept
open H8 (okP packV packF opA opB opC isH sizeF szT HTab)
section
variable {B : Ab} {w : World} {s : Ar}
end
end Go.Proofs.Ytfljoedjnigfjaa.A9
namespace Go.Proofs.Ytfljoedjnigfjaa.A9
open Go.RowKit
open Go.MapKept
open H8 (okP packV packF opA opB opC isH sizeF szT HTab)
theorem step_clear {P : Program} {ops : Array Oper} {o : Oper} {a : Act} {w : World} {K : Act → World → Prop} {Q : Exit → Act → World → Prop} {E : Prop} (hg : o.guard = none) (x : Operand) (T : TypeId) (hop : o.op = Op.call { callee := Callee.builtin Builtin.clear, args := #[x], argTypes := #[T] }) (v : Value) (hx : a.eval x = v) (w' : World)
    (hrun : (Builtin.clear_ #[T] o.type #[v]).run P w = .ok (.tuple #[]) w') (h : K (a.put o.dst (.tuple #[])) w') : if Region.wanted o (yielded ops a.tmps) = true then Oper.wp P o a w K Q else E := by
  have hw : Region.wanted o (yielded ops a.tmps) = true := by simp [Region.wanted, hg]
  rw [if_pos hw]
  unfold Oper.wp
  simp [execOp, hop, resolve, invoke, builtin, hx, hrun, Result.andThen]
  exact h
theorem put_none (a : Act) (v : Value) : a.put none v = a := rfl
theorem zeroB (w : World) : (zeroValue 4).run Try.prog w = .ok (.bool false) w := by kernel_rfl
section
variable {B : Ab} {w : World} {s : Ar}
def clrB (f : Nat → Bool) (a : Nat) (n : Nat) : Nat → Bool := fun p => if a ≤ p ∧ p < a + n then false else f p
theorem clrB_next (f : Nat → Bool) (a n : Nat) : clrB (fun j => if j = a then false else f j) (a + 1) n = clrB f a (n + 1) := by
  funext p
  unfold clrB
  simp only
  by_cases h : p = a
  · rw [if_neg (by omega), if_pos h, if_pos (by omega)]
  · by_cases h2 : a + 1 ≤ p ∧ p < a + 1 + n
    · rw [if_pos h2, if_pos (by omega)]
    · rw [if_neg h2, if_neg h, if_neg (by omega)]
theorem ArMem.untake : ∀ (n a : Nat) (w : World) (s : Ar), ArMem B w s → ArMem B (w.setCells B.t a (List.replicate n (.bool false))) { s with tak := clrB s.tak a n } ∧ FrA B w (w.setCells B.t a (List.replicate n (.bool false)))
  | 0, a, w, s, h => by
    have e : clrB s.tak a 0 = s.tak := by
      funext p
      unfold clrB
      rw [if_neg (by omega)]
    rw [e]
    exact ⟨h, FrA.refl _ _⟩
  | n + 1, a, w, s, h => by
    have h2 := ArMem.untake n (a + 1) _ _ (h.setTak a false)
    simp only [clrB_next] at h2
    exact ⟨h2.1, ((FrA.refl B w).setCell (.inr (.inr (.inr (.inr (.inl rfl))))) _ _).trans h2.2⟩
theorem slot_del (B : Ab) (s : Ar) (k : Int) : upF (slotF B s) k none = slotF B { s with st := upI s.st k 0 } := by
  funext j
  unfold upF slotF slotV
  by_cases e : j = k
  · subst e
    simp only [upI_same, if_true]
  · simp only [upI_other _ _ e, if_neg e]
end
end Go.Proofs.Ytfljoedjnigfjaa.A9
