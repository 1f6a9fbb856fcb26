/-
  Helpers: A9Rg.
-/
import Derived.WalkKit
import Derived.Below
import Derived.RegionTactic
import Derived.MapKept
namespace Go.Proofs.YtopnkfbcphbbiaaDoor.A9
open Go.RowKit Go.MapKept

def onB (m : Nat → Bool) (k : Nat) : Nat → Bool := fun j => if j = k then true else m j
def onV (x : Nat → Value) (k : Nat) (v : Value) : Nat → Value := fun j => if j = k then v else x j
def leftB (m : Nat → Bool) : Nat → Nat
  | 0 => 0
  | n + 1 => leftB m n + if m n = true then 0 else 1
theorem left_on {m : Nat → Bool} {k : Nat} (hk : m k = false) : ∀ n, (k < n → leftB (onB m k) n + 1 = leftB m n) ∧ (n ≤ k → leftB (onB m k) n = leftB m n)
  | 0 => ⟨by omega, fun _ => rfl⟩
  | n + 1 => by
    obtain ⟨h1, h2⟩ := left_on hk n
    refine ⟨fun h => ?_, fun h => ?_⟩
    · by_cases e : n = k
      · subst e
        have := h2 (Nat.le_refl _)
        simp only [leftB, hk, onB, this]
        simp
      · have := h1 (by omega)
        simp only [leftB]
        rw [show onB m k n = m n from if_neg e]
        omega
    · have := h2 (by omega)
      simp only [leftB]
      rw [show onB m k n = m n from if_neg (by omega), this]
theorem left_none {m : Nat → Bool} : ∀ {n : Nat}, leftB m n = 0 → ∀ k, k < n → m k = true
  | 0, _, k, hk => by omega
  | n + 1, h, k, hk => by
    simp only [leftB] at h
    by_cases e : k = n
    · subst e
      by_cases h2 : m k = true
      · exact h2
      · rw [if_neg h2] at h; omega
    · exact left_none (n := n) (m := m) (by omega) k (by omega)
/-- what has been made: object k lies in a block of its own -/
structure Made (n : Nat) (ob : Nat → Obj) (w0 : World) (m : Nat → Bool) (b : Nat → Nat) (w : World) : Prop where
  at_ : ∀ k, k < n → m k = true → w.heap[b k]? = some (ob k) ∧ w0.heap.size ≤ b k
  two : ∀ k l, k < n → l < n → m k = true → m l = true → k ≠ l → b k ≠ b l
  low : Below w0.heap.size w0 w
theorem makes {P : Program} {md : Region.Mode} {ops : Array Oper} {Q : Exit → Act → World → Prop} (n : Nat) (L : (Nat → Bool) → Array Bool) (A : (Nat → Value) → Act) (i : Nat → Nat) (val : Nat → Nat → Value) (ob : Nat → Obj) (w0 : World) (fe : Nat)
    (hr : ∀ m, leftB m n ≠ 0 → Region.ready md ops (L m) ≠ [] ∧ ∀ j ∈ Region.ready md ops (L m), ∃ k, k < n ∧ m k = false ∧ j = i k)
    (hs : ∀ m k, k < n → (L m).setIfInBounds (i k) true = L (onB m k))
    (hop : ∀ k, k < n → ∃ o, ops[i k]? = some o ∧ ∀ (x : Nat → Value) (w : World) (K : Act → World → Prop), K (A (onV x k (val k w.heap.size))) (w.alloc (ob k)) → if Region.wanted o (yielded ops (A x).tmps) = true then Oper.wp P o (A x) w K Q else K ((A x).put o.dst undef) w)
    (hend : ∀ m b x w, (∀ k, k < n → m k = true) → Made n ob w0 m b w → (∀ k, k < n → x k = val k (b k)) → wpAny P md ops Q fe (L m) (A x) w) :
    ∀ r m b x w, leftB m n = r → Made n ob w0 m b w → (∀ k, k < n → m k = true → x k = val k (b k)) → wpAny P md ops Q (r + fe) (L m) (A x) w
  | 0, m, b, x, w, hm, hM, hx => by
    rw [Nat.zero_add]
    have ha := left_none hm
    exact hend m b x w ha hM fun k hk => hx k hk (ha k hk)
  | r + 1, m, b, x, w, hm, hM, hx => by
    obtain ⟨hne, hin⟩ := hr m (by omega)
    rw [show r + 1 + fe = (r + fe) + 1 by omega]
    refine wpAny_all rfl hne fun j hj => ?_
    obtain ⟨k, hk, hf, rfl⟩ := hin j hj
    obtain ⟨o, ho, hstep⟩ := hop k hk
    refine wpOp_step ho fun K' hK => hstep x w K' (hK _ _ ?_)
    rw [hs m k hk]
    have hlt : ∀ l, l < n → m l = true → b l < w.heap.size := fun l hl ht => (Array.getElem?_eq_some_iff.1 (hM.at_ l hl ht).1).1
    refine makes n L A i val ob w0 fe hr hs hop hend r (onB m k) (fun l => if l = k then w.heap.size else b l) _ _ (by have := (left_on hf n).1 hk; omega) ⟨fun l hl ht => ?_, fun l p hl hp hlt' hpt hne' => ?_, hM.low.alloc hM.low.size _⟩ fun l hl ht => ?_
    · by_cases e : l = k
      · subst e
        simp only [if_true]
        exact ⟨(heap_alloc w _).1, hM.low.size⟩
      · rw [show onB m k l = m l from if_neg e] at ht
        simp only [if_neg e]
        exact ⟨(Below.heap_alloc _ _ _ (hlt l hl ht)).trans (hM.at_ l hl ht).1, (hM.at_ l hl ht).2⟩
    · by_cases e : l = k
      · subst e
        have e2 : p ≠ l := fun h => hne' h.symm
        rw [show onB m l p = m p from if_neg e2] at hpt
        simp only [if_true, if_neg e2]
        have := hlt p hp hpt
        omega
      · rw [show onB m k l = m l from if_neg e] at hlt'
        by_cases e2 : p = k
        · subst e2
          simp only [if_true, if_neg e]
          have := hlt l hl hlt'
          omega
        · rw [show onB m k p = m p from if_neg e2] at hpt
          simp only [if_neg e, if_neg e2]
          exact hM.two l p hl hp hlt' hpt hne'
    · by_cases e : l = k
      · subst e
        simp only [onV, if_true]
      · rw [show onB m k l = m l from if_neg e] at ht
        simp only [onV, if_neg e]
        exact hx l hl ht
end Go.Proofs.YtopnkfbcphbbiaaDoor.A9
