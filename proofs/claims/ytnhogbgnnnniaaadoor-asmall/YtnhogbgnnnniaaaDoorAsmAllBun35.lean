/-
  Helpers: Dec.
-/
import Derived.Test.YtnhogbgnnnniaaaDoorAsmAllBun32
import Derived.Test.YtnhogbgnnnniaaaDoorAsmAllBun31
import Derived.Deep.QuietTactic
import Derived.BigQuiet
namespace Go.Proofs.YtnhogbgnnnniaaaDoor
open Go.RowKit L3

theorem drew_below {w w1 : World} (h : ∃ m, w1 = w.drewN m) : Below w.heap.size w w1 := by
  obtain ⟨m, rfl⟩ := h
  exact C2.below_drewN (Below.refl _ _) m
theorem byteOf_dig (k : Nat) (hk : k < 10) : L3.byteOf ((k : Int) + 48) = UInt8.ofNat (48 + k) := by
  unfold L3.byteOf
  congr 1
  omega
theorem decN_len : ∀ (n : Nat), n < 10000000 → (decN n).length ≤ 7 := by
  intro n hn
  have h : ∀ (k n : Nat), n < 10 ^ (k + 1) → (decN n).length ≤ k + 1 := by
    intro k
    induction k with
    | zero => intro n hn; rw [decN, if_pos (by simpa using hn)]; simp
    | succ k ih =>
      intro n hn
      rw [decN]
      split
      · simp
      · have := ih (n / 10) (by rw [Nat.pow_succ] at hn; omega)
        simp
        omega
  exact h 6 n (by simpa using hn)
end Go.Proofs.YtnhogbgnnnniaaaDoor
