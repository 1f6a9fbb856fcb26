/-
  What package code's reader answers: instructions, functions, programs out of bytes.
-/
import Derived.Test.YtdpagipbaddnfaaDoorC2Take
namespace Go.Proofs.YtdpagipbaddnfaaDoor.C2
open Go.RowKit

/-- where an instruction's operand lies that begins at p -/
def rdPos (o : Int) (p : Nat) : Nat → Nat
  | 0 => p + 1
  | k + 1 => rdPos o p k + (widthOf o k).toNat
def rdO (s : List UInt8) (p : Nat) : Int := takeV s p 1
def rdA (s : List UInt8) (p k : Nat) : Int := takeV s (rdPos (rdO s p) p k) (widthOf (rdO s p) k).toNat
/-- the instruction at p -/
def rdI (s : List UInt8) (p : Nat) : In := ⟨rdO s p, rdA s p 0, rdA s p 1, rdA s p 2⟩
/-- and where the next one begins -/
def rdN (s : List UInt8) (p : Nat) : Nat := rdPos (rdO s p) p 3
theorem rdPos_le (o : Int) (p k : Nat) : rdPos o p k ≤ p + 1 + 4 * k := by
  induction k with
  | zero => simp [rdPos]
  | succ k ih =>
    have := widthOf_bd o k
    simp only [rdPos]
    omega
theorem grown_trans {a b c : World} {row : Option Nat} (h : a.grownBy b row) (k : b.grownBy c row) : a.grownBy c row :=
  ⟨k.os.trans h.os, k.tape.trans h.tape, k.output.trans h.output, Nat.le_trans h.size k.size, fun i hi hne => (k.block i (Nat.lt_of_lt_of_le hi h.size) hne).trans (h.block i hi hne)⟩
theorem grown_setCell' {w w1 : World} {row : Option Nat} (h : w.grownBy w1 row) {p : Addr} (hp : w.heap.size ≤ p.block) (u : Value) : w.grownBy (w1.setCell p u) row :=
  ⟨h.os, h.tape, h.output, by have := h.size; simp [World.setCell]; omega, fun k hk hne => (Below.heap_setCell _ _ _ _ (by omega)).trans (h.block k hk hne)⟩
theorem grown_alloc {a b : World} {row : Option Nat} (h : a.grownBy b row) (o : Obj) : a.grownBy (b.alloc o) row := grown_trans h (World.grownBy_alloc _ _ _)
theorem four_old (w : World) (a b c d : Obj) (k : Nat) (h : k < w.heap.size) : ((((w.alloc a).alloc b).alloc c).alloc d).drew.heap[k]? = w.heap[k]? := by
  rw [heap_drew, Below.heap_alloc _ _ _ (by simp; omega), Below.heap_alloc _ _ _ (by simp; omega), Below.heap_alloc _ _ _ (by simp; omega), Below.heap_alloc _ _ _ h]
theorem four_first (w : World) (a b c d : Obj) : ((((w.alloc a).alloc b).alloc c).alloc d).drew.heap[w.heap.size]? = some a := by
  rw [heap_drew, Below.heap_alloc _ _ _ (by simp; omega), Below.heap_alloc _ _ _ (by simp; omega), Below.heap_alloc _ _ _ (by simp)]
  exact heap_alloc_new _ _
theorem four_third (w : World) (a b c d : Obj) : ((((w.alloc a).alloc b).alloc c).alloc d).drew.heap[w.heap.size + 1 + 1]? = some c := by
  rw [heap_drew, Below.heap_alloc _ _ _ (by simp)]
  have := heap_alloc_new ((w.alloc a).alloc b) c
  simpa using this
end Go.Proofs.YtdpagipbaddnfaaDoor.C2