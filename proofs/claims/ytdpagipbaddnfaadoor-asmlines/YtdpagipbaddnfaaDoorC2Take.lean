/-
  What package code's reader answers: numbers out of bytes, 0 behind their end.
-/
import Derived.Test.YtdpagipbaddnfaaDoorC2Awake
import Derived.Laws.BitsAllLaws
namespace Go.Proofs.YtdpagipbaddnfaaDoor.C2
open Go.RowKit

def byteAt (s : List UInt8) (i : Nat) : Int := ((s.getD i 0).toNat : Int)
theorem byteAt_bd (s : List UInt8) (i : Nat) : 0 ≤ byteAt s i ∧ byteAt s i ≤ 255 := by
  have := (s.getD i 0).toNat_lt
  unfold byteAt
  omega
/-- so many bytes from a place on as one number of 32 bits -/
def rdU (s : List UInt8) (p : Nat) : Nat → Int
  | 0 => 0
  | k + 1 => rdU s p k * 256 % 4294967296 + byteAt s (p + k)
theorem rdU_bd (s : List UInt8) (p k : Nat) : 0 ≤ rdU s p k ∧ rdU s p k ≤ 4294967295 := by
  cases k with
  | zero => simp [rdU]
  | succ k =>
    have := byteAt_bd s (p + k)
    simp only [rdU]
    omega
theorem wrap32_bd (v : Int) : -2147483648 ≤ wrap32 v ∧ wrap32 v ≤ 2147483647 := by unfold wrap32; omega
def takeV (s : List UInt8) (p k : Nat) : Int := wrap32 (rdU s p k)
theorem or_low (x : Int) (b : UInt8) : bits .or .u32 (x * 256 % 4294967296) ((b.toNat : Int) % 4294967296) = x * 256 % 4294967296 + (b.toNat : Int) := by
  have hb := b.toNat_lt
  have e2 : ((b.toNat : Int) % 4294967296) = (b.toNat : Int) := by omega
  obtain ⟨m, hm, hm2⟩ : ∃ m : Nat, x * 256 % 4294967296 = ((2 ^ 8 * m : Nat) : Int) ∧ m < 16777216 := ⟨(x % 16777216).toNat, by omega, by omega⟩
  rw [e2, hm]
  have h1 : (BitVec.ofInt 32 ((2 ^ 8 * m : Nat) : Int)).toNat = 2 ^ 8 * m := by rw [BitVec.toNat_ofInt]; omega
  have h2 : (BitVec.ofInt 32 (b.toNat : Int)).toNat = b.toNat := by rw [BitVec.toNat_ofInt]; omega
  show IntKind.u32.wrap ((BitVec.ofInt 32 ((2 ^ 8 * m : Nat) : Int) ||| BitVec.ofInt 32 (b.toNat : Int)).toNat : Nat) = _
  rw [BitVec.toNat_or, h1, h2, ← Nat.two_pow_add_eq_or_of_lt (by omega)]
  rw [IntKind.wrap_u32]
  omega
theorem grown_set1 {w w1 : World} {g : Nat} (h : w.grownBy w1 (some g)) (n : Nat) (j : Nat) (u : Value) : w.grownBy ((w1.drewN n).setCell ⟨g, j, none⟩ u) (some g) :=
  ⟨h.os, h.tape, h.output, by have := h.size; simp [World.setCell]; omega, fun k hk hne => (Below.heap_setCell _ _ _ _ (fun e => hne (by rw [e]))).trans (h.block k hk hne)⟩
theorem byteAt_in {s : ByteArray} {q : Nat} (h : q < s.size) : byteAt s.data.toList q = (s[q].toNat : Int) := by
  have h2 : q < s.data.toList.length := by simpa using h
  unfold byteAt
  rw [List.getD_eq_getElem?_getD, List.getElem?_eq_getElem h2]
  rfl
theorem byteAt_out {s : ByteArray} {q : Nat} (h : ¬ q < s.size) : byteAt s.data.toList q = 0 := by
  have h2 : s.data.toList.length ≤ q := by simp; omega
  unfold byteAt
  rw [List.getD_eq_getElem?_getD, List.getElem?_eq_none h2]
  rfl
end Go.Proofs.YtdpagipbaddnfaaDoor.C2