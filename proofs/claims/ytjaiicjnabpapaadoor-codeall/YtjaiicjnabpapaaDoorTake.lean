/-
  What package code's reader answers: numbers out of bytes, 0 behind their end.
-/
import Derived.Test.YtjaiicjnabpapaaDoorAwake
import Derived.Laws.BitsAllLaws
namespace Go.Proofs.YtjaiicjnabpapaaDoor
open Go.RowKit

def byteAt (s : List UInt8) (i : Nat) : Int := ((s.getD i 0).toNat : Int)
theorem byteAt_bd (s : List UInt8) (i : Nat) : 0 ≤ byteAt s i ∧ byteAt s i ≤ 255 := by
  have := (s.getD i 0).toNat_lt
  unfold byteAt
  omega
/-- so many bytes from a place on as one number of 32 bits -/
def rdU (s : List UInt8) (p : Nat) : Nat → Int
  | 0 => 0
  | k + 1 => rdU s p k * 256 % 4294967296 + byteAt s (p + k)
theorem rdU_bd (s : List UInt8) (p k : Nat) : 0 ≤ rdU s p k ∧ rdU s p k ≤ 4294967295 := by
  cases k with
  | zero => simp [rdU]
  | succ k =>
    have := byteAt_bd s (p + k)
    simp only [rdU]
    omega
theorem wrap32_bd (v : Int) : -2147483648 ≤ wrap32 v ∧ wrap32 v ≤ 2147483647 := by unfold wrap32; omega
/-- a reader over these bytes, at a place -/
def ReadAt (w : World) (g : Nat) (s : ByteArray) (p : Nat) : Prop := w.heap[g]? = some (.cells #[.string s, .int .i64 (p : Int)] 55 (0, 0))
def takeV (s : List UInt8) (p k : Nat) : Int := wrap32 (rdU s p k)
theorem or_low (x : Int) (b : UInt8) : bits .or .u32 (x * 256 % 4294967296) ((b.toNat : Int) % 4294967296) = x * 256 % 4294967296 + (b.toNat : Int) := by
  have hb := b.toNat_lt
  have e2 : ((b.toNat : Int) % 4294967296) = (b.toNat : Int) := by omega
  obtain ⟨m, hm, hm2⟩ : ∃ m : Nat, x * 256 % 4294967296 = ((2 ^ 8 * m : Nat) : Int) ∧ m < 16777216 := ⟨(x % 16777216).toNat, by omega, by omega⟩
  rw [e2, hm]
  have h1 : (BitVec.ofInt 32 ((2 ^ 8 * m : Nat) : Int)).toNat = 2 ^ 8 * m := by rw [BitVec.toNat_ofInt]; omega
  have h2 : (BitVec.ofInt 32 (b.toNat : Int)).toNat = b.toNat := by rw [BitVec.toNat_ofInt]; omega
  show IntKind.u32.wrap ((BitVec.ofInt 32 ((2 ^ 8 * m : Nat) : Int) ||| BitVec.ofInt 32 (b.toNat : Int)).toNat : Nat) = _
  rw [BitVec.toNat_or, h1, h2, ← Nat.two_pow_add_eq_or_of_lt (by omega)]
  rw [IntKind.wrap_u32]
  omega
theorem read_set {w : World} {g : Nat} {s : ByteArray} {q : Int} (hg : w.heap[g]? = some (.cells #[.string s, .int .i64 q] 55 (0, 0))) (n : Nat) (z : Int) : ((w.drewN n).setCell ⟨g, 1, none⟩ (.int .i64 z)).heap[g]? = some (.cells #[.string s, .int .i64 z] 55 (0, 0)) := by
  have := heap_setCell_same (w.drewN n) g 1 _ _ (.int .i64 z) hg
  simpa using this
theorem grown_set1 {w w1 : World} {g : Nat} (h : w.grownBy w1 (some g)) (n : Nat) (j : Nat) (u : Value) : w.grownBy ((w1.drewN n).setCell ⟨g, j, none⟩ u) (some g) :=
  ⟨h.os, h.tape, h.output, by have := h.size; simp [World.setCell]; omega, fun k hk hne => (Below.heap_setCell _ _ _ _ (fun e => hne (by rw [e]))).trans (h.block k hk hne)⟩
theorem byteAt_in {s : ByteArray} {q : Nat} (h : q < s.size) : byteAt s.data.toList q = (s[q].toNat : Int) := by
  have h2 : q < s.data.toList.length := by simpa using h
  unfold byteAt
  rw [List.getD_eq_getElem?_getD, List.getElem?_eq_getElem h2]
  rfl
theorem byteAt_out {s : ByteArray} {q : Nat} (h : ¬ q < s.size) : byteAt s.data.toList q = 0 := by
  have h2 : s.data.toList.length ≤ q := by simp; omega
  unfold byteAt
  rw [List.getD_eq_getElem?_getD, List.getElem?_eq_none h2]
  rfl
set_option maxHeartbeats 1000000 in
theorem take_any (g p : Nat) (s : ByteArray) (k : Int) (w : World) (hg : ReadAt w g s p) (h0 : 0 ≤ k) (h4 : k ≤ 4) (hp : p ≤ 1000000000) :
    Calls Tryd.prog 37 #[.pointer (some ⟨g, 0, none⟩), .int .i64 k] w fun e w' => e = .returned (.int .i64 (takeV s.data.toList p k.toNat)) ∧ ReadAt w' g s (p + k.toNat) ∧ w.grownBy w' (some g) := by
  go_enter Tryd.func37, Tryd.ntmps37
  go_wp2
  go_loopw [5, 7] (fun v i wr => ∃ j q : Nat, (j : Int) ≤ k ∧ i = .int .i64 j ∧ v = .int .u32 (rdU s.data.toList p j) ∧ q = p + j ∧ wr.heap[g]? = some (.cells #[.string s, .int .i64 (q : Int)] 55 (0, 0)) ∧ w.grownBy wr (some g))
    (fun _ i _ => (k - intOf i).toNat)
  case atStart => exact ⟨0, p, by omega, rfl, rfl, rfl, hg, World.grownBy.refl _ _⟩
  case round =>
    obtain ⟨j, q, hj, rfl, rfl, hq, hgr, hgrow⟩ := hrel
    have c0 := cell_of_row wr g 0 _ _ _ hgr
    have c1 := cell_of_row wr g 1 _ _ _ hgr
    have f1 := frozen_of_row wr g 1 _ _ hgr
    simp at c0 c1
    have hq2 : q ≤ 1000000004 := by omega
    have HQ : Hid (q = p + j) := hq
    clear hq
    have hbd := rdU_bd s.data.toList p j
    have hwb := wrap32_bd (rdU s.data.toList p j)
    by_cases hlt : (j : Int) < k
    · by_cases hin : q < s.size
      · have hd : decide ((q : Int) < (s.size : Int)) = true := by simp; omega
        go_wp2
        go_quiet (fail)
        go_wp2
        go_quiet (fail)
        go_wp2
        go_roundw
        case rel => exact ⟨j + 1, q + 1, by omega, by go_num, by rw [or_low _, rdU, ← HQ.out, byteAt_in hin], by have := HQ.out; omega, read_set hgr _ _, grown_set1 hgrow _ _ _⟩
        case measure => simp [intOf]; omega
      · have hd : decide ((q : Int) < (s.size : Int)) = false := by simp; omega
        go_wp2
        go_quiet (fail)
        go_wp2
        go_roundw
        case rel => exact ⟨j + 1, q + 1, by omega, by go_num, by rw [rdU, ← HQ.out, byteAt_out hin, Int.add_zero], by have := HQ.out; omega, read_set hgr _ _, grown_set1 hgrow _ _ _⟩
        case measure => simp [intOf]; omega
    · have hjk : j = k.toNat := by omega
      have HJ : Hid (j = k.toNat) := hjk
      clear hjk
      go_wp2
      go_ret
      exact ⟨ret_i64 (by rw [takeV, ← HJ.out]), by rw [← HJ.out, ← HQ.out]; exact hgr, hgrow⟩
end Go.Proofs.YtjaiicjnabpapaaDoor
