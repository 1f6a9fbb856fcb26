/-
  What package code's reader answers: instructions, functions, programs out of bytes.
-/
import Derived.Test.YtjaiicjnabpapaaDoorTake
namespace Go.Proofs.YtjaiicjnabpapaaDoor
open Go.RowKit

/-- where an instruction's operand lies that begins at p -/
def rdPos (o : Int) (p : Nat) : Nat → Nat
  | 0 => p + 1
  | k + 1 => rdPos o p k + (widthOf o k).toNat
def rdO (s : List UInt8) (p : Nat) : Int := takeV s p 1
def rdA (s : List UInt8) (p k : Nat) : Int := takeV s (rdPos (rdO s p) p k) (widthOf (rdO s p) k).toNat
/-- the instruction at p -/
def rdI (s : List UInt8) (p : Nat) : In := ⟨rdO s p, rdA s p 0, rdA s p 1, rdA s p 2⟩
/-- and where the next one begins -/
def rdN (s : List UInt8) (p : Nat) : Nat := rdPos (rdO s p) p 3
theorem rdPos_le (o : Int) (p k : Nat) : rdPos o p k ≤ p + 1 + 4 * k := by
  induction k with
  | zero => simp [rdPos]
  | succ k ih =>
    have := widthOf_bd o k
    simp only [rdPos]
    omega
theorem grown_trans {a b c : World} {row : Option Nat} (h : a.grownBy b row) (k : b.grownBy c row) : a.grownBy c row :=
  ⟨k.os.trans h.os, k.tape.trans h.tape, k.output.trans h.output, Nat.le_trans h.size k.size, fun i hi hne => (k.block i (Nat.lt_of_lt_of_le hi h.size) hne).trans (h.block i hi hne)⟩
theorem grown_setCell' {w w1 : World} {row : Option Nat} (h : w.grownBy w1 row) {p : Addr} (hp : w.heap.size ≤ p.block) (u : Value) : w.grownBy (w1.setCell p u) row :=
  ⟨h.os, h.tape, h.output, by have := h.size; simp [World.setCell]; omega, fun k hk hne => (Below.heap_setCell _ _ _ _ (by omega)).trans (h.block k hk hne)⟩
theorem grown_alloc {a b : World} {row : Option Nat} (h : a.grownBy b row) (o : Obj) : a.grownBy (b.alloc o) row := grown_trans h (World.grownBy_alloc _ _ _)
theorem ReadAt.kept {w w' : World} {g p : Nat} {s : ByteArray} (h : ReadAt w g s p) (hb : w'.heap[g]? = w.heap[g]?) : ReadAt w' g s p := hb.trans h
theorem ReadAt.lt {w : World} {g p : Nat} {s : ByteArray} (h : ReadAt w g s p) : g < w.heap.size := lt_of_block h
theorem four_old (w : World) (a b c d : Obj) (k : Nat) (h : k < w.heap.size) : ((((w.alloc a).alloc b).alloc c).alloc d).drew.heap[k]? = w.heap[k]? := by
  rw [heap_drew, Below.heap_alloc _ _ _ (by simp; omega), Below.heap_alloc _ _ _ (by simp; omega), Below.heap_alloc _ _ _ (by simp; omega), Below.heap_alloc _ _ _ h]
theorem four_first (w : World) (a b c d : Obj) : ((((w.alloc a).alloc b).alloc c).alloc d).drew.heap[w.heap.size]? = some a := by
  rw [heap_drew, Below.heap_alloc _ _ _ (by simp; omega), Below.heap_alloc _ _ _ (by simp; omega), Below.heap_alloc _ _ _ (by simp)]
  exact heap_alloc_new _ _
theorem four_third (w : World) (a b c d : Obj) : ((((w.alloc a).alloc b).alloc c).alloc d).drew.heap[w.heap.size + 1 + 1]? = some c := by
  rw [heap_drew, Below.heap_alloc _ _ _ (by simp)]
  have := heap_alloc_new ((w.alloc a).alloc b) c
  simpa using this
/-- what lies in memory while an instruction is read -/
structure IR (w w1 wr : World) (g : Nat) (s : ByteArray) (o x1 x2 x3 : Int) (p : Nat) : Prop where
  res : wr.heap[w.heap.size]? = some (.cells #[.int .i64 0, .int .i64 0, .int .i64 0, .int .i64 0] 26 (0, 0))
  box : wr.heap[w1.heap.size]? = some (.cells #[.int .i64 o, .int .i64 x1, .int .i64 x2, .int .i64 x3] 26 (0, 0))
  wid : wr.heap[w1.heap.size + 1 + 1]? = some (.cells #[.int .i64 (widthOf o 0), .int .i64 (widthOf o 1), .int .i64 (widthOf o 2)] 44 (0, 0))
  read : ReadAt wr g s p
  grown : w.grownBy wr (some g)
theorem ir_set {w w1 wr : World} {g : Nat} {s : ByteArray} {o x1 x2 x3 : Int} {p : Nat} (k : Nat) (h : IR w w1 wr g s o x1 x2 x3 p) (hk : k < 3) (hz : w.heap.size < w1.heap.size) (hgl : g < w1.heap.size) {z : Int} :
    IR w w1 (wr.setCell ⟨w1.heap.size, k + 1, none⟩ (.int .i64 z)) g s o (if k = 0 then z else x1) (if k = 1 then z else x2) (if k = 2 then z else x3) p := by
  refine ⟨(Below.heap_setCell _ _ _ _ (by simp; omega)).trans h.res, ?_, (Below.heap_setCell _ _ _ _ (by simp; omega)).trans h.wid, h.read.kept (Below.heap_setCell _ _ _ _ (by simp; omega)), grown_setCell' h.grown (by simp; omega) _⟩
  rw [heap_setCell_same _ _ _ _ _ _ h.box]
  rcases (by omega : k = 0 ∨ k = 1 ∨ k = 2) with rfl | rfl | rfl <;> simp
set_option maxHeartbeats 1000000 in
theorem instruction_any (g p : Nat) (s : ByteArray) (w : World) (hg : ReadAt w g s p) (hp : p ≤ 900000000) :
    Calls Tryd.prog 39 #[.pointer (some ⟨g, 0, none⟩)] w fun e w' => e = .returned (.agg #[.int .i64 (rdO s.data.toList p), .int .i64 (rdA s.data.toList p 0), .int .i64 (rdA s.data.toList p 1), .int .i64 (rdA s.data.toList p 2)]) ∧ ReadAt w' g s (rdN s.data.toList p) ∧ w.grownBy w' (some g) := by
  have hlt := hg.lt
  go_enter Tryd.func39, Tryd.ntmps39
  go_wp2_with fail
  refine (take_any g p s _ _ (hg.kept (Below.heap_alloc _ _ _ hlt)) (by omega) (by omega) (by omega)).mono ?_
  rintro e w1 ⟨rfl, hg1, hgr1'⟩
  have hR1 : w1.heap[w.heap.size]? = some (.cells #[.int .i64 0, .int .i64 0, .int .i64 0, .int .i64 0] 26 (0, 0)) := (hgr1'.block _ (by simp) (by simp; omega)).trans (heap_alloc_new _ _)
  have hgr1 : w.grownBy w1 (some g) := grown_trans (World.grownBy_alloc _ _ _) hgr1'
  clear hgr1' hg
  generalize ho : takeV s.data.toList p (Int.toNat 1) = o at *
  have HO : Hid (rdO s.data.toList p = o) := ho
  clear ho
  have hz1 : w.heap.size < w1.heap.size := lt_of_block hR1
  go_wp2_with (first | (go_at_call 35; refine (widths_any _ _).mono ?_; rintro e w' ⟨rfl, rfl⟩) | (go_at_call 29; refine (fields_any _ _ _).mono ?_; rintro e w' ⟨rfl, rfl⟩))
  go_loopw [14] (fun i wr => ∃ k : Nat, k ≤ 3 ∧ i = .int .i64 k ∧ IR w w1 wr g s o (if 0 < k then takeV s.data.toList (rdPos o p 0) (widthOf o 0).toNat else 0) (if 1 < k then takeV s.data.toList (rdPos o p 1) (widthOf o 1).toNat else 0) (if 2 < k then takeV s.data.toList (rdPos o p 2) (widthOf o 2).toNat else 0) (rdPos o p k)) (fun i _ => 3 - (intOf i).toNat)
  case atStart =>
    refine ⟨0, by omega, rfl, ?_, ?_, ?_, ?_, ?_⟩
    · exact (four_old _ _ _ _ _ _ hz1).trans hR1
    · simpa using four_first w1 _ _ _ _
    · simpa using four_third w1 _ _ _ _
    · exact hg1.kept (four_old _ _ _ _ _ _ hg1.lt)
    · exact ⟨hgr1.os, hgr1.tape, hgr1.output, by have := hgr1.size; simp; omega, fun k hk hne => (four_old _ _ _ _ _ _ (Nat.lt_of_lt_of_le hk hgr1.size)).trans (hgr1.block k hk hne)⟩
  case round =>
    obtain ⟨k, hk, rfl, hI⟩ := hrel
    rcases (by omega : k = 0 ∨ k = 1 ∨ k = 2 ∨ k = 3) with rfl | rfl | rfl | rfl
    · have hx : ∀ wx : World, (Instr.index 58 (.agg #[.pointer (some ⟨w1.heap.size, 1, none⟩), .pointer (some ⟨w1.heap.size, 2, none⟩), .pointer (some ⟨w1.heap.size, 3, none⟩)]) (.int .i64 0)).run Tryd.prog wx = .ok (.pointer (some ⟨w1.heap.size, 1, none⟩)) wx := fun _ => by kernel_rfl
      simp at hI
      obtain ⟨hR, hX, hW, hrd, hgr⟩ := hI
      have cw := cell_of_row wr _ 0 _ _ _ hW
      simp at cw
      have hwb := widthOf_bd o 0
      have hpl := rdPos_le o p 0
      go_wp2_with fail
      refine (take_any g _ s _ _ hrd hwb.1 hwb.2 (by omega)).mono ?_
      rintro e w2 ⟨rfl, hrd2, hgr2⟩
      have hR2 := (hgr2.block _ (lt_of_block hR) (by simp; omega)).trans hR
      have hX2 := (hgr2.block _ (lt_of_block hX) (by simp; omega)).trans hX
      have hW2 := (hgr2.block _ (lt_of_block hW) (by simp; omega)).trans hW
      have cx := cell_of_row w2 _ 1 _ _ _ hX2
      have fx := frozen_of_row w2 _ 1 _ _ hX2
      simp at cx
      go_wp2_with fail
      go_roundw
      case rel => exact ⟨1, by omega, rfl, by have e : rdPos o p 1 = rdPos o p 0 + (widthOf o 0).toNat := rfl; simpa [e] using ir_set (wr := w2) 0 ⟨hR2, hX2, hW2, hrd2, grown_trans hgr hgr2⟩ (by omega) (by omega) (by omega)⟩
      case measure => simp [intOf]
    · have hx : ∀ wx : World, (Instr.index 58 (.agg #[.pointer (some ⟨w1.heap.size, 1, none⟩), .pointer (some ⟨w1.heap.size, 2, none⟩), .pointer (some ⟨w1.heap.size, 3, none⟩)]) (.int .i64 1)).run Tryd.prog wx = .ok (.pointer (some ⟨w1.heap.size, 2, none⟩)) wx := fun _ => by kernel_rfl
      simp at hI
      obtain ⟨hR, hX, hW, hrd, hgr⟩ := hI
      have cw := cell_of_row wr _ 1 _ _ _ hW
      simp at cw
      have hwb := widthOf_bd o 1
      have hpl := rdPos_le o p 1
      go_wp2_with fail
      refine (take_any g _ s _ _ hrd hwb.1 hwb.2 (by omega)).mono ?_
      rintro e w2 ⟨rfl, hrd2, hgr2⟩
      have hR2 := (hgr2.block _ (lt_of_block hR) (by simp; omega)).trans hR
      have hX2 := (hgr2.block _ (lt_of_block hX) (by simp; omega)).trans hX
      have hW2 := (hgr2.block _ (lt_of_block hW) (by simp; omega)).trans hW
      have cx := cell_of_row w2 _ 2 _ _ _ hX2
      have fx := frozen_of_row w2 _ 2 _ _ hX2
      simp at cx
      go_wp2_with fail
      go_roundw
      case rel => exact ⟨2, by omega, rfl, by have e : rdPos o p 2 = rdPos o p 1 + (widthOf o 1).toNat := rfl; simpa [e] using ir_set (wr := w2) 1 ⟨hR2, hX2, hW2, hrd2, grown_trans hgr hgr2⟩ (by omega) (by omega) (by omega)⟩
      case measure => simp [intOf]
    · have hx : ∀ wx : World, (Instr.index 58 (.agg #[.pointer (some ⟨w1.heap.size, 1, none⟩), .pointer (some ⟨w1.heap.size, 2, none⟩), .pointer (some ⟨w1.heap.size, 3, none⟩)]) (.int .i64 2)).run Tryd.prog wx = .ok (.pointer (some ⟨w1.heap.size, 3, none⟩)) wx := fun _ => by kernel_rfl
      simp at hI
      obtain ⟨hR, hX, hW, hrd, hgr⟩ := hI
      have cw := cell_of_row wr _ 2 _ _ _ hW
      simp at cw
      have hwb := widthOf_bd o 2
      have hpl := rdPos_le o p 2
      go_wp2_with fail
      refine (take_any g _ s _ _ hrd hwb.1 hwb.2 (by omega)).mono ?_
      rintro e w2 ⟨rfl, hrd2, hgr2⟩
      have hR2 := (hgr2.block _ (lt_of_block hR) (by simp; omega)).trans hR
      have hX2 := (hgr2.block _ (lt_of_block hX) (by simp; omega)).trans hX
      have hW2 := (hgr2.block _ (lt_of_block hW) (by simp; omega)).trans hW
      have cx := cell_of_row w2 _ 3 _ _ _ hX2
      have fx := frozen_of_row w2 _ 3 _ _ hX2
      simp at cx
      go_wp2_with fail
      go_roundw
      case rel => exact ⟨3, by omega, rfl, by have e : rdPos o p 3 = rdPos o p 2 + (widthOf o 2).toNat := rfl; simpa [e] using ir_set (wr := w2) 2 ⟨hR2, hX2, hW2, hrd2, grown_trans hgr hgr2⟩ (by omega) (by omega) (by omega)⟩
      case measure => simp [intOf]
    · simp at hI
      obtain ⟨hR, hX, hW, hrd, hgr⟩ := hI
      have x0 := cell_of_row wr _ 0 _ _ _ hX
      have x1 := cell_of_row wr _ 1 _ _ _ hX
      have x2 := cell_of_row wr _ 2 _ _ _ hX
      have x3 := cell_of_row wr _ 3 _ _ _ hX
      have r0 := cell_of_row wr _ 0 _ _ _ hR
      have r1 := cell_of_row wr _ 1 _ _ _ hR
      have r2 := cell_of_row wr _ 2 _ _ _ hR
      have r3 := cell_of_row wr _ 3 _ _ _ hR
      have f0 := frozen_of_row wr _ 0 _ _ hR
      have f1 := frozen_of_row wr _ 1 _ _ hR
      have f2 := frozen_of_row wr _ 2 _ _ hR
      have f3 := frozen_of_row wr _ 3 _ _ hR
      simp at x0 x1 x2 x3 r0 r1 r2 r3
      have HA0 : Hid (rdA s.data.toList p 0 = takeV s.data.toList (rdPos o p 0) (widthOf o 0).toNat) := by rw [← HO.out]; rfl
      have HA1 : Hid (rdA s.data.toList p 1 = takeV s.data.toList (rdPos o p 1) (widthOf o 1).toNat) := by rw [← HO.out]; rfl
      have HA2 : Hid (rdA s.data.toList p 2 = takeV s.data.toList (rdPos o p 2) (widthOf o 2).toNat) := by rw [← HO.out]; rfl
      have HN : Hid (rdN s.data.toList p = rdPos o p 3) := by rw [← HO.out]; rfl
      go_wp2_with fail
      refine bodyPost_ret (v := .agg #[.int .i64 o, .int .i64 (takeV s.data.toList (rdPos o p 0) (widthOf o 0).toNat), .int .i64 (takeV s.data.toList (rdPos o p 1) (widthOf o 1).toNat), .int .i64 (takeV s.data.toList (rdPos o p 2) (widthOf o 2).toNat)]) (by simp [results, Tryd.results39, go_sem, r0, r1, r2, r3]) rfl ⟨?_, ?_, ?_⟩
      · rw [HO.out, HA0.out, HA1.out, HA2.out]
      · rw [HN.out]
        exact hrd.kept (by rw [Below.heap_setCell _ _ _ _ (by simp; omega), Below.heap_setCell _ _ _ _ (by simp; omega), Below.heap_setCell _ _ _ _ (by simp; omega), Below.heap_setCell _ _ _ _ (by simp; omega)])
      · exact grown_setCell' (grown_setCell' (grown_setCell' (grown_setCell' hgr (Nat.le_refl _) _) (Nat.le_refl _) _) (Nat.le_refl _) _) (Nat.le_refl _) _
end Go.Proofs.YtjaiicjnabpapaaDoor
