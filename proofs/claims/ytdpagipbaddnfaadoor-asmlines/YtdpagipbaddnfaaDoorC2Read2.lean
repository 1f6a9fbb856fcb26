/-
  What package code's reader answers: functions out of bytes.
-/
import Derived.Test.YtdpagipbaddnfaaDoorC2Read
namespace Go.Proofs.YtdpagipbaddnfaaDoor.C2
open Go.RowKit

/-- a row of instructions, the first k of which are told -/
structure RowK (w : World) (G n k : Nat) (f : Nat → In) (cur : Array Value) : Prop where
  block : w.heap[G]? = some (.cells cur 50 (0, 0))
  size : cur.size = n * 4
  at0 : ∀ j, j < k → cur[j * 4]? = some (.int .i64 (f j).o)
  at1 : ∀ j, j < k → cur[j * 4 + 1]? = some (.int .i64 (f j).a)
  at2 : ∀ j, j < k → cur[j * 4 + 2]? = some (.int .i64 (f j).b)
  at3 : ∀ j, j < k → cur[j * 4 + 3]? = some (.int .i64 (f j).c)
theorem RowK.kept {w w' : World} {G n k : Nat} {f : Nat → In} {cur : Array Value} (h : RowK w G n k f cur) (hb : w'.heap[G]? = w.heap[G]?) : RowK w' G n k f cur := ⟨hb.trans h.block, h.size, h.at0, h.at1, h.at2, h.at3⟩
theorem RowK.lt {w : World} {G n k : Nat} {f : Nat → In} {cur : Array Value} (h : RowK w G n k f cur) : G < w.heap.size := lt_of_block h.block
theorem RowK.slI {w : World} {G n : Nat} {f : Nat → In} {cur : Array Value} (h : RowK w G n n f cur) : SlI w (.slice (some ⟨G, 0, none⟩) n n) ((List.range n).map f) := by
  refine ⟨some ⟨G, 0, none⟩, n, by simp, fun k hk => ⟨G, 0, rfl, ?_⟩⟩
  have hk' : k < n := by simpa using hk
  have hc := fun j => cell_of_row w G j cur _ _ h.block
  constructor <;> simp [hc, h.at0 k hk', h.at1 k hk', h.at2 k hk', h.at3 k hk']
/-- a cell that is there -/
theorem RowK.cell {w : World} {G n k : Nat} {f : Nat → In} {cur : Array Value} (h : RowK w G n k f cur) (j : Nat) (hj : j < n * 4) : ∃ u, w.cell? ⟨G, j, none⟩ = some u := by
  have hj2 : j < cur.size := by rw [h.size]; exact hj
  exact ⟨cur[j], by rw [cell_of_row w G j cur _ _ h.block, Array.getElem?_eq_getElem hj2]⟩
theorem RowK.store {w : World} {G n k : Nat} {f : Nat → In} {cur : Array Value} (h : RowK w G n k f cur) (hk : k < n) :
    ∃ cur', RowK ((((w.setCell ⟨G, k * 4, none⟩ (.int .i64 (f k).o)).setCell ⟨G, k * 4 + 1, none⟩ (.int .i64 (f k).a)).setCell ⟨G, k * 4 + 2, none⟩ (.int .i64 (f k).b)).setCell ⟨G, k * 4 + 3, none⟩ (.int .i64 (f k).c)) G n (k + 1) f cur' := by
  have b1 := heap_setCell_same w G (k * 4) cur _ (.int .i64 (f k).o) h.block
  have b2 := heap_setCell_same _ G (k * 4 + 1) _ _ (.int .i64 (f k).a) b1
  have b3 := heap_setCell_same _ G (k * 4 + 2) _ _ (.int .i64 (f k).b) b2
  have b4 := heap_setCell_same _ G (k * 4 + 3) _ _ (.int .i64 (f k).c) b3
  have hs := h.size
  refine ⟨_, b4, by simp [hs], fun j hj => ?_, fun j hj => ?_, fun j hj => ?_, fun j hj => ?_⟩
  all_goals
    simp only [Array.getElem?_setIfInBounds, Array.size_setIfInBounds]
    rcases (by omega : j < k ∨ j = k) with hlt | rfl
    · first
        | exact (by rw [if_neg (by omega), if_neg (by omega), if_neg (by omega), if_neg (by omega)]; exact h.at0 j hlt)
        | exact (by rw [if_neg (by omega), if_neg (by omega), if_neg (by omega), if_neg (by omega)]; exact h.at1 j hlt)
        | exact (by rw [if_neg (by omega), if_neg (by omega), if_neg (by omega), if_neg (by omega)]; exact h.at2 j hlt)
        | exact (by rw [if_neg (by omega), if_neg (by omega), if_neg (by omega), if_neg (by omega)]; exact h.at3 j hlt)
    · first
        | (rw [if_pos rfl, if_pos (by omega)])
        | (rw [if_neg (by omega), if_pos rfl, if_pos (by omega)])
        | (rw [if_neg (by omega), if_neg (by omega), if_pos rfl, if_pos (by omega)])
        | (rw [if_neg (by omega), if_neg (by omega), if_neg (by omega), if_pos rfl, if_pos (by omega)])
/-- where the k-th instruction from p on begins -/
def rdNs (s : List UInt8) (p : Nat) : Nat → Nat
  | 0 => p
  | k + 1 => rdN s (rdNs s p k)
theorem rdNs_le (s : List UInt8) (p k : Nat) : rdNs s p k ≤ p + 13 * k := by
  induction k with
  | zero => simp [rdNs]
  | succ k ih =>
    have := rdPos_le (rdO s (rdNs s p k)) (rdNs s p k) 3
    simp only [rdNs, rdN]
    omega
def rdC (s : List UInt8) (p : Nat) : Nat := (takeV s p 1).toNat
theorem takeV_one (s : List UInt8) (p : Nat) : takeV s p 1 = byteAt s p := by
  have := byteAt_bd s p
  simp only [takeV, rdU]
  unfold wrap32
  simp
  omega
theorem rdC_eq (s : List UInt8) (p : Nat) : takeV s p 1 = (rdC s p : Int) ∧ rdC s p ≤ 255 := by
  have := byteAt_bd s p
  unfold rdC
  rw [takeV_one]
  omega
/-- the function at p -/
def rdF (s : List UInt8) (p : Nat) : List In := (List.range (rdC s p)).map fun k => rdI s (rdNs s (p + 1) k)
def rdFN (s : List UInt8) (p : Nat) : Nat := rdNs s (p + 1) (rdC s p)
theorem infoIns : (Tryd.prog.info? 50).map (fun i => (i.zero, i.size, i.bytes)) = some (some (.agg #[.int .i64 0, .int .i64 0, .int .i64 0, .int .i64 0]), 4, 32) := by kernel_rfl
def zeroRow (n : Nat) : Array Value := madeCells #[.int .i64 0, .int .i64 0, .int .i64 0, .int .i64 0] (n * 4)
theorem zeroRow_size (n : Nat) : (zeroRow n).size = n * 4 := size_madeCells _ _
theorem make_ins (n : Nat) (h : n ≤ 1000) (w : World) : (Instr.makeSlice 45 (.int .i64 (n : Int)) (.int .i64 (n : Int))).run Tryd.prog w = .ok (.slice (some ⟨w.heap.size, 0, none⟩) n n) (w.alloc (.cells (zeroRow n) 50)) := by
  obtain ⟨i0, hi, hz0, hz1, hz2⟩ := info_parts infoIns
  have hr := run_make (P := Tryd.prog) w 45 50 i0 _ Tryd.underlying45 hi hz0 .i64 .i64 n n (by omega) (Int.le_refl _) (by rw [hz2]; omega) (by omega)
  simp only [Int.toNat_natCast, hz1] at hr
  exact hr
end Go.Proofs.YtdpagipbaddnfaaDoor.C2