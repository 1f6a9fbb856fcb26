/-
  What package code's reader answers: functions out of bytes.
-/
import Derived.Test.YtjaiicjnabpapaaDoorRead
namespace Go.Proofs.YtjaiicjnabpapaaDoor
open Go.RowKit

/-- a row of instructions, the first k of which are told -/
structure RowK (w : World) (G n k : Nat) (f : Nat → In) (cur : Array Value) : Prop where
  block : w.heap[G]? = some (.cells cur 26 (0, 0))
  size : cur.size = n * 4
  at0 : ∀ j, j < k → cur[j * 4]? = some (.int .i64 (f j).o)
  at1 : ∀ j, j < k → cur[j * 4 + 1]? = some (.int .i64 (f j).a)
  at2 : ∀ j, j < k → cur[j * 4 + 2]? = some (.int .i64 (f j).b)
  at3 : ∀ j, j < k → cur[j * 4 + 3]? = some (.int .i64 (f j).c)
theorem RowK.kept {w w' : World} {G n k : Nat} {f : Nat → In} {cur : Array Value} (h : RowK w G n k f cur) (hb : w'.heap[G]? = w.heap[G]?) : RowK w' G n k f cur := ⟨hb.trans h.block, h.size, h.at0, h.at1, h.at2, h.at3⟩
theorem RowK.lt {w : World} {G n k : Nat} {f : Nat → In} {cur : Array Value} (h : RowK w G n k f cur) : G < w.heap.size := lt_of_block h.block
theorem RowK.slI {w : World} {G n : Nat} {f : Nat → In} {cur : Array Value} (h : RowK w G n n f cur) : SlI w (.slice (some ⟨G, 0, none⟩) n n) ((List.range n).map f) := by
  refine ⟨some ⟨G, 0, none⟩, n, by simp, fun k hk => ⟨G, 0, rfl, ?_⟩⟩
  have hk' : k < n := by simpa using hk
  have hc := fun j => cell_of_row w G j cur _ _ h.block
  constructor <;> simp [hc, h.at0 k hk', h.at1 k hk', h.at2 k hk', h.at3 k hk']
/-- a cell that is there -/
theorem RowK.cell {w : World} {G n k : Nat} {f : Nat → In} {cur : Array Value} (h : RowK w G n k f cur) (j : Nat) (hj : j < n * 4) : ∃ u, w.cell? ⟨G, j, none⟩ = some u := by
  have hj2 : j < cur.size := by rw [h.size]; exact hj
  exact ⟨cur[j], by rw [cell_of_row w G j cur _ _ h.block, Array.getElem?_eq_getElem hj2]⟩
theorem RowK.store {w : World} {G n k : Nat} {f : Nat → In} {cur : Array Value} (h : RowK w G n k f cur) (hk : k < n) :
    ∃ cur', RowK ((((w.setCell ⟨G, k * 4, none⟩ (.int .i64 (f k).o)).setCell ⟨G, k * 4 + 1, none⟩ (.int .i64 (f k).a)).setCell ⟨G, k * 4 + 2, none⟩ (.int .i64 (f k).b)).setCell ⟨G, k * 4 + 3, none⟩ (.int .i64 (f k).c)) G n (k + 1) f cur' := by
  have b1 := heap_setCell_same w G (k * 4) cur _ (.int .i64 (f k).o) h.block
  have b2 := heap_setCell_same _ G (k * 4 + 1) _ _ (.int .i64 (f k).a) b1
  have b3 := heap_setCell_same _ G (k * 4 + 2) _ _ (.int .i64 (f k).b) b2
  have b4 := heap_setCell_same _ G (k * 4 + 3) _ _ (.int .i64 (f k).c) b3
  have hs := h.size
  refine ⟨_, b4, by simp [hs], fun j hj => ?_, fun j hj => ?_, fun j hj => ?_, fun j hj => ?_⟩
  all_goals
    simp only [Array.getElem?_setIfInBounds, Array.size_setIfInBounds]
    rcases (by omega : j < k ∨ j = k) with hlt | rfl
    · first
        | exact (by rw [if_neg (by omega), if_neg (by omega), if_neg (by omega), if_neg (by omega)]; exact h.at0 j hlt)
        | exact (by rw [if_neg (by omega), if_neg (by omega), if_neg (by omega), if_neg (by omega)]; exact h.at1 j hlt)
        | exact (by rw [if_neg (by omega), if_neg (by omega), if_neg (by omega), if_neg (by omega)]; exact h.at2 j hlt)
        | exact (by rw [if_neg (by omega), if_neg (by omega), if_neg (by omega), if_neg (by omega)]; exact h.at3 j hlt)
    · first
        | (rw [if_pos rfl, if_pos (by omega)])
        | (rw [if_neg (by omega), if_pos rfl, if_pos (by omega)])
        | (rw [if_neg (by omega), if_neg (by omega), if_pos rfl, if_pos (by omega)])
        | (rw [if_neg (by omega), if_neg (by omega), if_neg (by omega), if_pos rfl, if_pos (by omega)])
/-- where the k-th instruction from p on begins -/
def rdNs (s : List UInt8) (p : Nat) : Nat → Nat
  | 0 => p
  | k + 1 => rdN s (rdNs s p k)
theorem rdNs_le (s : List UInt8) (p k : Nat) : rdNs s p k ≤ p + 13 * k := by
  induction k with
  | zero => simp [rdNs]
  | succ k ih =>
    have := rdPos_le (rdO s (rdNs s p k)) (rdNs s p k) 3
    simp only [rdNs, rdN]
    omega
def rdC (s : List UInt8) (p : Nat) : Nat := (takeV s p 1).toNat
theorem takeV_one (s : List UInt8) (p : Nat) : takeV s p 1 = byteAt s p := by
  have := byteAt_bd s p
  simp only [takeV, rdU]
  unfold wrap32
  simp
  omega
theorem rdC_eq (s : List UInt8) (p : Nat) : takeV s p 1 = (rdC s p : Int) ∧ rdC s p ≤ 255 := by
  have := byteAt_bd s p
  unfold rdC
  rw [takeV_one]
  omega
/-- the function at p -/
def rdF (s : List UInt8) (p : Nat) : List In := (List.range (rdC s p)).map fun k => rdI s (rdNs s (p + 1) k)
def rdFN (s : List UInt8) (p : Nat) : Nat := rdNs s (p + 1) (rdC s p)
theorem infoIns : (Tryd.prog.info? 26).map (fun i => (i.zero, i.size, i.bytes)) = some (some (.agg #[.int .i64 0, .int .i64 0, .int .i64 0, .int .i64 0]), 4, 32) := by kernel_rfl
def zeroRow (n : Nat) : Array Value := madeCells #[.int .i64 0, .int .i64 0, .int .i64 0, .int .i64 0] (n * 4)
theorem zeroRow_size (n : Nat) : (zeroRow n).size = n * 4 := size_madeCells _ _
theorem make_ins (n : Nat) (h : n ≤ 1000) (w : World) : (Instr.makeSlice 42 (.int .i64 (n : Int)) (.int .i64 (n : Int))).run Tryd.prog w = .ok (.slice (some ⟨w.heap.size, 0, none⟩) n n) (w.alloc (.cells (zeroRow n) 26)) := by
  obtain ⟨i0, hi, hz0, hz1, hz2⟩ := info_parts infoIns
  have hr := run_make (P := Tryd.prog) w 42 26 i0 _ Tryd.underlying42 hi hz0 .i64 .i64 n n (by omega) (Int.le_refl _) (by rw [hz2]; omega) (by omega)
  simp only [Int.toNat_natCast, hz1] at hr
  exact hr
set_option maxHeartbeats 1000000 in
theorem instructions_any (g p : Nat) (s : ByteArray) (w : World) (hg : ReadAt w g s p) (hp : p ≤ 800000000) :
    Calls Tryd.prog 38 #[.pointer (some ⟨g, 0, none⟩)] w fun e w' => ∃ G cur, e = .returned (.slice (some ⟨G, 0, none⟩) (rdC s.data.toList p) (rdC s.data.toList p)) ∧ w.heap.size ≤ G ∧ RowK w' G (rdC s.data.toList p) (rdC s.data.toList p) (fun k => rdI s.data.toList (rdNs s.data.toList (p + 1) k)) cur ∧ ReadAt w' g s (rdFN s.data.toList p) ∧ w.grownBy w' (some g) := by
  have hlt := hg.lt
  obtain ⟨hn, hn2⟩ := rdC_eq s.data.toList p
  go_enter Tryd.func38, Tryd.ntmps38
  go_wp2_with fail
  refine (take_any g p s _ _ hg (by omega) (by omega) (by omega)).mono ?_
  rintro e w1 ⟨rfl, hg1, hgr1⟩
  have e1 : Int.toNat 1 = 1 := rfl
  rw [e1] at hg1
  rw [e1, hn]
  clear hn e1
  generalize hN : rdC s.data.toList p = n at *
  have HN : Hid (rdC s.data.toList p = n) := hN
  clear hN
  have hmk := make_ins n (by omega)
  have hz1 := hg1.lt
  go_wp2_with fail
  go_loopw [10] (fun i wr => ∃ (k : Nat) (cur : Array Value), k ≤ n ∧ i = .int .i64 k ∧ RowK wr w1.heap.size n k (fun k => rdI s.data.toList (rdNs s.data.toList (p + 1) k)) cur ∧ ReadAt wr g s (rdNs s.data.toList (p + 1) k) ∧ w.grownBy wr (some g)) (fun i _ => n - (intOf i).toNat)
  case atStart => exact ⟨0, zeroRow n, by omega, rfl, ⟨heap_alloc_new _ _, zeroRow_size n, by omega, by omega, by omega, by omega⟩, hg1.kept (Below.heap_alloc _ _ _ hz1), grown_alloc hgr1 _⟩
  case round =>
    obtain ⟨k, cur, hk, rfl, hR, hrd, hgr⟩ := hrel
    have hpl := rdNs_le s.data.toList (p + 1) k
    have hRl := hR.lt
    by_cases hkn : k < n
    · go_wp2_with fail
      refine (instruction_any g _ s _ hrd (by omega)).mono ?_
      rintro e w2 ⟨rfl, hrd2, hgr2⟩
      have hR2 := hR.kept (hgr2.block _ hRl (by simp; omega))
      have hst := hR2.store hkn
      obtain ⟨u0, c0⟩ := hR2.cell (k * 4) (by omega)
      obtain ⟨u1, c1⟩ := hR2.cell (k * 4 + 1) (by omega)
      obtain ⟨u2, c2⟩ := hR2.cell (k * 4 + 2) (by omega)
      obtain ⟨u3, c3⟩ := hR2.cell (k * 4 + 3) (by omega)
      have f0 := frozen_of_row w2 _ (k * 4) _ _ hR2.block
      have f1 := frozen_of_row w2 _ (k * 4 + 1) _ _ hR2.block
      have f2 := frozen_of_row w2 _ (k * 4 + 2) _ _ hR2.block
      have f3 := frozen_of_row w2 _ (k * 4 + 3) _ _ hR2.block
      obtain ⟨cur', hst⟩ := hst
      have HS : Hid (RowK ((((w2.setCell ⟨w1.heap.size, k * 4, none⟩ (.int .i64 (rdO s.data.toList (rdNs s.data.toList (p + 1) k)))).setCell ⟨w1.heap.size, k * 4 + 1, none⟩ (.int .i64 (rdA s.data.toList (rdNs s.data.toList (p + 1) k) 0))).setCell ⟨w1.heap.size, k * 4 + 2, none⟩ (.int .i64 (rdA s.data.toList (rdNs s.data.toList (p + 1) k) 1))).setCell ⟨w1.heap.size, k * 4 + 3, none⟩ (.int .i64 (rdA s.data.toList (rdNs s.data.toList (p + 1) k) 2))) w1.heap.size n (k + 1) (fun k => rdI s.data.toList (rdNs s.data.toList (p + 1) k)) cur') := hst
      clear hst
      go_wp2_with fail
      go_roundw
      case rel =>
        refine ⟨k + 1, cur', by omega, by go_num, HS.out, ?_, ?_⟩
        · exact hrd2.kept (by rw [Below.heap_setCell _ _ _ _ (by simp; omega), Below.heap_setCell _ _ _ _ (by simp; omega), Below.heap_setCell _ _ _ _ (by simp; omega), Below.heap_setCell _ _ _ _ (by simp; omega)])
        · have hsz := hgr1.size
          exact grown_setCell' (grown_setCell' (grown_setCell' (grown_setCell' (grown_trans hgr hgr2) hsz _) hsz _) hsz _) hsz _
      case measure => simp [intOf]; omega
    · have hkk : k = n := by omega
      subst hkk
      go_wp2_with fail
      go_ret
      rw [rdFN, HN.out]
      exact ⟨_, cur, rfl, hgr1.size, hR, hrd, hgr⟩
end Go.Proofs.YtjaiicjnabpapaaDoor
