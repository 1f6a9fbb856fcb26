/-
  What package code's reader answers: programs out of bytes.
-/
import Derived.Test.YtdpagipbaddnfaaDoorC2Read2
namespace Go.Proofs.YtdpagipbaddnfaaDoor.C2
open Go.RowKit

/-- where the k-th function begins, of those that begin at p -/
def rdFs (s : List UInt8) (p : Nat) : Nat → Nat
  | 0 => p
  | k + 1 => rdFN s (rdFs s p k)
theorem rdFs_le (s : List UInt8) (p k : Nat) : rdFs s p k ≤ p + 3316 * k := by
  induction k with
  | zero => simp [rdFs]
  | succ k ih =>
    have h1 := rdNs_le s (rdFs s p k + 1) (rdC s (rdFs s p k))
    have h2 := (rdC_eq s (rdFs s p k)).2
    simp only [rdFs, rdFN]
    omega
/-- the program whose numbers begin at p -/
def rdP (s : List UInt8) (p : Nat) : Pr := ⟨(List.range (rdC s (p + 4))).map fun k => rdF s (rdFs s (p + 5) k), takeV s p 1, takeV s (p + 1) 1, takeV s (p + 2) 2⟩
/-- a row of functions, the first k of which are told -/
structure RowF (w : World) (F n k : Nat) (s : List UInt8) (p : Nat) (cur : Array Value) : Prop where
  block : w.heap[F]? = some (.cells cur 45 (0, 0))
  size : cur.size = n
  told : ∀ j, j < k → ∃ G c, cur[j]? = some (.slice (some ⟨G, 0, none⟩) (rdC s (rdFs s p j)) (rdC s (rdFs s p j))) ∧ F < G ∧ RowK w G (rdC s (rdFs s p j)) (rdC s (rdFs s p j)) (fun i => rdI s (rdNs s (rdFs s p j + 1) i)) c
theorem RowF.kept {w w' : World} {F n k : Nat} {s : List UInt8} {p : Nat} {cur : Array Value} (h : RowF w F n k s p cur) (hb : ∀ b, F ≤ b → b < w.heap.size → w'.heap[b]? = w.heap[b]?) : RowF w' F n k s p cur :=
  ⟨(hb F (Nat.le_refl _) (lt_of_block h.block)).trans h.block, h.size, fun j hj => by
    obtain ⟨G, c, h1, h2, h3⟩ := h.told j hj
    exact ⟨G, c, h1, h2, h3.kept (hb G (Nat.le_of_lt h2) h3.lt)⟩⟩
theorem RowF.slF {w : World} {F n : Nat} {s : List UInt8} {p : Nat} {cur : Array Value} (h : RowF w F n n s p cur) : SlF w (.slice (some ⟨F, 0, none⟩) n n) ((List.range n).map fun k => rdF s (rdFs s p k)) := by
  refine ⟨some ⟨F, 0, none⟩, n, by simp, fun k hk => ?_⟩
  have hk' : k < n := by simpa using hk
  obtain ⟨G, c, h1, h2, h3⟩ := h.told k hk'
  refine ⟨F, 0, .slice (some ⟨G, 0, none⟩) (rdC s (rdFs s p k)) (rdC s (rdFs s p k)), rfl, ?_, ?_⟩
  · rw [Nat.zero_add, cell_of_row w F k cur _ _ h.block, h1]
  · have := h3.slI
    simpa [rdF] using this
theorem RowF.cell {w : World} {F n k : Nat} {s : List UInt8} {p : Nat} {cur : Array Value} (h : RowF w F n k s p cur) (j : Nat) (hj : j < n) : ∃ u, w.cell? ⟨F, j, none⟩ = some u := by
  have hj2 : j < cur.size := by rw [h.size]; exact hj
  exact ⟨cur[j], by rw [cell_of_row w F j cur _ _ h.block, Array.getElem?_eq_getElem hj2]⟩
theorem RowF.store {w : World} {F n k : Nat} {s : List UInt8} {p : Nat} {cur : Array Value} (h : RowF w F n k s p cur) (hk : k < n) {G : Nat} {c : Array Value} (hG : F < G)
    (hR : RowK w G (rdC s (rdFs s p k)) (rdC s (rdFs s p k)) (fun i => rdI s (rdNs s (rdFs s p k + 1) i)) c) :
    RowF (w.setCell ⟨F, k, none⟩ (.slice (some ⟨G, 0, none⟩) (rdC s (rdFs s p k)) (rdC s (rdFs s p k)))) F n (k + 1) s p (cur.setIfInBounds k (.slice (some ⟨G, 0, none⟩) (rdC s (rdFs s p k)) (rdC s (rdFs s p k)))) := by
  refine ⟨heap_setCell_same w F k cur _ _ h.block, by simp [h.size], fun j hj => ?_⟩
  rcases (by omega : j < k ∨ j = k) with hlt | rfl
  · obtain ⟨G', c', h1, h2, h3⟩ := h.told j hlt
    exact ⟨G', c', by rw [Array.getElem?_setIfInBounds, if_neg (by omega)]; exact h1, h2, h3.kept (Below.heap_setCell _ _ _ _ (by simp; omega))⟩
  · exact ⟨G, c, by rw [Array.getElem?_setIfInBounds, if_pos rfl, if_pos (by rw [h.size]; exact hk)], hG, hR.kept (Below.heap_setCell _ _ _ _ (by simp; omega))⟩
theorem infoSl : (Tryd.prog.info? 45).map (fun i => (i.zero, i.size, i.bytes)) = some (some (.slice none 0 0), 1, 24) := by kernel_rfl
def nilRow (n : Nat) : Array Value := madeCells #[.slice none 0 0] (n * 1)
theorem nilRow_size (n : Nat) : (nilRow n).size = n := by rw [nilRow, size_madeCells]; omega
theorem make_fns (n : Nat) (h : n ≤ 1000) (w : World) : (Instr.makeSlice 22 (.int .i64 (n : Int)) (.int .i64 (n : Int))).run Tryd.prog w = .ok (.slice (some ⟨w.heap.size, 0, none⟩) n n) (w.alloc (.cells (nilRow n) 45)) := by
  obtain ⟨i0, hi, hz0, hz1, hz2⟩ := info_parts infoSl
  have hr := run_make (P := Tryd.prog) w 22 45 i0 _ Tryd.underlying22 hi hz0 .i64 .i64 n n (by omega) (Int.le_refl _) (by rw [hz2]; omega) (by omega)
  simp only [Int.toNat_natCast, hz1] at hr
  exact hr
/-- a slice of functions that lie from block B on -/
def SlFrom (B : Nat) (w : World) (v : Value) (fs : List (List In)) : Prop := ∀ w'' : World, (∀ b, B ≤ b → b < w.heap.size → w''.heap[b]? = w.heap[b]?) → SlF w'' v fs
theorem SlFrom.now {B : Nat} {w : World} {v : Value} {fs : List (List In)} (h : SlFrom B w v fs) : SlF w v fs := h w fun _ _ _ => rfl
theorem SlFrom.kept {B : Nat} {w w' : World} {v : Value} {fs : List (List In)} (h : SlFrom B w v fs) (hs : w.heap.size ≤ w'.heap.size) (hb : ∀ b, B ≤ b → b < w.heap.size → w'.heap[b]? = w.heap[b]?) : SlFrom B w' v fs :=
  fun w'' hw => h w'' fun b h1 h2 => (hw b h1 (by omega)).trans (hb b h1 h2)
theorem cell_far {w : World} {p q : Addr} {u : Value} (h : q.block ≠ p.block) : (w.setCell p u).cell? q = w.cell? q := World.cell?_of_block (Below.heap_setCell _ _ _ _ h)
end Go.Proofs.YtdpagipbaddnfaaDoor.C2