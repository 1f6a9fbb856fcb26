/-
  Helpers: C2Take, C2Read, C2Read2, C2Read3.
-/
import Derived.Test.YtpmapdialjdcbaaDoorBun35e905bdedf4
import Derived.Laws.BitsAllLaws
namespace Go.Proofs.YtpmapdialjdcbaaDoor.C2
open Go.RowKit

def byteAt (s : List UInt8) (i : Nat) : Int := ((s.getD i 0).toNat : Int)
theorem byteAt_bd (s : List UInt8) (i : Nat) : 0 ≤ byteAt s i ∧ byteAt s i ≤ 255 := by
  have := (s.getD i 0).toNat_lt
  unfold byteAt
  omega
/-- so many bytes from a place on as one number of 32 bits -/
def rdU (s : List UInt8) (p : Nat) : Nat → Int
  | 0 => 0
  | k + 1 => rdU s p k * 256 % 4294967296 + byteAt s (p + k)
theorem rdU_bd (s : List UInt8) (p k : Nat) : 0 ≤ rdU s p k ∧ rdU s p k ≤ 4294967295 := by
  cases k with
  | zero => simp [rdU]
  | succ k =>
    have := byteAt_bd s (p + k)
    simp only [rdU]
    omega
theorem wrap32_bd (v : Int) : -2147483648 ≤ wrap32 v ∧ wrap32 v ≤ 2147483647 := by unfold wrap32; omega
def takeV (s : List UInt8) (p k : Nat) : Int := wrap32 (rdU s p k)
theorem or_low (x : Int) (b : UInt8) : bits .or .u32 (x * 256 % 4294967296) ((b.toNat : Int) % 4294967296) = x * 256 % 4294967296 + (b.toNat : Int) := by
  have hb := b.toNat_lt
  have e2 : ((b.toNat : Int) % 4294967296) = (b.toNat : Int) := by omega
  obtain ⟨m, hm, hm2⟩ : ∃ m : Nat, x * 256 % 4294967296 = ((2 ^ 8 * m : Nat) : Int) ∧ m < 16777216 := ⟨(x % 16777216).toNat, by omega, by omega⟩
  rw [e2, hm]
  have h1 : (BitVec.ofInt 32 ((2 ^ 8 * m : Nat) : Int)).toNat = 2 ^ 8 * m := by rw [BitVec.toNat_ofInt]; omega
  have h2 : (BitVec.ofInt 32 (b.toNat : Int)).toNat = b.toNat := by rw [BitVec.toNat_ofInt]; omega
  show IntKind.u32.wrap ((BitVec.ofInt 32 ((2 ^ 8 * m : Nat) : Int) ||| BitVec.ofInt 32 (b.toNat : Int)).toNat : Nat) = _
  rw [BitVec.toNat_or, h1, h2, ← Nat.two_pow_add_eq_or_of_lt (by omega)]
  rw [IntKind.wrap_u32]
  omega
theorem grown_set1 {w w1 : World} {g : Nat} (h : w.grownBy w1 (some g)) (n : Nat) (j : Nat) (u : Value) : w.grownBy ((w1.drewN n).setCell ⟨g, j, none⟩ u) (some g) :=
  ⟨h.os, h.tape, h.output, by have := h.size; simp [World.setCell]; omega, fun k hk hne => (Below.heap_setCell _ _ _ _ (fun e => hne (by rw [e]))).trans (h.block k hk hne)⟩
theorem byteAt_in {s : ByteArray} {q : Nat} (h : q < s.size) : byteAt s.data.toList q = (s[q].toNat : Int) := by
  have h2 : q < s.data.toList.length := by simpa using h
  unfold byteAt
  rw [List.getD_eq_getElem?_getD, List.getElem?_eq_getElem h2]
  rfl
theorem byteAt_out {s : ByteArray} {q : Nat} (h : ¬ q < s.size) : byteAt s.data.toList q = 0 := by
  have h2 : s.data.toList.length ≤ q := by simp; omega
  unfold byteAt
  rw [List.getD_eq_getElem?_getD, List.getElem?_eq_none h2]
  rfl
end Go.Proofs.YtpmapdialjdcbaaDoor.C2
namespace Go.Proofs.YtpmapdialjdcbaaDoor.C2
open Go.RowKit

/-- where an instruction's operand lies that begins at p -/
def rdPos (o : Int) (p : Nat) : Nat → Nat
  | 0 => p + 1
  | k + 1 => rdPos o p k + (widthOf o k).toNat
def rdO (s : List UInt8) (p : Nat) : Int := takeV s p 1
def rdA (s : List UInt8) (p k : Nat) : Int := takeV s (rdPos (rdO s p) p k) (widthOf (rdO s p) k).toNat
/-- the instruction at p -/
def rdI (s : List UInt8) (p : Nat) : In := ⟨rdO s p, rdA s p 0, rdA s p 1, rdA s p 2⟩
/-- and where the next one begins -/
def rdN (s : List UInt8) (p : Nat) : Nat := rdPos (rdO s p) p 3
theorem rdPos_le (o : Int) (p k : Nat) : rdPos o p k ≤ p + 1 + 4 * k := by
  induction k with
  | zero => simp [rdPos]
  | succ k ih =>
    have := widthOf_bd o k
    simp only [rdPos]
    omega
theorem grown_trans {a b c : World} {row : Option Nat} (h : a.grownBy b row) (k : b.grownBy c row) : a.grownBy c row :=
  ⟨k.os.trans h.os, k.tape.trans h.tape, k.output.trans h.output, Nat.le_trans h.size k.size, fun i hi hne => (k.block i (Nat.lt_of_lt_of_le hi h.size) hne).trans (h.block i hi hne)⟩
theorem grown_setCell' {w w1 : World} {row : Option Nat} (h : w.grownBy w1 row) {p : Addr} (hp : w.heap.size ≤ p.block) (u : Value) : w.grownBy (w1.setCell p u) row :=
  ⟨h.os, h.tape, h.output, by have := h.size; simp [World.setCell]; omega, fun k hk hne => (Below.heap_setCell _ _ _ _ (by omega)).trans (h.block k hk hne)⟩
theorem grown_alloc {a b : World} {row : Option Nat} (h : a.grownBy b row) (o : Obj) : a.grownBy (b.alloc o) row := grown_trans h (World.grownBy_alloc _ _ _)
theorem four_old (w : World) (a b c d : Obj) (k : Nat) (h : k < w.heap.size) : ((((w.alloc a).alloc b).alloc c).alloc d).drew.heap[k]? = w.heap[k]? := by
  rw [heap_drew, Below.heap_alloc _ _ _ (by simp; omega), Below.heap_alloc _ _ _ (by simp; omega), Below.heap_alloc _ _ _ (by simp; omega), Below.heap_alloc _ _ _ h]
theorem four_first (w : World) (a b c d : Obj) : ((((w.alloc a).alloc b).alloc c).alloc d).drew.heap[w.heap.size]? = some a := by
  rw [heap_drew, Below.heap_alloc _ _ _ (by simp; omega), Below.heap_alloc _ _ _ (by simp; omega), Below.heap_alloc _ _ _ (by simp)]
  exact heap_alloc_new _ _
theorem four_third (w : World) (a b c d : Obj) : ((((w.alloc a).alloc b).alloc c).alloc d).drew.heap[w.heap.size + 1 + 1]? = some c := by
  rw [heap_drew, Below.heap_alloc _ _ _ (by simp)]
  have := heap_alloc_new ((w.alloc a).alloc b) c
  simpa using this
end Go.Proofs.YtpmapdialjdcbaaDoor.C2
namespace Go.Proofs.YtpmapdialjdcbaaDoor.C2
open Go.RowKit

/-- a row of instructions, the first k of which are told -/
structure RowK (w : World) (G n k : Nat) (f : Nat → In) (cur : Array Value) : Prop where
  block : w.heap[G]? = some (.cells cur 54 (0, 0))
  size : cur.size = n * 4
  at0 : ∀ j, j < k → cur[j * 4]? = some (.int .i64 (f j).o)
  at1 : ∀ j, j < k → cur[j * 4 + 1]? = some (.int .i64 (f j).a)
  at2 : ∀ j, j < k → cur[j * 4 + 2]? = some (.int .i64 (f j).b)
  at3 : ∀ j, j < k → cur[j * 4 + 3]? = some (.int .i64 (f j).c)
theorem RowK.kept {w w' : World} {G n k : Nat} {f : Nat → In} {cur : Array Value} (h : RowK w G n k f cur) (hb : w'.heap[G]? = w.heap[G]?) : RowK w' G n k f cur := ⟨hb.trans h.block, h.size, h.at0, h.at1, h.at2, h.at3⟩
theorem RowK.lt {w : World} {G n k : Nat} {f : Nat → In} {cur : Array Value} (h : RowK w G n k f cur) : G < w.heap.size := lt_of_block h.block
theorem RowK.slI {w : World} {G n : Nat} {f : Nat → In} {cur : Array Value} (h : RowK w G n n f cur) : SlI w (.slice (some ⟨G, 0, none⟩) n n) ((List.range n).map f) := by
  refine ⟨some ⟨G, 0, none⟩, n, by simp, fun k hk => ⟨G, 0, rfl, ?_⟩⟩
  have hk' : k < n := by simpa using hk
  have hc := fun j => cell_of_row w G j cur _ _ h.block
  constructor <;> simp [hc, h.at0 k hk', h.at1 k hk', h.at2 k hk', h.at3 k hk']
/-- a cell that is there -/
theorem RowK.cell {w : World} {G n k : Nat} {f : Nat → In} {cur : Array Value} (h : RowK w G n k f cur) (j : Nat) (hj : j < n * 4) : ∃ u, w.cell? ⟨G, j, none⟩ = some u := by
  have hj2 : j < cur.size := by rw [h.size]; exact hj
  exact ⟨cur[j], by rw [cell_of_row w G j cur _ _ h.block, Array.getElem?_eq_getElem hj2]⟩
theorem RowK.store {w : World} {G n k : Nat} {f : Nat → In} {cur : Array Value} (h : RowK w G n k f cur) (hk : k < n) :
    ∃ cur', RowK ((((w.setCell ⟨G, k * 4, none⟩ (.int .i64 (f k).o)).setCell ⟨G, k * 4 + 1, none⟩ (.int .i64 (f k).a)).setCell ⟨G, k * 4 + 2, none⟩ (.int .i64 (f k).b)).setCell ⟨G, k * 4 + 3, none⟩ (.int .i64 (f k).c)) G n (k + 1) f cur' := by
  have b1 := heap_setCell_same w G (k * 4) cur _ (.int .i64 (f k).o) h.block
  have b2 := heap_setCell_same _ G (k * 4 + 1) _ _ (.int .i64 (f k).a) b1
  have b3 := heap_setCell_same _ G (k * 4 + 2) _ _ (.int .i64 (f k).b) b2
  have b4 := heap_setCell_same _ G (k * 4 + 3) _ _ (.int .i64 (f k).c) b3
  have hs := h.size
  refine ⟨_, b4, by simp [hs], fun j hj => ?_, fun j hj => ?_, fun j hj => ?_, fun j hj => ?_⟩
  all_goals
    simp only [Array.getElem?_setIfInBounds, Array.size_setIfInBounds]
    rcases (by omega : j < k ∨ j = k) with hlt | rfl
    · first
        | exact (by rw [if_neg (by omega), if_neg (by omega), if_neg (by omega), if_neg (by omega)]; exact h.at0 j hlt)
        | exact (by rw [if_neg (by omega), if_neg (by omega), if_neg (by omega), if_neg (by omega)]; exact h.at1 j hlt)
        | exact (by rw [if_neg (by omega), if_neg (by omega), if_neg (by omega), if_neg (by omega)]; exact h.at2 j hlt)
        | exact (by rw [if_neg (by omega), if_neg (by omega), if_neg (by omega), if_neg (by omega)]; exact h.at3 j hlt)
    · first
        | (rw [if_pos rfl, if_pos (by omega)])
        | (rw [if_neg (by omega), if_pos rfl, if_pos (by omega)])
        | (rw [if_neg (by omega), if_neg (by omega), if_pos rfl, if_pos (by omega)])
        | (rw [if_neg (by omega), if_neg (by omega), if_neg (by omega), if_pos rfl, if_pos (by omega)])
/-- where the k-th instruction from p on begins -/
def rdNs (s : List UInt8) (p : Nat) : Nat → Nat
  | 0 => p
  | k + 1 => rdN s (rdNs s p k)
theorem rdNs_le (s : List UInt8) (p k : Nat) : rdNs s p k ≤ p + 13 * k := by
  induction k with
  | zero => simp [rdNs]
  | succ k ih =>
    have := rdPos_le (rdO s (rdNs s p k)) (rdNs s p k) 3
    simp only [rdNs, rdN]
    omega
def rdC (s : List UInt8) (p : Nat) : Nat := (takeV s p 1).toNat
theorem takeV_one (s : List UInt8) (p : Nat) : takeV s p 1 = byteAt s p := by
  have := byteAt_bd s p
  simp only [takeV, rdU]
  unfold wrap32
  simp
  omega
theorem rdC_eq (s : List UInt8) (p : Nat) : takeV s p 1 = (rdC s p : Int) ∧ rdC s p ≤ 255 := by
  have := byteAt_bd s p
  unfold rdC
  rw [takeV_one]
  omega
/-- the function at p -/
def rdF (s : List UInt8) (p : Nat) : List In := (List.range (rdC s p)).map fun k => rdI s (rdNs s (p + 1) k)
def rdFN (s : List UInt8) (p : Nat) : Nat := rdNs s (p + 1) (rdC s p)
theorem infoIns : (Tryd.prog.info? 54).map (fun i => (i.zero, i.size, i.bytes)) = some (some (.agg #[.int .i64 0, .int .i64 0, .int .i64 0, .int .i64 0]), 4, 32) := by kernel_rfl
def zeroRow (n : Nat) : Array Value := madeCells #[.int .i64 0, .int .i64 0, .int .i64 0, .int .i64 0] (n * 4)
theorem zeroRow_size (n : Nat) : (zeroRow n).size = n * 4 := size_madeCells _ _
theorem make_ins (n : Nat) (h : n ≤ 1000) (w : World) : (Instr.makeSlice 55 (.int .i64 (n : Int)) (.int .i64 (n : Int))).run Tryd.prog w = .ok (.slice (some ⟨w.heap.size, 0, none⟩) n n) (w.alloc (.cells (zeroRow n) 54)) := by
  obtain ⟨i0, hi, hz0, hz1, hz2⟩ := info_parts infoIns
  have hr := run_make (P := Tryd.prog) w 55 54 i0 _ Tryd.underlying55 hi hz0 .i64 .i64 n n (by omega) (Int.le_refl _) (by rw [hz2]; omega) (by omega)
  simp only [Int.toNat_natCast, hz1] at hr
  exact hr
end Go.Proofs.YtpmapdialjdcbaaDoor.C2
namespace Go.Proofs.YtpmapdialjdcbaaDoor.C2
open Go.RowKit

/-- where the k-th function begins, of those that begin at p -/
def rdFs (s : List UInt8) (p : Nat) : Nat → Nat
  | 0 => p
  | k + 1 => rdFN s (rdFs s p k)
theorem rdFs_le (s : List UInt8) (p k : Nat) : rdFs s p k ≤ p + 3316 * k := by
  induction k with
  | zero => simp [rdFs]
  | succ k ih =>
    have h1 := rdNs_le s (rdFs s p k + 1) (rdC s (rdFs s p k))
    have h2 := (rdC_eq s (rdFs s p k)).2
    simp only [rdFs, rdFN]
    omega
/-- the program whose numbers begin at p -/
def rdP (s : List UInt8) (p : Nat) : Pr := ⟨(List.range (rdC s (p + 4))).map fun k => rdF s (rdFs s (p + 5) k), takeV s p 1, takeV s (p + 1) 1, takeV s (p + 2) 2⟩
/-- a row of functions, the first k of which are told -/
structure RowF (w : World) (F n k : Nat) (s : List UInt8) (p : Nat) (cur : Array Value) : Prop where
  block : w.heap[F]? = some (.cells cur 55 (0, 0))
  size : cur.size = n
  told : ∀ j, j < k → ∃ G c, cur[j]? = some (.slice (some ⟨G, 0, none⟩) (rdC s (rdFs s p j)) (rdC s (rdFs s p j))) ∧ F < G ∧ RowK w G (rdC s (rdFs s p j)) (rdC s (rdFs s p j)) (fun i => rdI s (rdNs s (rdFs s p j + 1) i)) c
theorem RowF.kept {w w' : World} {F n k : Nat} {s : List UInt8} {p : Nat} {cur : Array Value} (h : RowF w F n k s p cur) (hb : ∀ b, F ≤ b → b < w.heap.size → w'.heap[b]? = w.heap[b]?) : RowF w' F n k s p cur :=
  ⟨(hb F (Nat.le_refl _) (lt_of_block h.block)).trans h.block, h.size, fun j hj => by
    obtain ⟨G, c, h1, h2, h3⟩ := h.told j hj
    exact ⟨G, c, h1, h2, h3.kept (hb G (Nat.le_of_lt h2) h3.lt)⟩⟩
theorem RowF.slF {w : World} {F n : Nat} {s : List UInt8} {p : Nat} {cur : Array Value} (h : RowF w F n n s p cur) : SlF w (.slice (some ⟨F, 0, none⟩) n n) ((List.range n).map fun k => rdF s (rdFs s p k)) := by
  refine ⟨some ⟨F, 0, none⟩, n, by simp, fun k hk => ?_⟩
  have hk' : k < n := by simpa using hk
  obtain ⟨G, c, h1, h2, h3⟩ := h.told k hk'
  refine ⟨F, 0, .slice (some ⟨G, 0, none⟩) (rdC s (rdFs s p k)) (rdC s (rdFs s p k)), rfl, ?_, ?_⟩
  · rw [Nat.zero_add, cell_of_row w F k cur _ _ h.block, h1]
  · have := h3.slI
    simpa [rdF] using this
theorem RowF.cell {w : World} {F n k : Nat} {s : List UInt8} {p : Nat} {cur : Array Value} (h : RowF w F n k s p cur) (j : Nat) (hj : j < n) : ∃ u, w.cell? ⟨F, j, none⟩ = some u := by
  have hj2 : j < cur.size := by rw [h.size]; exact hj
  exact ⟨cur[j], by rw [cell_of_row w F j cur _ _ h.block, Array.getElem?_eq_getElem hj2]⟩
theorem RowF.store {w : World} {F n k : Nat} {s : List UInt8} {p : Nat} {cur : Array Value} (h : RowF w F n k s p cur) (hk : k < n) {G : Nat} {c : Array Value} (hG : F < G)
    (hR : RowK w G (rdC s (rdFs s p k)) (rdC s (rdFs s p k)) (fun i => rdI s (rdNs s (rdFs s p k + 1) i)) c) :
    RowF (w.setCell ⟨F, k, none⟩ (.slice (some ⟨G, 0, none⟩) (rdC s (rdFs s p k)) (rdC s (rdFs s p k)))) F n (k + 1) s p (cur.setIfInBounds k (.slice (some ⟨G, 0, none⟩) (rdC s (rdFs s p k)) (rdC s (rdFs s p k)))) := by
  refine ⟨heap_setCell_same w F k cur _ _ h.block, by simp [h.size], fun j hj => ?_⟩
  rcases (by omega : j < k ∨ j = k) with hlt | rfl
  · obtain ⟨G', c', h1, h2, h3⟩ := h.told j hlt
    exact ⟨G', c', by rw [Array.getElem?_setIfInBounds, if_neg (by omega)]; exact h1, h2, h3.kept (Below.heap_setCell _ _ _ _ (by simp; omega))⟩
  · exact ⟨G, c, by rw [Array.getElem?_setIfInBounds, if_pos rfl, if_pos (by rw [h.size]; exact hk)], hG, hR.kept (Below.heap_setCell _ _ _ _ (by simp; omega))⟩
theorem infoSl : (Tryd.prog.info? 55).map (fun i => (i.zero, i.size, i.bytes)) = some (some (.slice none 0 0), 1, 24) := by kernel_rfl
def nilRow (n : Nat) : Array Value := madeCells #[.slice none 0 0] (n * 1)
theorem nilRow_size (n : Nat) : (nilRow n).size = n := by rw [nilRow, size_madeCells]; omega
theorem make_fns (n : Nat) (h : n ≤ 1000) (w : World) : (Instr.makeSlice 22 (.int .i64 (n : Int)) (.int .i64 (n : Int))).run Tryd.prog w = .ok (.slice (some ⟨w.heap.size, 0, none⟩) n n) (w.alloc (.cells (nilRow n) 55)) := by
  obtain ⟨i0, hi, hz0, hz1, hz2⟩ := info_parts infoSl
  have hr := run_make (P := Tryd.prog) w 22 55 i0 _ Tryd.underlying22 hi hz0 .i64 .i64 n n (by omega) (Int.le_refl _) (by rw [hz2]; omega) (by omega)
  simp only [Int.toNat_natCast, hz1] at hr
  exact hr
/-- a slice of functions that lie from block B on -/
def SlFrom (B : Nat) (w : World) (v : Value) (fs : List (List In)) : Prop := ∀ w'' : World, (∀ b, B ≤ b → b < w.heap.size → w''.heap[b]? = w.heap[b]?) → SlF w'' v fs
theorem SlFrom.now {B : Nat} {w : World} {v : Value} {fs : List (List In)} (h : SlFrom B w v fs) : SlF w v fs := h w fun _ _ _ => rfl
theorem SlFrom.kept {B : Nat} {w w' : World} {v : Value} {fs : List (List In)} (h : SlFrom B w v fs) (hs : w.heap.size ≤ w'.heap.size) (hb : ∀ b, B ≤ b → b < w.heap.size → w'.heap[b]? = w.heap[b]?) : SlFrom B w' v fs :=
  fun w'' hw => h w'' fun b h1 h2 => (hw b h1 (by omega)).trans (hb b h1 h2)
theorem cell_far {w : World} {p q : Addr} {u : Value} (h : q.block ≠ p.block) : (w.setCell p u).cell? q = w.cell? q := World.cell?_of_block (Below.heap_setCell _ _ _ _ h)
end Go.Proofs.YtpmapdialjdcbaaDoor.C2
