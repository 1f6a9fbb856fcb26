/-
  Helpers: C2Take, C2Read, C2Read2, C2Read3, C2Get, C2Back.
-/
import Derived.Test.YtpmapdialjdcbaaDoorBun35e905bdedf4
import Derived.Laws.BitsAllLaws
namespace Go.Proofs.YtpmapdialjdcbaaDoor.C2
open Go.RowKit

def byteAt (s : List UInt8) (i : Nat) : Int := ((s.getD i 0).toNat : Int)
theorem byteAt_bd (s : List UInt8) (i : Nat) : 0 ≤ byteAt s i ∧ byteAt s i ≤ 255 := by
  have := (s.getD i 0).toNat_lt
  unfold byteAt
  omega
/-- so many bytes from a place on as one number of 32 bits -/
def rdU (s : List UInt8) (p : Nat) : Nat → Int
  | 0 => 0
  | k + 1 => rdU s p k * 256 % 4294967296 + byteAt s (p + k)
theorem rdU_bd (s : List UInt8) (p k : Nat) : 0 ≤ rdU s p k ∧ rdU s p k ≤ 4294967295 := by
  cases k with
  | zero => simp [rdU]
  | succ k =>
    have := byteAt_bd s (p + k)
    simp only [rdU]
    omega
theorem wrap32_bd (v : Int) : -2147483648 ≤ wrap32 v ∧ wrap32 v ≤ 2147483647 := by unfold wrap32; omega
def takeV (s : List UInt8) (p k : Nat) : Int := wrap32 (rdU s p k)
theorem or_low (x : Int) (b : UInt8) : bits .or .u32 (x * 256 % 4294967296) ((b.toNat : Int) % 4294967296) = x * 256 % 4294967296 + (b.toNat : Int) := by
  have hb := b.toNat_lt
  have e2 : ((b.toNat : Int) % 4294967296) = (b.toNat : Int) := by omega
  obtain ⟨m, hm, hm2⟩ : ∃ m : Nat, x * 256 % 4294967296 = ((2 ^ 8 * m : Nat) : Int) ∧ m < 16777216 := ⟨(x % 16777216).toNat, by omega, by omega⟩
  rw [e2, hm]
  have h1 : (BitVec.ofInt 32 ((2 ^ 8 * m : Nat) : Int)).toNat = 2 ^ 8 * m := by rw [BitVec.toNat_ofInt]; omega
  have h2 : (BitVec.ofInt 32 (b.toNat : Int)).toNat = b.toNat := by rw [BitVec.toNat_ofInt]; omega
  show IntKind.u32.wrap ((BitVec.ofInt 32 ((2 ^ 8 * m : Nat) : Int) ||| BitVec.ofInt 32 (b.toNat : Int)).toNat : Nat) = _
  rw [BitVec.toNat_or, h1, h2, ← Nat.two_pow_add_eq_or_of_lt (by omega)]
  rw [IntKind.wrap_u32]
  omega
theorem grown_set1 {w w1 : World} {g : Nat} (h : w.grownBy w1 (some g)) (n : Nat) (j : Nat) (u : Value) : w.grownBy ((w1.drewN n).setCell ⟨g, j, none⟩ u) (some g) :=
  ⟨h.os, h.tape, h.output, by have := h.size; simp [World.setCell]; omega, fun k hk hne => (Below.heap_setCell _ _ _ _ (fun e => hne (by rw [e]))).trans (h.block k hk hne)⟩
theorem byteAt_in {s : ByteArray} {q : Nat} (h : q < s.size) : byteAt s.data.toList q = (s[q].toNat : Int) := by
  have h2 : q < s.data.toList.length := by simpa using h
  unfold byteAt
  rw [List.getD_eq_getElem?_getD, List.getElem?_eq_getElem h2]
  rfl
theorem byteAt_out {s : ByteArray} {q : Nat} (h : ¬ q < s.size) : byteAt s.data.toList q = 0 := by
  have h2 : s.data.toList.length ≤ q := by simp; omega
  unfold byteAt
  rw [List.getD_eq_getElem?_getD, List.getElem?_eq_none h2]
  rfl
end Go.Proofs.YtpmapdialjdcbaaDoor.C2
namespace Go.Proofs.YtpmapdialjdcbaaDoor.C2
open Go.RowKit

/-- where an instruction's operand lies that begins at p -/
def rdPos (o : Int) (p : Nat) : Nat → Nat
  | 0 => p + 1
  | k + 1 => rdPos o p k + (widthOf o k).toNat
def rdO (s : List UInt8) (p : Nat) : Int := takeV s p 1
def rdA (s : List UInt8) (p k : Nat) : Int := takeV s (rdPos (rdO s p) p k) (widthOf (rdO s p) k).toNat
/-- the instruction at p -/
def rdI (s : List UInt8) (p : Nat) : In := ⟨rdO s p, rdA s p 0, rdA s p 1, rdA s p 2⟩
/-- and where the next one begins -/
def rdN (s : List UInt8) (p : Nat) : Nat := rdPos (rdO s p) p 3
theorem rdPos_le (o : Int) (p k : Nat) : rdPos o p k ≤ p + 1 + 4 * k := by
  induction k with
  | zero => simp [rdPos]
  | succ k ih =>
    have := widthOf_bd o k
    simp only [rdPos]
    omega
theorem grown_trans {a b c : World} {row : Option Nat} (h : a.grownBy b row) (k : b.grownBy c row) : a.grownBy c row :=
  ⟨k.os.trans h.os, k.tape.trans h.tape, k.output.trans h.output, Nat.le_trans h.size k.size, fun i hi hne => (k.block i (Nat.lt_of_lt_of_le hi h.size) hne).trans (h.block i hi hne)⟩
theorem grown_setCell' {w w1 : World} {row : Option Nat} (h : w.grownBy w1 row) {p : Addr} (hp : w.heap.size ≤ p.block) (u : Value) : w.grownBy (w1.setCell p u) row :=
  ⟨h.os, h.tape, h.output, by have := h.size; simp [World.setCell]; omega, fun k hk hne => (Below.heap_setCell _ _ _ _ (by omega)).trans (h.block k hk hne)⟩
theorem grown_alloc {a b : World} {row : Option Nat} (h : a.grownBy b row) (o : Obj) : a.grownBy (b.alloc o) row := grown_trans h (World.grownBy_alloc _ _ _)
theorem four_old (w : World) (a b c d : Obj) (k : Nat) (h : k < w.heap.size) : ((((w.alloc a).alloc b).alloc c).alloc d).drew.heap[k]? = w.heap[k]? := by
  rw [heap_drew, Below.heap_alloc _ _ _ (by simp; omega), Below.heap_alloc _ _ _ (by simp; omega), Below.heap_alloc _ _ _ (by simp; omega), Below.heap_alloc _ _ _ h]
theorem four_first (w : World) (a b c d : Obj) : ((((w.alloc a).alloc b).alloc c).alloc d).drew.heap[w.heap.size]? = some a := by
  rw [heap_drew, Below.heap_alloc _ _ _ (by simp; omega), Below.heap_alloc _ _ _ (by simp; omega), Below.heap_alloc _ _ _ (by simp)]
  exact heap_alloc_new _ _
theorem four_third (w : World) (a b c d : Obj) : ((((w.alloc a).alloc b).alloc c).alloc d).drew.heap[w.heap.size + 1 + 1]? = some c := by
  rw [heap_drew, Below.heap_alloc _ _ _ (by simp)]
  have := heap_alloc_new ((w.alloc a).alloc b) c
  simpa using this
end Go.Proofs.YtpmapdialjdcbaaDoor.C2
namespace Go.Proofs.YtpmapdialjdcbaaDoor.C2
open Go.RowKit

/-- a row of instructions, the first k of which are told -/
structure RowK (w : World) (G n k : Nat) (f : Nat → In) (cur : Array Value) : Prop where
  block : w.heap[G]? = some (.cells cur 54 (0, 0))
  size : cur.size = n * 4
  at0 : ∀ j, j < k → cur[j * 4]? = some (.int .i64 (f j).o)
  at1 : ∀ j, j < k → cur[j * 4 + 1]? = some (.int .i64 (f j).a)
  at2 : ∀ j, j < k → cur[j * 4 + 2]? = some (.int .i64 (f j).b)
  at3 : ∀ j, j < k → cur[j * 4 + 3]? = some (.int .i64 (f j).c)
theorem RowK.kept {w w' : World} {G n k : Nat} {f : Nat → In} {cur : Array Value} (h : RowK w G n k f cur) (hb : w'.heap[G]? = w.heap[G]?) : RowK w' G n k f cur := ⟨hb.trans h.block, h.size, h.at0, h.at1, h.at2, h.at3⟩
theorem RowK.lt {w : World} {G n k : Nat} {f : Nat → In} {cur : Array Value} (h : RowK w G n k f cur) : G < w.heap.size := lt_of_block h.block
theorem RowK.slI {w : World} {G n : Nat} {f : Nat → In} {cur : Array Value} (h : RowK w G n n f cur) : SlI w (.slice (some ⟨G, 0, none⟩) n n) ((List.range n).map f) := by
  refine ⟨some ⟨G, 0, none⟩, n, by simp, fun k hk => ⟨G, 0, rfl, ?_⟩⟩
  have hk' : k < n := by simpa using hk
  have hc := fun j => cell_of_row w G j cur _ _ h.block
  constructor <;> simp [hc, h.at0 k hk', h.at1 k hk', h.at2 k hk', h.at3 k hk']
/-- a cell that is there -/
theorem RowK.cell {w : World} {G n k : Nat} {f : Nat → In} {cur : Array Value} (h : RowK w G n k f cur) (j : Nat) (hj : j < n * 4) : ∃ u, w.cell? ⟨G, j, none⟩ = some u := by
  have hj2 : j < cur.size := by rw [h.size]; exact hj
  exact ⟨cur[j], by rw [cell_of_row w G j cur _ _ h.block, Array.getElem?_eq_getElem hj2]⟩
theorem RowK.store {w : World} {G n k : Nat} {f : Nat → In} {cur : Array Value} (h : RowK w G n k f cur) (hk : k < n) :
    ∃ cur', RowK ((((w.setCell ⟨G, k * 4, none⟩ (.int .i64 (f k).o)).setCell ⟨G, k * 4 + 1, none⟩ (.int .i64 (f k).a)).setCell ⟨G, k * 4 + 2, none⟩ (.int .i64 (f k).b)).setCell ⟨G, k * 4 + 3, none⟩ (.int .i64 (f k).c)) G n (k + 1) f cur' := by
  have b1 := heap_setCell_same w G (k * 4) cur _ (.int .i64 (f k).o) h.block
  have b2 := heap_setCell_same _ G (k * 4 + 1) _ _ (.int .i64 (f k).a) b1
  have b3 := heap_setCell_same _ G (k * 4 + 2) _ _ (.int .i64 (f k).b) b2
  have b4 := heap_setCell_same _ G (k * 4 + 3) _ _ (.int .i64 (f k).c) b3
  have hs := h.size
  refine ⟨_, b4, by simp [hs], fun j hj => ?_, fun j hj => ?_, fun j hj => ?_, fun j hj => ?_⟩
  all_goals
    simp only [Array.getElem?_setIfInBounds, Array.size_setIfInBounds]
    rcases (by omega : j < k ∨ j = k) with hlt | rfl
    · first
        | exact (by rw [if_neg (by omega), if_neg (by omega), if_neg (by omega), if_neg (by omega)]; exact h.at0 j hlt)
        | exact (by rw [if_neg (by omega), if_neg (by omega), if_neg (by omega), if_neg (by omega)]; exact h.at1 j hlt)
        | exact (by rw [if_neg (by omega), if_neg (by omega), if_neg (by omega), if_neg (by omega)]; exact h.at2 j hlt)
        | exact (by rw [if_neg (by omega), if_neg (by omega), if_neg (by omega), if_neg (by omega)]; exact h.at3 j hlt)
    · first
        | (rw [if_pos rfl, if_pos (by omega)])
        | (rw [if_neg (by omega), if_pos rfl, if_pos (by omega)])
        | (rw [if_neg (by omega), if_neg (by omega), if_pos rfl, if_pos (by omega)])
        | (rw [if_neg (by omega), if_neg (by omega), if_neg (by omega), if_pos rfl, if_pos (by omega)])
/-- where the k-th instruction from p on begins -/
def rdNs (s : List UInt8) (p : Nat) : Nat → Nat
  | 0 => p
  | k + 1 => rdN s (rdNs s p k)
theorem rdNs_le (s : List UInt8) (p k : Nat) : rdNs s p k ≤ p + 13 * k := by
  induction k with
  | zero => simp [rdNs]
  | succ k ih =>
    have := rdPos_le (rdO s (rdNs s p k)) (rdNs s p k) 3
    simp only [rdNs, rdN]
    omega
def rdC (s : List UInt8) (p : Nat) : Nat := (takeV s p 1).toNat
theorem takeV_one (s : List UInt8) (p : Nat) : takeV s p 1 = byteAt s p := by
  have := byteAt_bd s p
  simp only [takeV, rdU]
  unfold wrap32
  simp
  omega
theorem rdC_eq (s : List UInt8) (p : Nat) : takeV s p 1 = (rdC s p : Int) ∧ rdC s p ≤ 255 := by
  have := byteAt_bd s p
  unfold rdC
  rw [takeV_one]
  omega
/-- the function at p -/
def rdF (s : List UInt8) (p : Nat) : List In := (List.range (rdC s p)).map fun k => rdI s (rdNs s (p + 1) k)
def rdFN (s : List UInt8) (p : Nat) : Nat := rdNs s (p + 1) (rdC s p)
theorem infoIns : (Tryd.prog.info? 54).map (fun i => (i.zero, i.size, i.bytes)) = some (some (.agg #[.int .i64 0, .int .i64 0, .int .i64 0, .int .i64 0]), 4, 32) := by kernel_rfl
def zeroRow (n : Nat) : Array Value := madeCells #[.int .i64 0, .int .i64 0, .int .i64 0, .int .i64 0] (n * 4)
theorem zeroRow_size (n : Nat) : (zeroRow n).size = n * 4 := size_madeCells _ _
theorem make_ins (n : Nat) (h : n ≤ 1000) (w : World) : (Instr.makeSlice 55 (.int .i64 (n : Int)) (.int .i64 (n : Int))).run Tryd.prog w = .ok (.slice (some ⟨w.heap.size, 0, none⟩) n n) (w.alloc (.cells (zeroRow n) 54)) := by
  obtain ⟨i0, hi, hz0, hz1, hz2⟩ := info_parts infoIns
  have hr := run_make (P := Tryd.prog) w 55 54 i0 _ Tryd.underlying55 hi hz0 .i64 .i64 n n (by omega) (Int.le_refl _) (by rw [hz2]; omega) (by omega)
  simp only [Int.toNat_natCast, hz1] at hr
  exact hr
end Go.Proofs.YtpmapdialjdcbaaDoor.C2
namespace Go.Proofs.YtpmapdialjdcbaaDoor.C2
open Go.RowKit

/-- where the k-th function begins, of those that begin at p -/
def rdFs (s : List UInt8) (p : Nat) : Nat → Nat
  | 0 => p
  | k + 1 => rdFN s (rdFs s p k)
theorem rdFs_le (s : List UInt8) (p k : Nat) : rdFs s p k ≤ p + 3316 * k := by
  induction k with
  | zero => simp [rdFs]
  | succ k ih =>
    have h1 := rdNs_le s (rdFs s p k + 1) (rdC s (rdFs s p k))
    have h2 := (rdC_eq s (rdFs s p k)).2
    simp only [rdFs, rdFN]
    omega
/-- the program whose numbers begin at p -/
def rdP (s : List UInt8) (p : Nat) : Pr := ⟨(List.range (rdC s (p + 4))).map fun k => rdF s (rdFs s (p + 5) k), takeV s p 1, takeV s (p + 1) 1, takeV s (p + 2) 2⟩
/-- a row of functions, the first k of which are told -/
structure RowF (w : World) (F n k : Nat) (s : List UInt8) (p : Nat) (cur : Array Value) : Prop where
  block : w.heap[F]? = some (.cells cur 55 (0, 0))
  size : cur.size = n
  told : ∀ j, j < k → ∃ G c, cur[j]? = some (.slice (some ⟨G, 0, none⟩) (rdC s (rdFs s p j)) (rdC s (rdFs s p j))) ∧ F < G ∧ RowK w G (rdC s (rdFs s p j)) (rdC s (rdFs s p j)) (fun i => rdI s (rdNs s (rdFs s p j + 1) i)) c
theorem RowF.kept {w w' : World} {F n k : Nat} {s : List UInt8} {p : Nat} {cur : Array Value} (h : RowF w F n k s p cur) (hb : ∀ b, F ≤ b → b < w.heap.size → w'.heap[b]? = w.heap[b]?) : RowF w' F n k s p cur :=
  ⟨(hb F (Nat.le_refl _) (lt_of_block h.block)).trans h.block, h.size, fun j hj => by
    obtain ⟨G, c, h1, h2, h3⟩ := h.told j hj
    exact ⟨G, c, h1, h2, h3.kept (hb G (Nat.le_of_lt h2) h3.lt)⟩⟩
theorem RowF.slF {w : World} {F n : Nat} {s : List UInt8} {p : Nat} {cur : Array Value} (h : RowF w F n n s p cur) : SlF w (.slice (some ⟨F, 0, none⟩) n n) ((List.range n).map fun k => rdF s (rdFs s p k)) := by
  refine ⟨some ⟨F, 0, none⟩, n, by simp, fun k hk => ?_⟩
  have hk' : k < n := by simpa using hk
  obtain ⟨G, c, h1, h2, h3⟩ := h.told k hk'
  refine ⟨F, 0, .slice (some ⟨G, 0, none⟩) (rdC s (rdFs s p k)) (rdC s (rdFs s p k)), rfl, ?_, ?_⟩
  · rw [Nat.zero_add, cell_of_row w F k cur _ _ h.block, h1]
  · have := h3.slI
    simpa [rdF] using this
theorem RowF.cell {w : World} {F n k : Nat} {s : List UInt8} {p : Nat} {cur : Array Value} (h : RowF w F n k s p cur) (j : Nat) (hj : j < n) : ∃ u, w.cell? ⟨F, j, none⟩ = some u := by
  have hj2 : j < cur.size := by rw [h.size]; exact hj
  exact ⟨cur[j], by rw [cell_of_row w F j cur _ _ h.block, Array.getElem?_eq_getElem hj2]⟩
theorem RowF.store {w : World} {F n k : Nat} {s : List UInt8} {p : Nat} {cur : Array Value} (h : RowF w F n k s p cur) (hk : k < n) {G : Nat} {c : Array Value} (hG : F < G)
    (hR : RowK w G (rdC s (rdFs s p k)) (rdC s (rdFs s p k)) (fun i => rdI s (rdNs s (rdFs s p k + 1) i)) c) :
    RowF (w.setCell ⟨F, k, none⟩ (.slice (some ⟨G, 0, none⟩) (rdC s (rdFs s p k)) (rdC s (rdFs s p k)))) F n (k + 1) s p (cur.setIfInBounds k (.slice (some ⟨G, 0, none⟩) (rdC s (rdFs s p k)) (rdC s (rdFs s p k)))) := by
  refine ⟨heap_setCell_same w F k cur _ _ h.block, by simp [h.size], fun j hj => ?_⟩
  rcases (by omega : j < k ∨ j = k) with hlt | rfl
  · obtain ⟨G', c', h1, h2, h3⟩ := h.told j hlt
    exact ⟨G', c', by rw [Array.getElem?_setIfInBounds, if_neg (by omega)]; exact h1, h2, h3.kept (Below.heap_setCell _ _ _ _ (by simp; omega))⟩
  · exact ⟨G, c, by rw [Array.getElem?_setIfInBounds, if_pos rfl, if_pos (by rw [h.size]; exact hk)], hG, hR.kept (Below.heap_setCell _ _ _ _ (by simp; omega))⟩
theorem infoSl : (Tryd.prog.info? 55).map (fun i => (i.zero, i.size, i.bytes)) = some (some (.slice none 0 0), 1, 24) := by kernel_rfl
def nilRow (n : Nat) : Array Value := madeCells #[.slice none 0 0] (n * 1)
theorem nilRow_size (n : Nat) : (nilRow n).size = n := by rw [nilRow, size_madeCells]; omega
theorem make_fns (n : Nat) (h : n ≤ 1000) (w : World) : (Instr.makeSlice 22 (.int .i64 (n : Int)) (.int .i64 (n : Int))).run Tryd.prog w = .ok (.slice (some ⟨w.heap.size, 0, none⟩) n n) (w.alloc (.cells (nilRow n) 55)) := by
  obtain ⟨i0, hi, hz0, hz1, hz2⟩ := info_parts infoSl
  have hr := run_make (P := Tryd.prog) w 22 55 i0 _ Tryd.underlying22 hi hz0 .i64 .i64 n n (by omega) (Int.le_refl _) (by rw [hz2]; omega) (by omega)
  simp only [Int.toNat_natCast, hz1] at hr
  exact hr
/-- a slice of functions that lie from block B on -/
def SlFrom (B : Nat) (w : World) (v : Value) (fs : List (List In)) : Prop := ∀ w'' : World, (∀ b, B ≤ b → b < w.heap.size → w''.heap[b]? = w.heap[b]?) → SlF w'' v fs
theorem SlFrom.now {B : Nat} {w : World} {v : Value} {fs : List (List In)} (h : SlFrom B w v fs) : SlF w v fs := h w fun _ _ _ => rfl
theorem SlFrom.kept {B : Nat} {w w' : World} {v : Value} {fs : List (List In)} (h : SlFrom B w v fs) (hs : w.heap.size ≤ w'.heap.size) (hb : ∀ b, B ≤ b → b < w.heap.size → w'.heap[b]? = w.heap[b]?) : SlFrom B w' v fs :=
  fun w'' hw => h w'' fun b h1 h2 => (hw b h1 (by omega)).trans (hb b h1 h2)
theorem cell_far {w : World} {p q : Addr} {u : Value} (h : q.block ≠ p.block) : (w.setCell p u).cell? q = w.cell? q := World.cell?_of_block (Below.heap_setCell _ _ _ _ h)
end Go.Proofs.YtpmapdialjdcbaaDoor.C2
namespace Go.Proofs.YtpmapdialjdcbaaDoor.C2
open Go.RowKit

theorem SlF.kept {w w' : World} {v : Value} {fs : List (List In)} (h : SlF w v fs) (hb : Below w.heap.size w w') : SlF w' v fs := h.still (still_of_below hb)
theorem rdP_small (s : List UInt8) (p : Nat) : (rdP s p).fs.length ≤ 1000000 ∧ ∀ f ∈ (rdP s p).fs, f.length ≤ 1000000 := by
  constructor
  · have := (rdC_eq s (p + 4)).2
    simp [rdP]
    omega
  · intro f hf
    simp only [rdP, List.mem_map] at hf
    obtain ⟨k, -, rfl⟩ := hf
    have := (rdC_eq s (rdFs s (p + 5) k)).2
    simp [rdF]
    omega
theorem putE_cases (p : Pr) : putE p = 0 ∨ putE p = 1 ∨ putE p = 2 := by
  unfold putE
  split
  · simp
  · split <;> simp
theorem str_eq {a b : ByteArray} (h : a = b) : (a.toList == b.toList) = true := by rw [h]; simp
theorem str_ne {a b : ByteArray} (h : ¬ a = b) : (a.toList == b.toList) = false := by
  rw [beq_eq_false_iff_ne]
  intro e
  exact h (WideShapes.bytes_inj (by simpa [ByteArray.toList_eq] using e))
end Go.Proofs.YtpmapdialjdcbaaDoor.C2
namespace Go.Proofs.YtpmapdialjdcbaaDoor.C2
open Go.RowKit

/-- l lies in s at p -/
def At (s : List UInt8) (p : Nat) (l : List UInt8) : Prop := ∃ pre post, s = pre ++ (l ++ post) ∧ pre.length = p
theorem At.left {s : List UInt8} {p : Nat} {a b : List UInt8} (h : At s p (a ++ b)) : At s p a := by
  obtain ⟨pre, post, h1, h2⟩ := h
  exact ⟨pre, b ++ post, by rw [h1, List.append_assoc], h2⟩
theorem At.right {s : List UInt8} {p : Nat} {a b : List UInt8} (h : At s p (a ++ b)) : At s (p + a.length) b := by
  obtain ⟨pre, post, h1, h2⟩ := h
  exact ⟨pre ++ a, post, by rw [h1]; simp, by simp [h2]⟩
theorem At.byte {s : List UInt8} {p : Nat} {l : List UInt8} (h : At s p l) (i : Nat) (hi : i < l.length) : byteAt s (p + i) = (l[i].toNat : Int) := by
  obtain ⟨pre, post, h1, h2⟩ := h
  subst h2
  unfold byteAt
  rw [h1, List.getD_eq_getElem?_getD, List.getElem?_append_right (by omega)]
  have e : pre.length + i - pre.length = i := by omega
  rw [e, List.getElem?_append_left hi, List.getElem?_eq_getElem hi]
  rfl
theorem byteN_nat (v : Int) (k : Nat) : ((byteN v k).toNat : Int) = v / 2 ^ (8 * k) % 256 := by
  have := cellU_byteN v k
  simpa [cellU] using this
theorem take1 {s : List UInt8} {p : Nat} {v : Int} (h : At s p (be 1 v)) (h0 : 0 ≤ v) (h1 : v ≤ 255) : takeV s p 1 = v := by
  have b0 := h.byte 0 (by simp [be])
  simp only [be, Nat.add_zero, List.getElem_cons_zero, byteN_nat] at b0
  rw [takeV_one, b0]
  simp
  omega
theorem take2 {s : List UInt8} {p : Nat} {v : Int} (h : At s p (be 2 v)) (h0 : 0 ≤ v) (h1 : v ≤ 65535) : takeV s p 2 = v := by
  have b0 := h.byte 0 (by simp [be])
  have b1 := h.byte 1 (by simp [be])
  simp only [be, Nat.add_zero, List.getElem_cons_zero, List.getElem_cons_succ, byteN_nat] at b0 b1
  simp only [takeV, rdU, Nat.add_zero]
  rw [b0, b1]
  unfold wrap32
  simp
  omega
theorem take4 {s : List UInt8} {p : Nat} {v : Int} (h : At s p (be 4 v)) (h0 : -2147483648 ≤ v) (h1 : v ≤ 2147483647) : takeV s p 4 = v := by
  have b0 := h.byte 0 (by simp [be])
  have b1 := h.byte 1 (by simp [be])
  have b2 := h.byte 2 (by simp [be])
  have b3 := h.byte 3 (by simp [be])
  simp only [be, Nat.add_zero, List.getElem_cons_zero, List.getElem_cons_succ, byteN_nat] at b0 b1 b2 b3
  simp only [takeV, rdU, Nat.add_zero]
  rw [b0, b1, b2, b3]
  unfold wrap32
  simp
  omega
theorem take0 (s : List UInt8) (p : Nat) : takeV s p 0 = 0 := by simp [takeV, rdU, wrap32]
theorem inB_iff {v lo hi : Int} : inB v lo hi = true ↔ lo ≤ v ∧ v ≤ hi := by simp [inB]
theorem lasts_other (o : Int) (h1 : 1 ≤ o) (h2 : o ≤ 15) (h : ¬ o = 1) : lastOf o 0 ≤ 39 ∧ lastOf o 1 ≤ 39 ∧ lastOf o 2 ≤ 39 := by
  rcases (by omega : o = 2 ∨ o = 3 ∨ o = 4 ∨ o = 5 ∨ o = 6 ∨ o = 7 ∨ o = 8 ∨ o = 9 ∨ o = 10 ∨ o = 11 ∨ o = 12 ∨ o = 13 ∨ o = 14 ∨ o = 15) with rfl | rfl | rfl | rfl | rfl | rfl | rfl | rfl | rfl | rfl | rfl | rfl | rfl | rfl <;> decide +kernel
theorem first_small {l : Int} (h : l ≤ 39) : firstOf l = 0 := by unfold firstOf; rw [if_neg (by omega)]
theorem shape_parts {o a b c : Int} (h : shapeB o a b c = true) : 1 ≤ o ∧ o ≤ 15 ∧ (o = 1 → 0 ≤ a ∧ a ≤ 255 ∧ -2147483648 ≤ b ∧ b ≤ 2147483647 ∧ c = 0) ∧ (¬ o = 1 → 0 ≤ a ∧ a ≤ 255 ∧ 0 ≤ b ∧ b ≤ 255 ∧ 0 ≤ c ∧ c ≤ 255) := by
  simp only [shapeB, Bool.and_eq_true, inB_iff] at h
  obtain ⟨⟨⟨⟨h1, h2⟩, ha⟩, hb⟩, hc⟩ := h
  refine ⟨h1, h2, fun h => ?_, fun h => ?_⟩
  · subst h
    have e0 : lastOf 1 0 = 7 := by decide +kernel
    have e1 : lastOf 1 1 = 2147483647 := by decide +kernel
    have e2 : lastOf 1 2 = 0 := by decide +kernel
    have g0 : firstOf 7 = 0 := by decide +kernel
    have g1 : firstOf 2147483647 = -2147483648 := by decide +kernel
    have g2 : firstOf 0 = 0 := by decide +kernel
    rw [e0, g0] at ha
    rw [e1, g1] at hb
    rw [e2, g2] at hc
    omega
  · obtain ⟨l0, l1, l2⟩ := lasts_other o h1 h2 h
    rw [first_small l0] at ha
    rw [first_small l1] at hb
    rw [first_small l2] at hc
    omega
/-- an instruction that lies there is read, and the next one begins behind it -/
theorem ins_back {s : List UInt8} {p : Nat} {o a b c : Int} (h : At s p (insB o a b c)) (hs : shapeB o a b c = true) : rdI s p = ⟨o, a, b, c⟩ ∧ rdN s p = p + (insB o a b c).length := by
  obtain ⟨h1, h2, hc, hn⟩ := shape_parts hs
  have ho : rdO s p = o := take1 (At.left h) (by omega) (by omega)
  have hr := At.right h
  simp only [be_length] at hr
  by_cases h1' : o = 1
  · obtain ⟨a0, a1, b0, b1, c0⟩ := hc h1'
    subst h1'
    have w0 : widthOf 1 0 = 1 := by decide
    have w1 : widthOf 1 1 = 4 := by decide
    have w2 : widthOf 1 2 = 0 := by decide
    simp only [restB, w0, w1, w2, if_true] at hr
    have ea := take1 hr.left a0 a1
    have hr2 := hr.right
    simp only [be_length] at hr2
    have eb := take4 hr2.left b0 b1
    have e : rdI s p = ⟨1, a, b, c⟩ := by
      simp only [rdI, rdA, ho, rdPos]
      simp only [Int.natCast_zero, Int.natCast_one, show ((2 : Nat) : Int) = 2 from rfl, w0, w1, w2]
      rw [c0]
      exact congr (congr (congrArg (In.mk 1) ea) eb) (take0 _ _)
    refine ⟨e, ?_⟩
    simp only [rdN, ho, rdPos, insB, restB, List.length_append, be_length]
    simp [w0, w1, w2, be_length]
  · obtain ⟨a0, a1, b0, b1, c0, c1⟩ := hn h1'
    have w0 : widthOf o 0 = 1 := by simp [widthOf, h1']
    have w1 : widthOf o 1 = 1 := by simp [widthOf, h1']
    have w2 : widthOf o 2 = 1 := by simp [widthOf, h1']
    simp only [restB, w0, w1, w2, if_true] at hr
    have ea := take1 hr.left a0 a1
    have hr2 := hr.right
    simp only [be_length] at hr2
    have eb := take1 hr2.left b0 b1
    have hr3 := hr2.right
    simp only [be_length] at hr3
    have ec := take1 hr3 c0 c1
    have e : rdI s p = ⟨o, a, b, c⟩ := by
      simp only [rdI, rdA, ho, rdPos]
      simp only [Int.natCast_zero, Int.natCast_one, show ((2 : Nat) : Int) = 2 from rfl, w0, w1, w2]
      exact congr (congr (congrArg (In.mk o) ea) eb) ec
    refine ⟨e, ?_⟩
    simp only [rdN, ho, rdPos, insB, restB, List.length_append, be_length]
    simp [w0, w1, w2, be_length]
theorem codeB_split {f : List In} {k : Nat} (h : k < f.length) : codeB f = codeB (f.take k) ++ (insBI f[k] ++ codeB (f.drop (k + 1))) := by
  have e : f = f.take k ++ (f[k] :: f.drop (k + 1)) := by rw [← List.drop_eq_getElem_cons h, List.take_append_drop]
  refine (congrArg codeB e).trans ?_
  rw [codeB, List.map_append, List.flatten_append, List.map_cons, List.flatten_cons]
  rfl
theorem code_back {s : List UInt8} {p : Nat} {f : List In} (h : At s p (codeB f)) (hs : f.all shapeI = true) (k : Nat) (hk : k ≤ f.length) : rdNs s p k = p + (codeB (f.take k)).length := by
  induction k with
  | zero => simp [rdNs, codeB]
  | succ k ih =>
    have hk' : k < f.length := by omega
    have hsh : shapeI f[k] = true := List.all_eq_true.1 hs _ (List.getElem_mem hk')
    rw [codeB_split hk'] at h
    have h2 := h.right.left
    have hb := ins_back (s := s) (p := p + (codeB (f.take k)).length) h2 hsh
    rw [rdNs, ih (by omega), hb.2, codeB_snoc hk', List.length_append, Nat.add_assoc]
theorem code_at {s : List UInt8} {p : Nat} {f : List In} (h : At s p (codeB f)) (hs : f.all shapeI = true) (k : Nat) (hk : k < f.length) : rdI s (rdNs s p k) = f[k] := by
  have hsh : shapeI f[k] = true := List.all_eq_true.1 hs _ (List.getElem_mem hk)
  rw [code_back h hs k (by omega)]
  rw [codeB_split hk] at h
  exact (ins_back (s := s) (p := p + (codeB (f.take k)).length) h.right.left hsh).1
theorem fun_back {s : List UInt8} {p : Nat} {f : List In} (h : At s p (funB f)) (hs : f.all shapeI = true) (hl : f.length ≤ 40) : rdF s p = f ∧ rdFN s p = p + (funB f).length := by
  have hn : takeV s p 1 = (f.length : Int) := take1 h.left (by omega) (by omega)
  have hc : rdC s p = f.length := by unfold rdC; rw [hn]; simp
  have hr := h.right
  simp only [be_length] at hr
  constructor
  · unfold rdF
    rw [hc]
    apply List.ext_getElem
    · simp
    · intro k h1 h2
      simp
      exact code_at hr hs k h2
  · unfold rdFN
    rw [hc, code_back hr hs f.length (Nat.le_refl _), List.take_length, funB, List.length_append, be_length]
    omega
theorem funsB_split {fs : List (List In)} {k : Nat} (h : k < fs.length) : funsB fs = funsB (fs.take k) ++ (funB fs[k] ++ funsB (fs.drop (k + 1))) := by
  have e : fs = fs.take k ++ (fs[k] :: fs.drop (k + 1)) := by rw [← List.drop_eq_getElem_cons h, List.take_append_drop]
  refine (congrArg funsB e).trans ?_
  rw [funsB, List.map_append, List.flatten_append, List.map_cons, List.flatten_cons]
  rfl
/-- a program that may be put -/
structure Good (p : Pr) : Prop where
  few : p.fs.length ≤ 12
  small : ∀ f ∈ p.fs, f.length ≤ 40
  shapes : ∀ f ∈ p.fs, f.all shapeI = true
  futs : 0 ≤ p.futs ∧ p.futs ≤ 16
  depth : 0 ≤ p.depth ∧ p.depth ≤ 5
  fuel : 1 ≤ p.fuel ∧ p.fuel ≤ 500
theorem good_iff (p : Pr) : Good p ↔ bigB p.fs = false ∧ soundB p = true := by
  constructor
  · intro h
    constructor
    · exact big_not (by have := h.few; omega) fun k hk => by have := h.small _ (List.getElem_mem hk); omega
    · simp only [soundB, Bool.and_eq_true, inB_iff, List.all_eq_true]
      exact ⟨fun f hf => by have := h.shapes f hf; rw [List.all_eq_true] at this; exact this, ⟨h.futs, h.depth⟩, h.fuel⟩
  · intro ⟨h1, h2⟩
    obtain ⟨a, b⟩ := not_big h1
    simp only [soundB, Bool.and_eq_true, inB_iff] at h2
    obtain ⟨c, ⟨d, e⟩, f⟩ := h2
    exact ⟨a, b, fun x hx => List.all_eq_true.1 c x hx, d, e, f⟩
theorem Good.code {p : Pr} (h : Good p) : putE p = 0 := by
  obtain ⟨h1, h2⟩ := (good_iff p).1 h
  simp [putE, h1, h2]
theorem Good.text {p : Pr} (h : Good p) : putT p = putB p := by
  obtain ⟨h1, h2⟩ := (good_iff p).1 h
  simp [putT, h1, h2]
theorem good_of_code {p : Pr} (h : putE p = 0) : Good p := by
  rw [good_iff]
  unfold putE at h
  cases h1 : bigB p.fs
  · cases h2 : soundB p
    · simp [h1, h2] at h
    · exact ⟨rfl, rfl⟩
  · simp [h1] at h
theorem funs_back {s : List UInt8} {p : Nat} {fs : List (List In)} (h : At s p (funsB fs)) (hs : ∀ f ∈ fs, f.all shapeI = true) (hl : ∀ f ∈ fs, f.length ≤ 40) (k : Nat) (hk : k ≤ fs.length) : rdFs s p k = p + (funsB (fs.take k)).length := by
  induction k with
  | zero => simp [rdFs, funsB]
  | succ k ih =>
    have hk' : k < fs.length := by omega
    rw [funsB_split hk'] at h
    have hb := fun_back (s := s) (p := p + (funsB (fs.take k)).length) h.right.left (hs _ (List.getElem_mem hk')) (hl _ (List.getElem_mem hk'))
    rw [rdFs, ih (by omega), hb.2, funsB_snoc hk', List.length_append, Nat.add_assoc]
/-- WHAT IS PUT IS GOT, whatever stands behind it -/
theorem put_back {p : Pr} (hg : Good p) (rest : List UInt8) : rdP (putB p ++ rest) 3 = p := by
  have h : At (putB p ++ rest) 0 (putB p) := ⟨[], rest, by simp, rfl⟩
  have e : putB p = [77, 71, 80] ++ (be 1 p.futs ++ (be 1 p.depth ++ (be 2 p.fuel ++ (be 1 p.fs.length ++ funsB p.fs)))) := by simp [putB, headB]
  generalize (putB p ++ rest) = s at *
  rw [e] at h
  have h1 : At s 3 (be 1 p.futs ++ (be 1 p.depth ++ (be 2 p.fuel ++ (be 1 p.fs.length ++ funsB p.fs)))) := h.right
  have f1 := take1 h1.left hg.futs.1 (by have := hg.futs.2; omega)
  have h2 := h1.right
  simp only [be_length] at h2
  have f2 := take1 h2.left hg.depth.1 (by have := hg.depth.2; omega)
  have h3 := h2.right
  simp only [be_length] at h3
  have f3 := take2 h3.left (by have := hg.fuel.1; omega) (by have := hg.fuel.2; omega)
  have h4 := h3.right
  simp only [be_length] at h4
  have f4 := take1 h4.left (by omega) (by have := hg.few; omega)
  have h5 := h4.right
  simp only [be_length] at h5
  have hc : rdC s (3 + 4) = p.fs.length := by
    have : takeV s (3 + 4) 1 = (p.fs.length : Int) := f4
    unfold rdC
    rw [this]
    simp
  have hfs : ((List.range (rdC s (3 + 4))).map fun k => rdF s (rdFs s (3 + 5) k)) = p.fs := by
    rw [hc]
    apply List.ext_getElem
    · simp
    · intro k h1 h2
      simp
      have h5' : At s 8 (funsB p.fs) := h5
      rw [funs_back h5' hg.shapes hg.small k (by omega)]
      rw [funsB_split h2] at h5'
      exact (fun_back h5'.right.left (hg.shapes _ (List.getElem_mem h2)) (hg.small _ (List.getElem_mem h2))).1
  obtain ⟨fs, futs, depth, fuel⟩ := p
  exact congr (congr (congr (congrArg Pr.mk hfs) f1) f2) f3
theorem put_inj {p q : Pr} (hp : Good p) (hq : Good q) (h : putB p = putB q) : p = q := by
  have h1 := put_back hp []
  have h2 := put_back hq []
  rw [h] at h1
  exact h1.symm.trans h2
/-- no program's bytes go on to another's -/
theorem put_free {p q : Pr} (hp : Good p) (hq : Good q) {rest : List UInt8} (h : putB q = putB p ++ rest) : rest = [] := by
  have h1 := put_back hp rest
  rw [← h] at h1
  have h2 := put_back hq []
  rw [List.append_nil] at h2
  have e : q = p := h2.symm.trans h1
  rw [e] at h
  have := congrArg List.length h
  simp at this
  exact this
theorem strB_data (l : List UInt8) : (strB l).data.toList = l := by simp [strB]
theorem strB_inj {a b : List UInt8} (h : strB a = strB b) : a = b := by rw [← strB_data a, h, strB_data]
end Go.Proofs.YtpmapdialjdcbaaDoor.C2
