/-
  Helpers: C2Bytes.
-/
import Derived.WalkKit
import Derived.Deep.Draws
import Derived.Laws.BytesString
import Derived.Laws.Cells
namespace Go.Proofs.YtpmapdialjdcbaaDoor.C2
open Go.RowKit

/-- of a number the byte of that place, from below -/
def byteN (v : Int) (k : Nat) : UInt8 := UInt8.ofNat (v / 2 ^ (8 * k) % 256).toNat
/-- so many bytes of a number, the highest first -/
def be : Nat → Int → List UInt8
  | 0, _ => []
  | k + 1, v => byteN v k :: be k v
def cellU (x : UInt8) : Value := .int .u8 (x.toNat : Int)
theorem cellU_byteN (v : Int) (k : Nat) : cellU (byteN v k) = .int .u8 (v / 2 ^ (8 * k) % 256) := by
  unfold cellU byteN
  congr 1
  generalize v / 2 ^ (8 * k) = q
  have h1 := Int.emod_nonneg q (show (256 : Int) ≠ 0 by omega)
  have h2 := Int.emod_lt_of_pos q (show (0 : Int) < 256 by omega)
  rw [UInt8.toNat_ofNat_of_lt' (by show (q % 256).toNat < 256; omega)]
  omega
def cellsU (xs : List UInt8) : List Value := xs.map cellU
theorem be_length (k : Nat) (v : Int) : (be k v).length = k := by
  induction k with
  | zero => rfl
  | succ k ih => simp [be, ih]

theorem be_part {ys xs : List UInt8} {j k : Nat} {v : Int} (h : ys ++ be j v = xs ++ be k v) : ys.length ≤ xs.length + k := by
  have := congrArg List.length h
  simp [be_length] at this
  omega

/-- what a call keeps that grows a row of its own, of element type e, from block base on: all blocks below base, and all that are no such row -/
structure Keeps (e : TypeId) (base : Nat) (w w' : World) : Prop where
  os : w'.os = w.os
  tape : w'.tape = w.tape
  output : w'.output = w.output
  size : w.heap.size ≤ w'.heap.size
  block : ∀ k, k < w.heap.size → (k < base ∨ ∀ cur, w.heap[k]? ≠ some (.cells cur e (0, 0))) → w'.heap[k]? = w.heap[k]?
theorem Keeps.refl (e : TypeId) (base : Nat) (w : World) : Keeps e base w w := ⟨rfl, rfl, rfl, Nat.le_refl _, fun _ _ _ => rfl⟩
theorem Keeps.trans {e : TypeId} {base : Nat} {a b c : World} (h : Keeps e base a b) (k : Keeps e base b c) : Keeps e base a c :=
  ⟨k.os.trans h.os, k.tape.trans h.tape, k.output.trans h.output, Nat.le_trans h.size k.size, fun i hi hx => by
    have h1 := h.block i hi hx
    rw [← h1] at hx
    exact (k.block i (Nat.lt_of_lt_of_le hi h.size) hx).trans h1⟩
theorem Keeps.grown {e : TypeId} {base size : Nat} {v : Value} {n : Nat} {xs : List Value} {w w' : World} (ho : w.ownsRow base e size v n xs) (hg : w.grownBy w' v.ownBlock) : Keeps e base w w' :=
  ⟨hg.os, hg.tape, hg.output, hg.size, fun k hk hx => hg.block k hk fun hr => by
    rcases ho.2 with ⟨rfl, _⟩ | ⟨g, cap, cur, rfl, hb, hh, _⟩
    · simp [Value.ownBlock] at hr
    · simp only [Value.ownBlock, Option.some.injEq] at hr
      subst hr
      rcases hx with hx | hx
      · omega
      · exact hx cur hh⟩
theorem Keeps.alloc {e : TypeId} {base : Nat} {a w : World} (h : Keeps e base a w) (o : Obj) : Keeps e base a (w.alloc o) :=
  h.trans ⟨rfl, rfl, rfl, by simp, fun k hk _ => Below.heap_alloc _ _ _ hk⟩
theorem Keeps.drewN {e : TypeId} {base : Nat} {a w : World} (h : Keeps e base a w) (n : Nat) : Keeps e base a (w.drewN n) := ⟨h.os, h.tape, h.output, h.size, h.block⟩
theorem Keeps.drew {e : TypeId} {base : Nat} {a w : World} (h : Keeps e base a w) : Keeps e base a w.drew := ⟨h.os, h.tape, h.output, h.size, h.block⟩
theorem Keeps.below {e : TypeId} {base : Nat} {a w : World} (h : Keeps e base a w) (hb : base ≤ a.heap.size) : Below base a w := ⟨h.os, h.tape, h.output, h.size, fun k hk => h.block k (by omega) (.inl hk)⟩
theorem Keeps.mono {e : TypeId} {base base' : Nat} {a w : World} (h : Keeps e base a w) (hb : base' ≤ base) : Keeps e base' a w := ⟨h.os, h.tape, h.output, h.size, fun k hk hx => h.block k hk (hx.imp (by omega) id)⟩
theorem Keeps.of_below {e : TypeId} {base : Nat} {a w : World} (h : Below a.heap.size a w) : Keeps e base a w := ⟨h.os, h.tape, h.output, h.size, fun k hk _ => h.block k hk⟩
/-- a cell of a block of another make stays -/
theorem Keeps.cell {e f : TypeId} {base : Nat} {a w : World} (h : Keeps e base a w) {g : Nat} {cs : Array Value} {fr : Nat × Nat} (hg : a.heap[g]? = some (.cells cs f fr)) (hf : f ≠ e) : w.heap[g]? = some (.cells cs f fr) := by
  have hlt : g < a.heap.size := (Array.getElem?_eq_some_iff.1 hg).1
  rw [h.block g hlt (.inr fun cur hc => by rw [hg] at hc; simp at hc; exact hf hc.2.1)]
  exact hg
theorem one_new (w : World) (x : Value) (t : TypeId) : ∀ j u, [x][j]? = some u → (w.alloc (.cells #[x] t)).cell? ((⟨w.heap.size, 0, none⟩ : Addr).add j) = some u := by
  intro j u hj
  match j, hj with
  | 0, hj => simp at hj; subst hj; simp [Addr.add]
theorem one_cell {x : UInt8} : ∀ u ∈ [cellU x], u.oneCell' = true := by
  intro u hu
  simp at hu
  subst hu
  rfl
theorem owns_mono {w : World} {base base' : Nat} {e : TypeId} {size : Nat} {v : Value} {n : Nat} {xs : List Value} (h : w.ownsRow base e size v n xs) (hb : base' ≤ base) : w.ownsRow base' e size v n xs := by
  refine ⟨h.1, ?_⟩
  rcases h.2 with h2 | ⟨g, cap, cur, hv, hg, r⟩
  · exact .inl h2
  · exact .inr ⟨g, cap, cur, hv, by omega, r⟩
theorem Keeps.grown_none {e : TypeId} {base : Nat} {w w' : World} (hg : w.grownBy w' none) : Keeps e base w w' := ⟨hg.os, hg.tape, hg.output, hg.size, fun k hk _ => hg.block k hk (by simp)⟩
def strB (l : List UInt8) : ByteArray := ⟨l.toArray⟩
theorem push_fold : ∀ (ns : List UInt8) (s : ByteArray), (ns.map fun x => (x.toNat : Int)).foldl (fun r n => r.push (UInt8.ofNat n.toNat)) s = ⟨s.data ++ ns.toArray⟩
  | [], s => by simp
  | x :: ns, s => by
    simp only [List.map_cons, List.foldl_cons]
    rw [push_fold ns]
    have e : UInt8.ofNat (x.toNat : Int).toNat = x := by simp
    rw [e]
    congr 1
    simp [ByteArray.push]
/-- a row of bytes as a string -/
theorem run_row_string {P : Program} {w : World} {base : Nat} {e s d : TypeId} {v : Value} {xs : List UInt8} (ho : w.ownsRow base e 1 v xs.length (cellsU xs))
    (hs : P.underlying s = some (.slice e)) (he : P.underlying e = some (.int .u8)) (hd : P.underlying d = some .string) :
    (convert s d v).run P w = .ok (.string (strB xs)) w := by
  rcases ho.2 with ⟨rfl, h0⟩ | ⟨g, cap, cur, rfl, hb, hg, hn, hc, hsz, ht⟩
  · obtain rfl : xs = [] := List.eq_nil_of_length_eq_zero h0
    rw [run_convert_bytes_string w s d e none 0 0 hs he hd]
    rfl
  · rw [run_convert_bytes_string w s d e _ _ _ hs he hd]
    have hl : (loadCells ⟨g, 0, none⟩ xs.length).run P w = .ok ((xs.map fun x => (x.toNat : Int)).map (Value.int .u8)).toArray w := by
      have h := run_loadCells_list (P := P) (w := w) ⟨g, 0, none⟩ (cellsU xs) (fun j v hv => ho.cells rfl j v hv)
      have e1 : (cellsU xs).length = xs.length := by simp [cellsU]
      have e2 : (xs.map fun x => (x.toNat : Int)).map (Value.int .u8) = cellsU xs := by simp [cellsU, cellU, Function.comp_def]
      rw [e1] at h
      rw [h, e2]
    rw [run_bytesToString w _ _ _ _ hl, push_fold]
    simp [strB, ByteArray.empty, ByteArray.emptyWithCapacity]
    rfl
end Go.Proofs.YtpmapdialjdcbaaDoor.C2
