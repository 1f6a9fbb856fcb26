/-
  Helpers: V5Vf, V5Vx.
-/
import Derived.Test.YtpmapdialjdcbaaDoorBun08ba12097ca8
import Derived.Test.YtpmapdialjdcbaaDoorBun4d4d4aad1956
namespace Go.Proofs.YtpmapdialjdcbaaDoor.V5
open Go.RowKit
open C2 (In Pr SlF SlI InsAt Tab BoxedP below_alloc below_then still_of_below Still)

theorem infoI : (Tryd.prog.info? 3).map (fun i => (i.zero, i.size, i.bytes)) = some (some (.int .i64 0), 1, 8) := by kernel_rfl
def noughts (n : Nat) : Array Value := madeCells #[.int .i64 0] (n * 1)
theorem noughts_size (n : Nat) : (noughts n).size = n := by rw [noughts, size_madeCells]; omega
theorem noughts_at (n j : Nat) (h : j < n) : (noughts n)[j]? = some (.int .i64 0) := by
  have := toList_madeCells_one (.int .i64 0) n
  rw [noughts, Nat.mul_one, ← Array.getElem?_toList, this]
  simp [h]
theorem make_ints (n : Nat) (h : n ≤ 1000) (w : World) : (Instr.makeSlice 31 (.int .i64 (n : Int)) (.int .i64 (n : Int))).run Tryd.prog w = .ok (.slice (some ⟨w.heap.size, 0, none⟩) n n) (w.alloc (.cells (noughts n) 3)) := by
  obtain ⟨i0, hi, hz0, hz1, hz2⟩ := info_parts infoI
  have hr := run_make (P := Tryd.prog) w 31 3 i0 _ Tryd.underlying31 hi hz0 .i64 .i64 n n (by omega) (Int.le_refl _) (by rw [hz2]; omega) (by omega)
  simp only [Int.toNat_natCast, hz1] at hr
  exact hr
/-- the counts under way -/
structure FkAt (w : World) (G n : Nat) (fs : List (List In)) (i : Nat) (cur : Array Value) : Prop where
  block : w.heap[G]? = some (.cells cur 3 (0, 0))
  size : cur.size = n
  told : ∀ j (h : j < fs.length), j < i → cur[j]? = some (.int .i64 (cntF 9 fs[j]))
  rest : ∀ j, i ≤ j → j < n → cur[j]? = some (.int .i64 0)
theorem FkAt.same {w w' : World} {G n : Nat} {fs : List (List In)} {i : Nat} {cur : Array Value} (h : FkAt w G n fs i cur) (hb : w'.heap[G]? = w.heap[G]?) : FkAt w' G n fs i cur := ⟨hb.trans h.block, h.size, h.told, h.rest⟩
def FkPost (p : Pr) (w : World) (e : Ending) (w' : World) : Prop := ∃ a c, e = .returned (.slice a p.fs.length c) ∧ SlN w' (.slice a p.fs.length c) (forksF p.fs) ∧ Below w.heap.size w w'
theorem forksF_length (fs : List (List In)) : (forksF fs).length = fs.length := by simp [forksF]
end Go.Proofs.YtpmapdialjdcbaaDoor.V5
namespace Go.Proofs.YtpmapdialjdcbaaDoor.V5
open Go.RowKit
open C2 (In Pr SlF SlI InsAt Tab BoxedP below_alloc below_then still_of_below Still)

def is13 (x : In) : Bool := decide (x.o = 13)
def IdxPost (b : Bool) (n : Nat) (w : World) (e : Ending) (w' : World) : Prop := (∃ r : Int, e = .returned (.int .i64 r) ∧ (b = true → 0 ≤ r) ∧ (b = false → r = -1) ∧ r ≤ n) ∧ Below w.heap.size w w'
def any13 (f : List In) : Bool := f.any is13
theorem cancels_eq (fs : List (List In)) : cancelsF fs = fs.any any13 := rfl
end Go.Proofs.YtpmapdialjdcbaaDoor.V5
