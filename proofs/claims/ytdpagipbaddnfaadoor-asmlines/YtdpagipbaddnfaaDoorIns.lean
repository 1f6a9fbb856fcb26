/-
  Operands in memory; an instruction of them.
-/
import Derived.Test.YtdpagipbaddnfaaDoorKinds
import Derived.Laws.CopyOwn
namespace Go.Proofs.YtdpagipbaddnfaaDoor
open Go.RowKit L3
open C2 (In insV)

/-- a slice of numbers -/
def SlN (w : World) (v : Value) (xs : List Int) : Prop := ∃ a c, v = .slice a xs.length c ∧ ∀ k (h : k < xs.length), ∃ g f, a = some ⟨g, f, none⟩ ∧ w.cell? ⟨g, f + k, none⟩ = some (.int .i64 xs[k])
def cellsN (xs : List Int) : List Value := xs.map (Value.int .i64)
theorem own_slN {w : World} {B : Nat} {v : Value} {xs : List Int} (h : w.ownsRow B 3 1 v xs.length (cellsN xs)) : SlN w v xs := by
  rcases h.2 with ⟨rfl, h0⟩ | ⟨g, cap, cur, rfl, _⟩
  · exact ⟨none, 0, by rw [h0], fun k hk => by omega⟩
  · refine ⟨some ⟨g, 0, none⟩, cap, rfl, fun k hk => ⟨g, 0, rfl, ?_⟩⟩
    rw [Nat.zero_add, h.cellAt _ (by omega)]
    simp [cellsN, hk]
theorem SlN.kept {w w' : World} {v : Value} {xs : List Int} (h : SlN w v xs) (hb : Below w.heap.size w w') : SlN w' v xs := by
  obtain ⟨a, c, e, hk⟩ := h
  refine ⟨a, c, e, fun k h => ?_⟩
  obtain ⟨g, f, e2, ht⟩ := hk k h
  refine ⟨g, f, e2, ?_⟩
  rw [World.cell?_of_block (hb.block _ (World.block_lt_of_cell? w _ ht))]
  exact ht
/-- nothing but the block r is turned -/
structure Only (r : Nat) (w w' : World) : Prop where
  os : w'.os = w.os
  tape : w'.tape = w.tape
  output : w'.output = w.output
  size : w'.heap.size = w.heap.size
  block : ∀ k, k ≠ r → w'.heap[k]? = w.heap[k]?
theorem Only.refl (r : Nat) (w : World) : Only r w w := ⟨rfl, rfl, rfl, rfl, fun _ _ => rfl⟩
theorem Only.trans {r : Nat} {a b c : World} (h : Only r a b) (k : Only r b c) : Only r a c := ⟨k.os.trans h.os, k.tape.trans h.tape, k.output.trans h.output, k.size.trans h.size, fun i hi => (k.block i hi).trans (h.block i hi)⟩
theorem Only.set {r : Nat} (w : World) (f : Nat) (v : Value) : Only r w (w.setCell ⟨r, f, none⟩ v) := ⟨rfl, rfl, rfl, by simp [World.setCell], fun k hk => Below.heap_setCell _ _ _ _ hk⟩
theorem Only.below {r : Nat} {w w' : World} (h : Only r w w') {B : Nat} (hr : B ≤ r) : Below B w w' := ⟨h.os, h.tape, h.output, by rw [h.size]; exact Nat.le_refl _, fun k hk => h.block k (by omega)⟩
theorem setRow_at {w : World} {g : Nat} {cur : Array Value} {t : TypeId} {fr : Nat × Nat} (hg : w.heap[g]? = some (.cells cur t fr)) (cs : Array Value) : (w.setRow g cs).heap[g]? = some (.cells cs t fr) := by
  simp [World.setRow, Array.getElem?_modify, hg]
theorem setRow_only (w : World) (g : Nat) (cs : Array Value) : Only g w (w.setRow g cs) :=
  ⟨rfl, rfl, rfl, by simp [World.setRow], fun k hk => by simp [World.setRow, Array.getElem?_modify, Ne.symm hk]⟩
def pad3 (xs : List Int) : Array Value := #[.int .i64 (xs.getD 0 0), .int .i64 (xs.getD 1 0), .int .i64 (xs.getD 2 0)]
theorem sizeInt : (Tryd.prog.info? 3).map (·.size) = some 1 := by kernel_rfl
theorem addr_add (g f j : Nat) : (⟨g, f, none⟩ : Addr).add j = ⟨g, f + j, none⟩ := by
  unfold Addr.add
  split
  · rename_i h
    simp_all
  · rfl
theorem copy3_run (w : World) (g : Nat) (v : Value) (xs : List Int) (hx : xs.length ≤ 3) (hS : SlN w v xs)
    (hg : w.heap[g]? = some (.cells #[.int .i64 0, .int .i64 0, .int .i64 0] 87 (0, 0))) :
    ∃ w1, (Builtin.copy_ #[34, 34] 3 #[.slice (some ⟨g, 0, none⟩) 3 3, v]).run Tryd.prog w = .ok (goInt xs.length) w1 ∧ w1.heap[g]? = some (.cells (pad3 xs) 87 (0, 0)) ∧ Only g w w1 := by
  obtain ⟨ad, c, rfl, hk⟩ := hS
  by_cases h0 : xs.length = 0
  · obtain rfl : xs = [] := List.length_eq_zero_iff.1 h0
    exact ⟨w, run_copy_none w _ _ _ 3 _ _ _ _ _ _ Tryd.underlying34 sizeInt (by simp), hg, Only.refl _ _⟩
  · obtain ⟨g1, f1, rfl, _⟩ := hk 0 (by omega)
    have hr := run_copy_row (P := Tryd.prog) w 34 34 3 3 g 0 3 3 ⟨g1, f1, none⟩ xs.length c _ _ (cellsN xs) Tryd.underlying34 sizeInt hg (by rw [show Nat.min xs.length 3 = xs.length from Nat.min_eq_left hx]; simp [cellsN]) (fun j u hj => by
      have hj' : j < xs.length := by
        have := (List.getElem?_eq_some_iff.1 hj).1
        simpa [cellsN] using this
      obtain ⟨g2, f2, e2, hc⟩ := hk j hj'
      simp at e2
      obtain ⟨rfl, rfl⟩ := e2
      simp [cellsN, hj'] at hj
      subst hj
      rw [addr_add]
      exact hc) (by simp [cellsN]; omega) (fun u hu => by
      simp [cellsN] at hu
      obtain ⟨z, _, rfl⟩ := hu
      rfl)
    have e : (List.take 0 (#[.int .i64 0, .int .i64 0, .int .i64 0] : Array Value).toList ++ cellsN xs ++ List.drop (0 + (cellsN xs).length) (#[.int .i64 0, .int .i64 0, .int .i64 0] : Array Value).toList).toArray = pad3 xs := by
      match xs, hx with
      | [], _ => rfl
      | [a], _ => rfl
      | [a, b], _ => rfl
      | [a, b, c], _ => rfl
      | a :: b :: c :: d :: r, h => simp at h
    rw [e, show (cellsN xs).length = xs.length by simp [cellsN]] at hr
    exact ⟨_, hr, setRow_at hg _, setRow_only _ _ _⟩
set_option maxRecDepth 4000 in
theorem instruction_any (k : Nat) (xs : List Int) (v : Value) (w : World) (hx : xs.length ≤ 3) (hS : SlN w v xs) :
    Calls Tryd.prog 46 #[.int .i64 (k : Int), v] w fun e w' => e = .returned (insV (insOf k xs)) ∧ Below w.heap.size w w' := by
  have hS2 : SlN ((w.alloc (.cells #[.int .i64 0, .int .i64 0, .int .i64 0, .int .i64 0] 50)).alloc (.cells #[.int .i64 0, .int .i64 0, .int .i64 0] 87)) v xs := hS.kept (((Below.refl _ _).alloc (Nat.le_refl _) _).alloc (by simp) _)
  obtain ⟨w1, hrun, hg1, ho1⟩ := copy3_run _ (w.heap.size + 1) v xs hx hS2 (heap_alloc2_new _ _ _)
  have hr1 : w1.heap[w.heap.size]? = some (.cells #[.int .i64 0, .int .i64 0, .int .i64 0, .int .i64 0] 50 (0, 0)) := (ho1.block _ (by omega)).trans (heap_alloc2_old _ _ _)
  have c0 := cell_of_row w1 _ 0 _ _ _ hg1
  have c1 := cell_of_row w1 _ 1 _ _ _ hg1
  have c2 := cell_of_row w1 _ 2 _ _ _ hg1
  have d0 := cell_of_row w1 _ 0 _ _ _ hr1
  have d1 := cell_of_row w1 _ 1 _ _ _ hr1
  have d2 := cell_of_row w1 _ 2 _ _ _ hr1
  have d3 := cell_of_row w1 _ 3 _ _ _ hr1
  have f0 := frozen_of_row w1 _ 0 _ _ hr1
  have f1 := frozen_of_row w1 _ 1 _ _ hr1
  have f2 := frozen_of_row w1 _ 2 _ _ hr1
  have f3 := frozen_of_row w1 _ 3 _ _ hr1
  simp [pad3] at c0 c1 c2 d0 d1 d2 d3
  have hb : Below w.heap.size w w1 := (((Below.refl _ _).alloc (Nat.le_refl _) _).alloc (by simp) _).trans (ho1.below (by omega))
  have HP : Hid (Below w.heap.size w w1) := hb
  clear hg1 hr1 ho1 hS2 hb
  go_enter Tryd.func46, Tryd.ntmps46
  go_wp2_with fail
  exact bodyPost_ret (v := insV (insOf k xs)) (by simp [results, Tryd.results46, go_sem, d0, d1, d2, d3, insV, insOf]) rfl ⟨rfl, (((HP.out.setCell (by simp) _).setCell (by simp) _).setCell (by simp) _).setCell (by simp) _⟩
end Go.Proofs.YtdpagipbaddnfaaDoor
