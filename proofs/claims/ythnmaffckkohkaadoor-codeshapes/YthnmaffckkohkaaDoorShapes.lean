/-
  The law CodeShapes: its table in a map, and its walk.
-/
import Derived.Test.YthnmaffckkohkaaDoorAwake
import Derived.MapKept
namespace Go.Proofs.YthnmaffckkohkaaDoor
open Go.RowKit

/-- the law's table: rows by key, as they are put -/
def rowsT : List (Int × Int × Int × Int) := [(2, 7, 7, 7), (3, 7, 7, 7), (4, 7, 7, 7), (5, 7, 7, 7), (6, 7, 7, 7), (1, 7, 2147483647, 0), (7, 39, 0, 0), (8, 7, 39, 0), (9, 3, 11, 7), (10, 7, 3, 0), (11, 15, 7, 0), (12, 7, 15, 0), (13, 3, 0, 0), (14, 0, 0, 0), (15, 7, 0, 0)]
def entryOf (i : Nat) (r : Int × Int × Int × Int) : MapEntry := { key := .int .i64 r.1, val := .agg #[.int .i64 r.2.1, .int .i64 r.2.2.1, .int .i64 r.2.2.2], born := i }
def mapAt (n : Nat) : Array MapEntry := ((rowsT.take n).mapIdx entryOf).toArray
theorem setLast {α : Type} (a : Array α) (x y : α) : (a.push x).setIfInBounds a.size y = a.push y := by
  apply Array.ext_getElem?
  intro i
  rw [Array.getElem?_setIfInBounds, Array.getElem?_push, Array.getElem?_push]
  by_cases h : a.size = i
  · subst h
    simp
  · rw [if_neg h]
    split <;> simp_all
theorem run_update_new {P : Program} {T K E : TypeId} (hm : P.underlying T = some (.map K E)) (hk : P.underlying K = some (.int .i64)) (w : World) (es es' : Array MapEntry) (c : Nat) (k : Int) (v : Value)
    (hf : Instr.findNow (.int .i64) (.int .i64 k) es.toList 0 = some none) (he : es.push { key := .int .i64 k, val := v, born := c } = es') :
    (Instr.mapUpdate T (.map (some w.heap.size)) (.int .i64 k) v).run P (w.alloc (.map es c)) = .ok () (w.alloc (.map es' (c + 1))) := by
  subst he
  have hg : (w.alloc (.map es c)).heap[w.heap.size]? = some (.map es c) := heap_alloc_new w _
  have hset : ({ w.alloc (.map es c) with heap := (w.alloc (.map es c)).heap.setIfInBounds w.heap.size (.map (es.push { key := .int .i64 k, val := v, born := c }) (c + 1)) } : World) = w.alloc (.map (es.push { key := .int .i64 k, val := v, born := c }) (c + 1)) := by
    show ({ w.alloc (.map es c) with heap := (w.heap.push (.map es c)).setIfInBounds w.heap.size _ } : World) = { w with heap := w.heap.push _ }
    rw [setLast]
    rfl
  have hc : (Instr.checkKey false 10000 K (.int .i64 k)).run P (w.alloc (.map es c)) = .ok () (w.alloc (.map es c)) := MapKept.run_checkKey (k := .int .i64 k) hk (by simp [MapKept.IsKey]) false 9999
  simp only [Instr.mapUpdate, Sem.run_bind, run_underlying hm, MapKept.run_getObj_map hg, hc, MapKept.run_findKey hk hf, MapKept.run_setObj_map _ hg, Result.andThen, hset]
theorem run_lookup_map {P : Program} {T K E : TypeId} (hm : P.underlying T = some (.map K E)) (hk : P.underlying K = some (.int .i64)) (w : World) (g : Nat) (es : Array MapEntry) (c : Nat) (k : Int) (i : Nat) (v : Value)
    (hg : w.heap[g]? = some (.map es c)) (hf : Instr.findNow (.int .i64) (.int .i64 k) es.toList 0 = some (some (i, v))) :
    (Instr.lookup T (.map (some g)) (.int .i64 k) false).run P w = .ok v w := by
  have hc : (Instr.checkKey es.isEmpty 10000 K (.int .i64 k)).run P w = .ok () w := MapKept.run_checkKey (k := .int .i64 k) hk (by simp [MapKept.IsKey]) _ 9999
  simp [Instr.lookup, run_underlying hm, MapKept.run_getObj_map hg, hc, MapKept.run_findKey hk hf, Result.andThen]
/-- what the table's map holds at an instruction is the package's row -/
theorem row_at (o : Int) (h1 : 1 ≤ o) (h2 : o ≤ 15) : ∃ i, Instr.findNow (.int .i64) (.int .i64 o) (mapAt 15).toList 0 = some (some (i, .agg #[.int .i64 (lastOf o 0), .int .i64 (lastOf o 1), .int .i64 (lastOf o 2)])) := by
  rcases (by omega : o = 1 ∨ o = 2 ∨ o = 3 ∨ o = 4 ∨ o = 5 ∨ o = 6 ∨ o = 7 ∨ o = 8 ∨ o = 9 ∨ o = 10 ∨ o = 11 ∨ o = 12 ∨ o = 13 ∨ o = 14 ∨ o = 15) with rfl | rfl | rfl | rfl | rfl | rfl | rfl | rfl | rfl | rfl | rfl | rfl | rfl | rfl | rfl
  · exact ⟨5, by kernel_rfl⟩
  · exact ⟨0, by kernel_rfl⟩
  · exact ⟨1, by kernel_rfl⟩
  · exact ⟨2, by kernel_rfl⟩
  · exact ⟨3, by kernel_rfl⟩
  · exact ⟨4, by kernel_rfl⟩
  · exact ⟨6, by kernel_rfl⟩
  · exact ⟨7, by kernel_rfl⟩
  · exact ⟨8, by kernel_rfl⟩
  · exact ⟨9, by kernel_rfl⟩
  · exact ⟨10, by kernel_rfl⟩
  · exact ⟨11, by kernel_rfl⟩
  · exact ⟨12, by kernel_rfl⟩
  · exact ⟨13, by kernel_rfl⟩
  · exact ⟨14, by kernel_rfl⟩

theorem mapAt_0 : mapAt 0 = #[] := rfl
theorem put_0 (w : World) : (Instr.mapUpdate 45 (.map (some w.heap.size)) (.int .i64 2) (.agg #[.int .i64 7, .int .i64 7, .int .i64 7])).run Tryd.prog (w.alloc (.map #[] 0)) = .ok () (w.alloc (.map (mapAt 1) 1)) :=
  run_update_new Tryd.underlying45 Tryd.underlying3 w _ _ _ _ _ (by kernel_rfl) (by kernel_rfl)
theorem put_1 (w : World) : (Instr.mapUpdate 45 (.map (some w.heap.size)) (.int .i64 3) (.agg #[.int .i64 7, .int .i64 7, .int .i64 7])).run Tryd.prog (w.alloc (.map (mapAt 1) 1)) = .ok () (w.alloc (.map (mapAt 2) 2)) :=
  run_update_new Tryd.underlying45 Tryd.underlying3 w _ _ _ _ _ (by kernel_rfl) (by kernel_rfl)
theorem put_2 (w : World) : (Instr.mapUpdate 45 (.map (some w.heap.size)) (.int .i64 4) (.agg #[.int .i64 7, .int .i64 7, .int .i64 7])).run Tryd.prog (w.alloc (.map (mapAt 2) 2)) = .ok () (w.alloc (.map (mapAt 3) 3)) :=
  run_update_new Tryd.underlying45 Tryd.underlying3 w _ _ _ _ _ (by kernel_rfl) (by kernel_rfl)
theorem put_3 (w : World) : (Instr.mapUpdate 45 (.map (some w.heap.size)) (.int .i64 5) (.agg #[.int .i64 7, .int .i64 7, .int .i64 7])).run Tryd.prog (w.alloc (.map (mapAt 3) 3)) = .ok () (w.alloc (.map (mapAt 4) 4)) :=
  run_update_new Tryd.underlying45 Tryd.underlying3 w _ _ _ _ _ (by kernel_rfl) (by kernel_rfl)
theorem put_4 (w : World) : (Instr.mapUpdate 45 (.map (some w.heap.size)) (.int .i64 6) (.agg #[.int .i64 7, .int .i64 7, .int .i64 7])).run Tryd.prog (w.alloc (.map (mapAt 4) 4)) = .ok () (w.alloc (.map (mapAt 5) 5)) :=
  run_update_new Tryd.underlying45 Tryd.underlying3 w _ _ _ _ _ (by kernel_rfl) (by kernel_rfl)
theorem put_5 (w : World) : (Instr.mapUpdate 45 (.map (some w.heap.size)) (.int .i64 1) (.agg #[.int .i64 7, .int .i64 2147483647, .int .i64 0])).run Tryd.prog (w.alloc (.map (mapAt 5) 5)) = .ok () (w.alloc (.map (mapAt 6) 6)) :=
  run_update_new Tryd.underlying45 Tryd.underlying3 w _ _ _ _ _ (by kernel_rfl) (by kernel_rfl)
theorem put_6 (w : World) : (Instr.mapUpdate 45 (.map (some w.heap.size)) (.int .i64 7) (.agg #[.int .i64 39, .int .i64 0, .int .i64 0])).run Tryd.prog (w.alloc (.map (mapAt 6) 6)) = .ok () (w.alloc (.map (mapAt 7) 7)) :=
  run_update_new Tryd.underlying45 Tryd.underlying3 w _ _ _ _ _ (by kernel_rfl) (by kernel_rfl)
theorem put_7 (w : World) : (Instr.mapUpdate 45 (.map (some w.heap.size)) (.int .i64 8) (.agg #[.int .i64 7, .int .i64 39, .int .i64 0])).run Tryd.prog (w.alloc (.map (mapAt 7) 7)) = .ok () (w.alloc (.map (mapAt 8) 8)) :=
  run_update_new Tryd.underlying45 Tryd.underlying3 w _ _ _ _ _ (by kernel_rfl) (by kernel_rfl)
theorem put_8 (w : World) : (Instr.mapUpdate 45 (.map (some w.heap.size)) (.int .i64 9) (.agg #[.int .i64 3, .int .i64 11, .int .i64 7])).run Tryd.prog (w.alloc (.map (mapAt 8) 8)) = .ok () (w.alloc (.map (mapAt 9) 9)) :=
  run_update_new Tryd.underlying45 Tryd.underlying3 w _ _ _ _ _ (by kernel_rfl) (by kernel_rfl)
theorem put_9 (w : World) : (Instr.mapUpdate 45 (.map (some w.heap.size)) (.int .i64 10) (.agg #[.int .i64 7, .int .i64 3, .int .i64 0])).run Tryd.prog (w.alloc (.map (mapAt 9) 9)) = .ok () (w.alloc (.map (mapAt 10) 10)) :=
  run_update_new Tryd.underlying45 Tryd.underlying3 w _ _ _ _ _ (by kernel_rfl) (by kernel_rfl)
theorem put_10 (w : World) : (Instr.mapUpdate 45 (.map (some w.heap.size)) (.int .i64 11) (.agg #[.int .i64 15, .int .i64 7, .int .i64 0])).run Tryd.prog (w.alloc (.map (mapAt 10) 10)) = .ok () (w.alloc (.map (mapAt 11) 11)) :=
  run_update_new Tryd.underlying45 Tryd.underlying3 w _ _ _ _ _ (by kernel_rfl) (by kernel_rfl)
theorem put_11 (w : World) : (Instr.mapUpdate 45 (.map (some w.heap.size)) (.int .i64 12) (.agg #[.int .i64 7, .int .i64 15, .int .i64 0])).run Tryd.prog (w.alloc (.map (mapAt 11) 11)) = .ok () (w.alloc (.map (mapAt 12) 12)) :=
  run_update_new Tryd.underlying45 Tryd.underlying3 w _ _ _ _ _ (by kernel_rfl) (by kernel_rfl)
theorem put_12 (w : World) : (Instr.mapUpdate 45 (.map (some w.heap.size)) (.int .i64 13) (.agg #[.int .i64 3, .int .i64 0, .int .i64 0])).run Tryd.prog (w.alloc (.map (mapAt 12) 12)) = .ok () (w.alloc (.map (mapAt 13) 13)) :=
  run_update_new Tryd.underlying45 Tryd.underlying3 w _ _ _ _ _ (by kernel_rfl) (by kernel_rfl)
theorem put_13 (w : World) : (Instr.mapUpdate 45 (.map (some w.heap.size)) (.int .i64 14) (.agg #[.int .i64 0, .int .i64 0, .int .i64 0])).run Tryd.prog (w.alloc (.map (mapAt 13) 13)) = .ok () (w.alloc (.map (mapAt 14) 14)) :=
  run_update_new Tryd.underlying45 Tryd.underlying3 w _ _ _ _ _ (by kernel_rfl) (by kernel_rfl)
theorem put_14 (w : World) : (Instr.mapUpdate 45 (.map (some w.heap.size)) (.int .i64 15) (.agg #[.int .i64 7, .int .i64 0, .int .i64 0])).run Tryd.prog (w.alloc (.map (mapAt 14) 14)) = .ok () (w.alloc (.map (mapAt 15) 15)) :=
  run_update_new Tryd.underlying45 Tryd.underlying3 w _ _ _ _ _ (by kernel_rfl) (by kernel_rfl)

theorem by15 {p : Int → Prop} (h : ∀ n : Fin 15, p (1 + (n.val : Int))) (o : Int) (h1 : 1 ≤ o) (h2 : o ≤ 15) : p o := by
  have h3 : p (1 + (((o - 1).toNat : Nat) : Int)) := h ⟨(o - 1).toNat, by omega⟩
  have e : 1 + (((o - 1).toNat : Nat) : Int) = o := by omega
  rw [e] at h3
  exact h3
theorem shape_last {o : Int} (h1 : 1 ≤ o) (h2 : o ≤ 15) : shapeB o (lastOf o 0) (lastOf o 1) (lastOf o 2) = true :=
  by15 (p := fun o => shapeB o (lastOf o 0) (lastOf o 1) (lastOf o 2) = true) (by decide +kernel) o h1 h2
theorem shape_zero {o : Int} (h1 : 1 ≤ o) (h2 : o ≤ 15) : shapeB o 0 0 0 = true :=
  by15 (p := fun o => shapeB o 0 0 0 = true) (by decide +kernel) o h1 h2
theorem shape_over {k : Int} (h : 1 ≤ k) : shapeB (15 + k) 0 0 0 = false := by
  have : inB (15 + k) 1 15 = false := by simp [inB]; omega
  simp [shapeB, this]
theorem shape_under {k : Int} (h : 1 ≤ k) : shapeB (1 - k) 0 0 0 = false := by
  have : inB (1 - k) 1 15 = false := by simp [inB]; omega
  simp [shapeB, this]
theorem inB_over {v lo hi : Int} (h : hi < v) : inB v lo hi = false := by simp [inB]; omega
theorem inB_under {v lo hi : Int} (h : v < lo) : inB v lo hi = false := by simp [inB]; omega
theorem last_in : ∀ x ∈ lastsT, 0 ≤ x ∧ x ≤ 2147483647 := by decide
theorem last_bd (o k : Int) : 0 ≤ lastOf o k ∧ lastOf o k ≤ 2147483647 := by
  unfold lastOf
  by_cases h : 3 * o.toNat + k.toNat < lastsT.length
  · rw [List.getD_eq_getElem?_getD, List.getElem?_eq_getElem h]
    exact last_in _ (List.getElem_mem h)
  · rw [List.getD_eq_getElem?_getD, List.getElem?_eq_none (by omega)]
    simp
theorem last_a {o : Int} (h1 : 1 ≤ o) (h2 : o ≤ 15) : firstOf (lastOf o 0) = 0 :=
  by15 (p := fun o => firstOf (lastOf o 0) = 0) (by decide +kernel) o h1 h2
theorem shape_a {o a b c : Int} (h : lastOf o 0 < a) : shapeB o a b c = false := by simp [shapeB, inB_over h]
theorem shape_b {o a b c : Int} (h : lastOf o 1 < b) : shapeB o a b c = false := by simp [shapeB, inB_over h]
theorem shape_c {o a b c : Int} (h : lastOf o 2 < c) : shapeB o a b c = false := by simp [shapeB, inB_over h]
theorem shape_a' {o a b c : Int} (h1 : 1 ≤ o) (h2 : o ≤ 15) (h : a < 0) : shapeB o a b c = false := by simp [shapeB, last_a h1 h2, inB_under h]
theorem three_made (w : World) (x y z : Obj) : Below w.heap.size w (((w.alloc x).alloc y).alloc z) := (((Below.refl _ _).alloc (Nat.le_refl _) _).alloc (by simp) _).alloc (by simp; omega) _
theorem three_last (w : World) (x y z : Obj) : (((w.alloc x).alloc y).alloc z).heap[w.heap.size + 1 + 1]? = some z := by
  have := heap_alloc_new ((w.alloc x).alloc y) z
  simpa using this
set_option maxHeartbeats 1000000 in
theorem shapes_walk (a0 a1 a2 : Int) (w : World) (hT : Tab w) : Calls Tryd.prog 6 #[.int .i64 a0, .int .i64 a1, .int .i64 a2] w fun e w' => e = .returned (.bool true) ∧ Below w.heap.size w w' := by
  have hmm := @run_makeMap Tryd.prog
  have q0 := put_0
  have q1 := put_1
  have q2 := put_2
  have q3 := put_3
  have q4 := put_4
  have q5 := put_5
  have q6 := put_6
  have q7 := put_7
  have q8 := put_8
  have q9 := put_9
  have q10 := put_10
  have q11 := put_11
  have q12 := put_12
  have q13 := put_13
  have q14 := put_14
  obtain ⟨o, ho⟩ : ∃ o, 1 + placeI a0 15 = o := ⟨_, rfl⟩
  obtain ⟨k, hk⟩ : ∃ k, 1 + placeI a2 100 = k := ⟨_, rfl⟩
  have hob := placeI_bd a0 15 (by omega)
  have hkb := placeI_bd a2 100 (by omega)
  have hcb := placeI_bd a1 4 (by omega)
  have ho1 : 1 ≤ o := by omega
  have ho2 : o ≤ 15 := by omega
  have hk1 : 1 ≤ k := by omega
  have hk2 : k ≤ 100 := by omega
  obtain ⟨i, hrow⟩ := row_at o ho1 ho2
  have hlk : ∀ wx : World, (Instr.lookup 45 (.map (some wx.heap.size)) (.int .i64 o) false).run Tryd.prog (wx.alloc (.map (mapAt 15) 15)) = .ok (.agg #[.int .i64 (lastOf o 0), .int .i64 (lastOf o 1), .int .i64 (lastOf o 2)]) (wx.alloc (.map (mapAt 15) 15)) := fun wx => run_lookup_map Tryd.underlying45 Tryd.underlying3 _ _ _ _ _ i _ (heap_alloc_new _ _) hrow
  have s1 := shape_last ho1 ho2
  have s2 := shape_zero ho1 ho2
  have s3 := shape_over hk1
  have s4 := shape_under hk1
  have l0 := last_bd o 0
  have l1 := last_bd o 1
  have l2 := last_bd o 2
  clear hrow
  go_enter Tryd.func6, Tryd.ntmps6
  go_wp2_with (go_at_call 19; refine (place_any _ _ _ (by omega) (by omega)).mono ?_; rintro e w' ⟨rfl, rfl⟩)
  have hb3 := three_made w' (.map (mapAt 15) 15) (.cells #[.int .i64 (lastOf o 0), .int .i64 (lastOf o 1), .int .i64 (lastOf o 2)] 44) (.cells #[.int .i64 o, .int .i64 (lastOf o 0), .int .i64 (lastOf o 1), .int .i64 (lastOf o 2)] 26)
  have hx3 := three_last w' (.map (mapAt 15) 15) (.cells #[.int .i64 (lastOf o 0), .int .i64 (lastOf o 1), .int .i64 (lastOf o 2)] 44) (.cells #[.int .i64 o, .int .i64 (lastOf o 0), .int .i64 (lastOf o 1), .int .i64 (lastOf o 2)] 26)
  refine (shape_any _ _ _ _ _ (hT.below hb3)).mono ?_
  rintro e w4 ⟨rfl, hb4'⟩
  have hb4 := hb3.trans (hb4'.mono hb3.size)
  have hx4 : w4.heap[w'.heap.size + 1 + 1]? = some (.cells #[.int .i64 o, .int .i64 (lastOf o 0), .int .i64 (lastOf o 1), .int .i64 (lastOf o 2)] 26 (0, 0)) := (hb4'.block _ (lt_of_block hx3)).trans hx3
  clear hb4' hx3 hb3 hmm q0 q1 q2 q3 q4 q5 q6 q7 q8 q9 q10 q11 q12 q13 q14 hlk
  go_wp2_with fail
  refine (shape_any _ _ _ _ _ (hT.below hb4)).mono ?_
  rintro e w5 ⟨rfl, hb5'⟩
  have hb5 := hb4.trans (hb5'.mono hb4.size)
  have hx5 := (hb5'.block _ (lt_of_block hx4)).trans hx4
  clear hb5' hx4 hb4
  go_wp2_with fail
  refine (shape_any _ _ _ _ _ (hT.below hb5)).mono ?_
  rintro e w6 ⟨rfl, hb6'⟩
  have hb6 := hb5.trans (hb6'.mono hb5.size)
  have hx6 := (hb6'.block _ (lt_of_block hx5)).trans hx5
  clear hb6' hx5 hb5
  go_wp2_with fail
  refine (shape_any _ _ _ _ _ (hT.below hb6)).mono ?_
  rintro e w7 ⟨rfl, hb7'⟩
  have hb7 := hb6.trans (hb7'.mono hb6.size)
  have hx7 := (hb7'.block _ (lt_of_block hx6)).trans hx6
  have c0 := cell_of_row w7 _ 0 _ _ _ hx7
  have c1 := cell_of_row w7 _ 1 _ _ _ hx7
  have c2 := cell_of_row w7 _ 2 _ _ _ hx7
  have c3 := cell_of_row w7 _ 3 _ _ _ hx7
  have f1 := frozen_of_row w7 _ 1 _ _ hx7
  have f2 := frozen_of_row w7 _ 2 _ _ hx7
  have f3 := frozen_of_row w7 _ 3 _ _ hx7
  simp at c0 c1 c2 c3
  clear hb7' hx6 hb6
  go_wp2_with fail
  refine (place_any _ _ _ (by omega) (by omega)).mono ?_
  rintro e w7 ⟨rfl, rfl⟩
  rcases (by omega : placeI a1 4 = 0 ∨ placeI a1 4 = 1 ∨ placeI a1 4 = 2 ∨ placeI a1 4 = 3) with hc | hc | hc | hc
  · rw [hc]
    have hs : shapeB o (lastOf o 0 + k) (lastOf o 1) (lastOf o 2) = false := shape_a (by omega)
    go_wp2_with fail
    refine (shape_any _ _ _ _ _ (hT.below (hb7.setCell (by simp; omega) _))).mono ?_
    rintro e w8 ⟨rfl, hb8⟩
    have hb8' := (hb7.setCell (p := ⟨w'.heap.size + 1 + 1, 1, none⟩) (by simp; omega) (.int .i64 (lastOf o 0 + k))).trans (hb8.mono (by have := hb7.size; simp [World.setCell]; omega))
    clear hb8
    go_wp2_with fail
    refine (awake_any _ (hT.below hb8')).mono ?_
    rintro e w9 ⟨rfl, hb9⟩
    go_wp2_with fail
    go_ret
    exact ⟨rfl, hb8'.trans (hb9.mono hb8'.size)⟩
  · rw [hc]
    have hs : shapeB o (lastOf o 0) (lastOf o 1 + k) (lastOf o 2) = false := shape_b (by omega)
    go_wp2_with fail
    refine (shape_any _ _ _ _ _ (hT.below (hb7.setCell (by simp; omega) _))).mono ?_
    rintro e w8 ⟨rfl, hb8⟩
    have hb8' := (hb7.setCell (p := ⟨w'.heap.size + 1 + 1, 2, none⟩) (by simp; omega) (.int .i64 (lastOf o 1 + k))).trans (hb8.mono (by have := hb7.size; simp [World.setCell]; omega))
    clear hb8
    go_wp2_with fail
    refine (awake_any _ (hT.below hb8')).mono ?_
    rintro e w9 ⟨rfl, hb9⟩
    go_wp2_with fail
    go_ret
    exact ⟨rfl, hb8'.trans (hb9.mono hb8'.size)⟩
  · rw [hc]
    have hs : shapeB o (lastOf o 0) (lastOf o 1) (lastOf o 2 + k) = false := shape_c (by omega)
    go_wp2_with fail
    refine (shape_any _ _ _ _ _ (hT.below (hb7.setCell (by simp; omega) _))).mono ?_
    rintro e w8 ⟨rfl, hb8⟩
    have hb8' := (hb7.setCell (p := ⟨w'.heap.size + 1 + 1, 3, none⟩) (by simp; omega) (.int .i64 (lastOf o 2 + k))).trans (hb8.mono (by have := hb7.size; simp [World.setCell]; omega))
    clear hb8
    go_wp2_with fail
    refine (awake_any _ (hT.below hb8')).mono ?_
    rintro e w9 ⟨rfl, hb9⟩
    go_wp2_with fail
    go_ret
    exact ⟨rfl, hb8'.trans (hb9.mono hb8'.size)⟩
  · rw [hc]
    have hs : shapeB o (-k) (lastOf o 1) (lastOf o 2) = false := shape_a' ho1 ho2 (by omega)
    go_wp2_with fail
    refine (shape_any _ _ _ _ _ (hT.below (hb7.setCell (by simp; omega) _))).mono ?_
    rintro e w8 ⟨rfl, hb8⟩
    have hb8' := (hb7.setCell (p := ⟨w'.heap.size + 1 + 1, 1, none⟩) (by simp; omega) (.int .i64 (-k))).trans (hb8.mono (by have := hb7.size; simp [World.setCell]; omega))
    clear hb8
    go_wp2_with fail
    refine (awake_any _ (hT.below hb8')).mono ?_
    rintro e w9 ⟨rfl, hb9⟩
    go_wp2_with fail
    go_ret
    exact ⟨rfl, hb8'.trans (hb9.mono hb8'.size)⟩
end Go.Proofs.YthnmaffckkohkaaDoor
